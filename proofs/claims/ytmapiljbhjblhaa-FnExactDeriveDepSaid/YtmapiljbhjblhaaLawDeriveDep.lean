/- DeriveDep answers as its model at every argument; it writes into no argument; its answer owns its memory. Conditions: none beyond the row's own. -/
import Derived.Test.YtmapiljbhjblhaaUa16
import Derived.Test.YtmapiljbhjblhaaClEm
import Derived.Test.YtmapiljbhjblhaaDvBm
import Derived.Test.YtmapiljbhjblhaaUa21
namespace Go.Proofs.Ytmapiljbhjblhaa.lawFnExactDeriveDep
open Go.ChangeShapes Go.WideShapes Go.ChangeAt Go.RowKit
theorem laidOut : laidOutB Try.prog = true := by kernel_rfl

theorem own : ownKnob Try.prog.godebug = none := by kernel_rfl

theorem cellb {w w' : World} {p : Addr} {v : Value} (h : w.cell? p = some v) (b : Below w.heap.size w w') : w'.cell? p = some v := (b.cell (World.block_lt_of_cell? w _ h)).trans h
set_option maxRecDepth 20000 in
set_option maxHeartbeats 6400000 in
theorem walk (n : Int) (vl : Value) (l : List (Int × Int)) (x y : Int) (_w0 : (Lit.int .i64 n).wf = true) (_wx : (Lit.int .i64 x).wf = true) (_wy : (Lit.int .i64 y).wf = true) (w : World) (hrl : ReadD w vl l) (hml : l.length ≤ maxLen) (bdl : ∀ d ∈ l, (Lit.int .i64 d.1).wf = true ∧ (Lit.int .i64 d.2).wf = true) :
    Calls Try.prog 6 #[.int .i64 n, vl, .agg #[.int .i64 x, .int .i64 y]] w fun e w' => e = .returned (.bool true) ∧ Below w.heap.size w w' := by
  have hbx := (Below.refl w.heap.size w).alloc (Nat.le_refl _) (.cells #[.int .i64 x, .int .i64 y] 32)
  obtain ⟨y0, y1⟩ := zero2 w 32 (.int .i64 x) (.int .i64 y)
  have HBX : Hid (∀ w', Below (w.alloc (.cells #[.int .i64 x, .int .i64 y] 32)).heap.size (w.alloc (.cells #[.int .i64 x, .int .i64 y] 32)) w' → Below w.heap.size w w' ∧ w'.cell? ⟨w.heap.size, 0, none⟩ = some (.int .i64 x) ∧ w'.cell? ⟨w.heap.size, 1, none⟩ = some (.int .i64 y)) := Lib.hid (fun w' hb => ⟨hbx.trans (hb.mono hbx.size), (hb.cell (World.block_lt_of_cell? _ _ y0)).trans y0, (hb.cell (World.block_lt_of_cell? _ _ y1)).trans y1⟩)
  have HRF := Lib.hid (Below.refl (w.alloc (.cells #[.int .i64 x, .int .i64 y] 32)).heap.size (w.alloc (.cells #[.int .i64 x, .int .i64 y] 32)))
  have HW1 : Hid (w.heap.size + 1 ≤ (w.alloc (.cells #[.int .i64 x, .int .i64 y] 32)).heap.size) := Lib.hid (by simp)
  clear hbx y0 y1
  have hb := HRF.out
  by_cases hszl : (l.length : Int) ≤ 1048576
  · have HZl := Lib.hid (fun w' (hb : Below w.heap.size w w') => szDepS_any vl l w' (hrl.kept hb) (1048576) (by omega) (by omega) (by unfold maxLen at hml; omega))
    rw [szD_ok hszl] at HZl
    have hnegl : ¬ (1048576 - (l.length : Int) < 0) := by omega
    have HTO := Lib.hid (fun w' (hb : Below w.heap.size w w') => toDepS_any vl l w' (hrl.kept hb) (by omega))
    have HTD := Lib.hid (fun w' => toDep_any x y w')
    have HS := Lib.hid (fun ul w' (hl : ReadD w' ul l) => deriveDep10_any ul n x y l w' hl (by omega))
    have HI := Lib.hid (fun ul w' (hl : ReadD w' ul l) => implDeriveDep_any ul n x y l _w0 bdl _wx _wy w' hl (by omega))
    obtain ⟨d, hd, hdl⟩ : ∃ d, d = derL n l (x, y) ∧ d.length ≤ 1048576 := ⟨_, rfl, by have := derL_len n l (x, y); omega⟩
    obtain ⟨p, hp⟩ : ∃ p, p = impB n l (x, y) := ⟨_, rfl⟩
    rw [← hd, ← hp] at HS HI
    clear hd hp
    have hpp : (p != p) = false := by cases p <;> rfl
    obtain ⟨al, capl, rfl, -⟩ := hrl
    obtain ⟨kb, x0, x1⟩ := HBX.out _ hb
    go_enter Try.func6, Try.ntmps6
    go_wp2_with fail
    refine (HZl.out _ kb).mono ?_
    rintro e w1 ⟨rfl, rfl⟩
    go_upto_region 5 with fail
    refine wp_region_noPanic ?_
    refine wp_region_held_drew (S := (fun w' => (w'.cell? ⟨w.heap.size, 0, none⟩ = some (.int .i64 x) ∧ w'.cell? ⟨w.heap.size, 1, none⟩ = some (.int .i64 y)) ∧ Below (w.alloc (.cells #[.int .i64 x, .int .i64 y] 32)).heap.size (w.alloc (.cells #[.int .i64 x, .int .i64 y] 32)) w')) (by kernel_rfl) ?_ (fun hHeld => ?_)
    · ((try dsimp only); exact ⟨⟨x0, x1⟩, (Below.refl _ _).drew⟩)
    refine wpAnyH_take (i := 0) (v := ?_) rfl (by kernel_rfl) (by kernel_rfl) (by kernel_rfl) (fun _ _ _ h => h) (Or.inl ⟨by rfl, ?_⟩) (by assumption) ?_
    rotate_left
    · (intro w hSw; (try dsimp only at hSw); go_simp; (try with_reducible rfl))
    (try simp only [Act.put, List.getElem_toArray, List.getElem_cons_zero, List.setIfInBounds_toArray, List.set_cons_zero, List.set_cons_succ])
    refine wpAnyH_take (i := 1) (v := ?_) rfl (by kernel_rfl) (by kernel_rfl) (by kernel_rfl) (fun _ _ _ h => h) (Or.inl ⟨by rfl, ?_⟩) (by assumption) ?_
    rotate_left
    · (intro w hSw; (try dsimp only at hSw); go_simp; (try with_reducible rfl))
    (try simp only [Act.put, List.getElem_toArray, List.getElem_cons_succ, List.getElem_cons_zero, List.setIfInBounds_toArray, List.set_cons_zero, List.set_cons_succ])
    refine wpAnyH_take (i := 3) (v := ?_) rfl (by kernel_rfl) (by kernel_rfl) (by kernel_rfl) (fun _ _ _ h => h) (Or.inl ⟨by rfl, ?_⟩) (by assumption) ?_
    rotate_left
    · (intro w hSw; (try dsimp only at hSw); go_simp; (try with_reducible rfl))
    (try simp only [Act.put, List.getElem_toArray, List.getElem_cons_succ, List.getElem_cons_zero, List.setIfInBounds_toArray, List.set_cons_zero, List.set_cons_succ])
    refine wpAnyH_ready (rs := [2]) (by kernel_rfl) (by simp) (AllReadyH.cons rfl (fun K hK => ?_) AllReadyH.nil)
    (first | (go_at_call 12; refine (HTO.out _ (HBX.out _ (hb.trans (hHeld.2.mono hb.size))).1).mono ?_; rintro e w91 ⟨v91, rfl, o91, b91⟩; have R91 := Lib.hid o91.read) | (go_simp; go_at_call 12; refine (HTO.out _ (HBX.out _ (hb.trans (hHeld.2.mono hb.size))).1).mono ?_; rintro e w91 ⟨v91, rfl, o91, b91⟩; have R91 := Lib.hid o91.read))
    (try (go_wp2_with fail))
    refine hK.out _ _ ?_ (fun hHeld => ?_)
    · ((try dsimp only); exact ⟨⟨cellb hHeld.1.1 b91, cellb hHeld.1.2 b91⟩, hHeld.2.trans (b91.mono hHeld.2.size)⟩)
    clear hK K
    (try simp only [Act.put, List.getElem_toArray, List.getElem_cons_succ, List.getElem_cons_zero, List.setIfInBounds_toArray, List.set_cons_zero, List.set_cons_succ])
    refine wpAnyH_ready (rs := [4]) (by kernel_rfl) (by simp) (AllReadyH.cons rfl (fun K hK => ?_) AllReadyH.nil)
    (first | (go_at_call 18; refine (HTD.out _).mono ?_; rintro e w92 ⟨rfl, b92⟩; have R92 := Lib.hid (R91.out.kept b92)) | (go_simp; go_at_call 18; refine (HTD.out _).mono ?_; rintro e w92 ⟨rfl, b92⟩; have R92 := Lib.hid (R91.out.kept b92)))
    (try (go_wp2_with fail))
    refine hK.out _ _ ?_ (fun hHeld => ?_)
    · ((try dsimp only); exact ⟨⟨cellb hHeld.1.1 b92, cellb hHeld.1.2 b92⟩, hHeld.2.trans (b92.mono hHeld.2.size)⟩)
    clear hK K
    (try simp only [Act.put, List.getElem_toArray, List.getElem_cons_succ, List.getElem_cons_zero, List.setIfInBounds_toArray, List.set_cons_zero, List.set_cons_succ])
    refine wpAnyH_ready (rs := [5]) (by kernel_rfl) (by simp) (AllReadyH.cons rfl (fun K hK => ?_) AllReadyH.nil)
    (first | (go_at_call 20; refine (HS.out _ _ R92.out).mono ?_; rintro e w93 ⟨y0, rfl, oy, b93⟩) | (go_simp; go_at_call 20; refine (HS.out _ _ R92.out).mono ?_; rintro e w93 ⟨y0, rfl, oy, b93⟩))
    (try (go_wp2_with fail))
    refine hK.out _ _ ?_ (fun hHeld => ?_)
    · ((try dsimp only); exact ⟨⟨cellb hHeld.1.1 b93, cellb hHeld.1.2 b93⟩, hHeld.2.trans (b93.mono hHeld.2.size)⟩)
    clear hK K
    (try simp only [Act.put, List.getElem_toArray, List.getElem_cons_succ, List.getElem_cons_zero, List.setIfInBounds_toArray, List.set_cons_zero, List.set_cons_succ])
    refine wpAnyH_take (i := 6) (v := ?_) rfl (by kernel_rfl) (by kernel_rfl) (by kernel_rfl) (fun _ _ _ h => h) (Or.inl ⟨by rfl, ?_⟩) (by assumption) ?_
    rotate_left
    · (intro w hSw; (try dsimp only at hSw); go_simp; (try with_reducible rfl))
    (try simp only [Act.put, List.getElem_toArray, List.getElem_cons_succ, List.getElem_cons_zero, List.setIfInBounds_toArray, List.set_cons_zero, List.set_cons_succ])
    refine wpAnyH_take (i := 7) (v := ?_) rfl (by kernel_rfl) (by kernel_rfl) (by kernel_rfl) (fun _ _ _ h => h) (Or.inl ⟨by rfl, ?_⟩) (by assumption) ?_
    rotate_left
    · (intro w hSw; (try dsimp only at hSw); go_simp; (try with_reducible rfl))
    (try simp only [Act.put, List.getElem_toArray, List.getElem_cons_succ, List.getElem_cons_zero, List.setIfInBounds_toArray, List.set_cons_zero, List.set_cons_succ])
    refine wpAnyH_take (i := 8) (v := ?_) rfl (by kernel_rfl) (by kernel_rfl) (by kernel_rfl) (fun _ _ _ h => h) (Or.inl ⟨by rfl, ?_⟩) (by assumption) ?_
    rotate_left
    · (intro w hSw; (try dsimp only at hSw); go_simp; (try with_reducible rfl))
    (try simp only [Act.put, List.getElem_toArray, List.getElem_cons_succ, List.getElem_cons_zero, List.setIfInBounds_toArray, List.set_cons_zero, List.set_cons_succ])
    refine wpAnyH_take (i := 9) (v := ?_) rfl (by kernel_rfl) (by kernel_rfl) (by kernel_rfl) (fun _ _ _ h => h) (Or.inl ⟨by rfl, ?_⟩) (by assumption) ?_
    rotate_left
    · (intro w hSw; (try dsimp only at hSw); go_simp; (try with_reducible rfl))
    (try simp only [Act.put, List.getElem_toArray, List.getElem_cons_succ, List.getElem_cons_zero, List.setIfInBounds_toArray, List.set_cons_zero, List.set_cons_succ])
    refine wpAnyH_take (i := 10) (v := ?_) rfl (by kernel_rfl) (by kernel_rfl) (by kernel_rfl) (fun _ _ _ h => h) (Or.inl ⟨by rfl, ?_⟩) (by assumption) ?_
    rotate_left
    · (intro w hSw; (try dsimp only at hSw); go_simp; (try with_reducible rfl))
    (try simp only [Act.put, List.getElem_toArray, List.getElem_cons_succ, List.getElem_cons_zero, List.setIfInBounds_toArray, List.set_cons_zero, List.set_cons_succ])
    refine wpAnyH_done (by kernel_rfl) ?_ _
    refine NoPanic.normal ?_
    obtain ⟨w20, hw⟩ : ∃ w', w' = w93 := ⟨_, rfl⟩
    rw [← hw] at hHeld oy ⊢
    clear hw
    replace oy := oy.range
    replace hb := hb.trans (hHeld.2.mono hb.size)
    have hz92 := Nat.le_trans hb.size (Nat.le_refl _)
    clear hHeld b91 b92 b93 o91 R91 R92 kb x0 x1
    have hzz := hb.size
    have hw1 := HW1.out
    obtain ⟨kb, x0, x1⟩ := HBX.out _ hb
    go_wp2_with fail
    refine (HTO.out _ kb).mono ?_
    rintro e w1 ⟨v1, rfl, o1, b1⟩
    replace o1 := o1.range
    clear kb x0 x1
    have z1 := b1.size
    replace hb := hb.trans (b1.mono hb.size)
    replace oy := oy.same (Below.keeps b1 (by omega))
    clear b1
    obtain ⟨kb, x0, x1⟩ := HBX.out _ hb
    go_wp2_with fail
    refine (HTD.out _).mono ?_
    rintro e w2 ⟨rfl, b2⟩
    clear kb x0 x1
    have z2 := b2.size
    replace hb := hb.trans (b2.mono hb.size)
    replace oy := oy.same (Below.keeps b2 (by omega))
    replace o1 := o1.same (Below.keeps b2 (by omega))
    clear b2
    obtain ⟨kb, x0, x1⟩ := HBX.out _ hb
    go_wp2_with fail
    refine (HI.out _ _ o1.read).mono ?_
    rintro e w3 ⟨g0, rfl, og, b3⟩
    replace og := og.range
    clear kb x0 x1
    have z3 := b3.size
    replace hb := hb.trans (b3.mono hb.size)
    replace oy := oy.same (Below.keeps b3 (by omega))
    replace o1 := o1.same (Below.keeps b3 (by omega))
    clear b3
    obtain ⟨kb, x0, x1⟩ := HBX.out _ hb
    go_wp2_with fail
    refine (eqDerivedS_same _ _ _ _ og.read oy.read (by omega)).mono ?_
    rintro e w4 ⟨rfl, b4⟩
    clear kb x0 x1
    have z4 := b4.size
    replace hb := hb.trans (b4.mono hb.size)
    replace oy := oy.same (Below.keeps b4 (by omega))
    replace o1 := o1.same (Below.keeps b4 (by omega))
    replace og := og.same (Below.keeps b4 (by omega))
    clear b4
    obtain ⟨kb, x0, x1⟩ := HBX.out _ hb
    go_wp2_with fail
    refine (HTO.out _ kb).mono ?_
    rintro e w5 ⟨v2, rfl, o2, b5⟩
    replace o2 := o2.range
    clear kb x0 x1
    have z5 := b5.size
    replace hb := hb.trans (b5.mono hb.size)
    replace oy := oy.same (Below.keeps b5 (by omega))
    replace o1 := o1.same (Below.keeps b5 (by omega))
    replace og := og.same (Below.keeps b5 (by omega))
    clear b5
    obtain ⟨kb, x0, x1⟩ := HBX.out _ hb
    go_wp2_with fail
    refine (eqDepS_same _ _ _ _ o1.read o2.read (by omega)).mono ?_
    rintro e w6 ⟨rfl, b6⟩
    clear kb x0 x1
    have z6 := b6.size
    replace hb := hb.trans (b6.mono hb.size)
    replace oy := oy.same (Below.keeps b6 (by omega))
    replace o1 := o1.same (Below.keeps b6 (by omega))
    replace og := og.same (Below.keeps b6 (by omega))
    replace o2 := o2.same (Below.keeps b6 (by omega))
    clear b6
    clear o2
    obtain ⟨kb, x0, x1⟩ := HBX.out _ hb
    go_wp2_with fail
    refine (markDepR_any _ _ 1 _ _ _ o1 (by omega) (by omega) (by omega)).mono ?_
    rintro e w7 ⟨rfl, o1m, m7⟩
    clear kb x0 x1
    have z7 := m7.size
    replace hb := hb.trans (m7.below (by omega) (by omega))
    replace oy := oy.same (m7.same (by omega) (by omega))
    replace og := og.same (m7.same (by omega) (by omega))
    clear m7
    clear o1 o1m
    have hk : ¬ (1 + 2 * (l.length : Int) < 0) := by omega
    obtain ⟨kb, x0, x1⟩ := HBX.out _ hb
    go_wp2_with fail
    refine (eqDerivedS_same _ _ _ _ og.read oy.read (by omega)).mono ?_
    rintro e w8 ⟨rfl, b8⟩
    clear kb x0 x1
    have z8 := b8.size
    replace hb := hb.trans (b8.mono hb.size)
    replace oy := oy.same (Below.keeps b8 (by omega))
    replace og := og.same (Below.keeps b8 (by omega))
    clear b8
    obtain ⟨kb, x0, x1⟩ := HBX.out _ hb
    go_wp2_with fail
    refine (markTR_any _ _ 1 _ _ _ og (by omega) (by omega) (by omega)).mono ?_
    rintro e w9 ⟨rfl, og', m9⟩
    clear kb x0 x1
    have z9 := m9.size
    replace hb := hb.trans (m9.below (by omega) (by omega))
    replace oy := oy.same (m9.same (by omega) (by omega))
    clear m9
    clear og
    have og := og'
    clear og'
    have hk1 : ¬ (1 + 3 * (d.length : Int) < 0) := by omega
    have hk2 : (1 + 3 * (d.length : Int) != 1 + 3 * (d.length : Int)) = false := by simp
    obtain ⟨kb, x0, x1⟩ := HBX.out _ hb
    go_wp2_with fail
    refine (heldTR_any _ _ 1 _ og.read (by omega) (by omega) (by omega)).mono ?_
    rintro e w10 ⟨rfl, b10⟩
    clear kb x0 x1
    have z10 := b10.size
    replace hb := hb.trans (b10.mono hb.size)
    replace oy := oy.same (Below.keeps b10 (by omega))
    replace og := og.same (Below.keeps b10 (by omega))
    clear b10
    obtain ⟨wq, hwq⟩ : ∃ w', w' = w10 := ⟨_, rfl⟩
    rw [← hwq] at hb oy og z10 ⊢
    clear hwq
    obtain ⟨kb, x0, x1⟩ := HBX.out _ hb
    go_upto_region 24 with fail
    refine wp_region_noPanic ?_
    refine wp_region_held_drew (S := (fun w' => (w'.cell? ⟨w.heap.size, 0, none⟩ = some (.int .i64 x) ∧ w'.cell? ⟨w.heap.size, 1, none⟩ = some (.int .i64 y)) ∧ Below wq.heap.size wq w')) (by kernel_rfl) ?_ (fun hHeld => ?_)
    · ((try dsimp only); exact ⟨⟨x0, x1⟩, (Below.refl _ _).drew⟩)
    refine wpAnyH_take (i := 0) (v := ?_) rfl (by kernel_rfl) (by kernel_rfl) (by kernel_rfl) (fun _ _ _ h => h) (Or.inl ⟨by rfl, ?_⟩) (by assumption) ?_
    rotate_left
    · (intro w hSw; (try dsimp only at hSw); go_simp; (try with_reducible rfl))
    (try simp only [Act.put, List.getElem_toArray, List.getElem_cons_zero, List.setIfInBounds_toArray, List.set_cons_zero, List.set_cons_succ])
    refine wpAnyH_take (i := 1) (v := ?_) rfl (by kernel_rfl) (by kernel_rfl) (by kernel_rfl) (fun _ _ _ h => h) (Or.inl ⟨by rfl, ?_⟩) (by assumption) ?_
    rotate_left
    · (intro w hSw; (try dsimp only at hSw); go_simp; (try with_reducible rfl))
    (try simp only [Act.put, List.getElem_toArray, List.getElem_cons_succ, List.getElem_cons_zero, List.setIfInBounds_toArray, List.set_cons_zero, List.set_cons_succ])
    refine wpAnyH_take (i := 3) (v := ?_) rfl (by kernel_rfl) (by kernel_rfl) (by kernel_rfl) (fun _ _ _ h => h) (Or.inl ⟨by rfl, ?_⟩) (by assumption) ?_
    rotate_left
    · (intro w hSw; (try dsimp only at hSw); go_simp; (try with_reducible rfl))
    (try simp only [Act.put, List.getElem_toArray, List.getElem_cons_succ, List.getElem_cons_zero, List.setIfInBounds_toArray, List.set_cons_zero, List.set_cons_succ])
    refine wpAnyH_ready (rs := [2]) (by kernel_rfl) (by simp) (AllReadyH.cons rfl (fun K hK => ?_) AllReadyH.nil)
    (first | (go_at_call 12; refine (HTO.out _ (HBX.out _ (hb.trans (hHeld.2.mono hb.size))).1).mono ?_; rintro e w91 ⟨v91, rfl, o91, b91⟩; have R91 := Lib.hid o91.read) | (go_simp; go_at_call 12; refine (HTO.out _ (HBX.out _ (hb.trans (hHeld.2.mono hb.size))).1).mono ?_; rintro e w91 ⟨v91, rfl, o91, b91⟩; have R91 := Lib.hid o91.read))
    (try (go_wp2_with fail))
    refine hK.out _ _ ?_ (fun hHeld => ?_)
    · ((try dsimp only); exact ⟨⟨cellb hHeld.1.1 b91, cellb hHeld.1.2 b91⟩, hHeld.2.trans (b91.mono hHeld.2.size)⟩)
    clear hK K
    (try simp only [Act.put, List.getElem_toArray, List.getElem_cons_succ, List.getElem_cons_zero, List.setIfInBounds_toArray, List.set_cons_zero, List.set_cons_succ])
    refine wpAnyH_ready (rs := [4]) (by kernel_rfl) (by simp) (AllReadyH.cons rfl (fun K hK => ?_) AllReadyH.nil)
    (first | (go_at_call 18; refine (HTD.out _).mono ?_; rintro e w92 ⟨rfl, b92⟩; have R92 := Lib.hid (R91.out.kept b92)) | (go_simp; go_at_call 18; refine (HTD.out _).mono ?_; rintro e w92 ⟨rfl, b92⟩; have R92 := Lib.hid (R91.out.kept b92)))
    (try (go_wp2_with fail))
    refine hK.out _ _ ?_ (fun hHeld => ?_)
    · ((try dsimp only); exact ⟨⟨cellb hHeld.1.1 b92, cellb hHeld.1.2 b92⟩, hHeld.2.trans (b92.mono hHeld.2.size)⟩)
    clear hK K
    (try simp only [Act.put, List.getElem_toArray, List.getElem_cons_succ, List.getElem_cons_zero, List.setIfInBounds_toArray, List.set_cons_zero, List.set_cons_succ])
    refine wpAnyH_ready (rs := [5]) (by kernel_rfl) (by simp) (AllReadyH.cons rfl (fun K hK => ?_) AllReadyH.nil)
    (first | (go_at_call 21; refine (HI.out _ _ R92.out).mono ?_; rintro e w93 ⟨h0, rfl, oh, b93⟩) | (go_simp; go_at_call 21; refine (HI.out _ _ R92.out).mono ?_; rintro e w93 ⟨h0, rfl, oh, b93⟩))
    (try (go_wp2_with fail))
    refine hK.out _ _ ?_ (fun hHeld => ?_)
    · ((try dsimp only); exact ⟨⟨cellb hHeld.1.1 b93, cellb hHeld.1.2 b93⟩, hHeld.2.trans (b93.mono hHeld.2.size)⟩)
    clear hK K
    (try simp only [Act.put, List.getElem_toArray, List.getElem_cons_succ, List.getElem_cons_zero, List.setIfInBounds_toArray, List.set_cons_zero, List.set_cons_succ])
    refine wpAnyH_take (i := 6) (v := ?_) rfl (by kernel_rfl) (by kernel_rfl) (by kernel_rfl) (fun _ _ _ h => h) (Or.inl ⟨by rfl, ?_⟩) (by assumption) ?_
    rotate_left
    · (intro w hSw; (try dsimp only at hSw); go_simp; (try with_reducible rfl))
    (try simp only [Act.put, List.getElem_toArray, List.getElem_cons_succ, List.getElem_cons_zero, List.setIfInBounds_toArray, List.set_cons_zero, List.set_cons_succ])
    refine wpAnyH_take (i := 7) (v := ?_) rfl (by kernel_rfl) (by kernel_rfl) (by kernel_rfl) (fun _ _ _ h => h) (Or.inl ⟨by rfl, ?_⟩) (by assumption) ?_
    rotate_left
    · (intro w hSw; (try dsimp only at hSw); go_simp; (try with_reducible rfl))
    (try simp only [Act.put, List.getElem_toArray, List.getElem_cons_succ, List.getElem_cons_zero, List.setIfInBounds_toArray, List.set_cons_zero, List.set_cons_succ])
    refine wpAnyH_take (i := 8) (v := ?_) rfl (by kernel_rfl) (by kernel_rfl) (by kernel_rfl) (fun _ _ _ h => h) (Or.inl ⟨by rfl, ?_⟩) (by assumption) ?_
    rotate_left
    · (intro w hSw; (try dsimp only at hSw); go_simp; (try with_reducible rfl))
    (try simp only [Act.put, List.getElem_toArray, List.getElem_cons_succ, List.getElem_cons_zero, List.setIfInBounds_toArray, List.set_cons_zero, List.set_cons_succ])
    refine wpAnyH_take (i := 9) (v := ?_) rfl (by kernel_rfl) (by kernel_rfl) (by kernel_rfl) (fun _ _ _ h => h) (Or.inl ⟨by rfl, ?_⟩) (by assumption) ?_
    rotate_left
    · (intro w hSw; (try dsimp only at hSw); go_simp; (try with_reducible rfl))
    (try simp only [Act.put, List.getElem_toArray, List.getElem_cons_succ, List.getElem_cons_zero, List.setIfInBounds_toArray, List.set_cons_zero, List.set_cons_succ])
    refine wpAnyH_take (i := 10) (v := ?_) rfl (by kernel_rfl) (by kernel_rfl) (by kernel_rfl) (fun _ _ _ h => h) (Or.inl ⟨by rfl, ?_⟩) (by assumption) ?_
    rotate_left
    · (intro w hSw; (try dsimp only at hSw); go_simp; (try with_reducible rfl))
    (try simp only [Act.put, List.getElem_toArray, List.getElem_cons_succ, List.getElem_cons_zero, List.setIfInBounds_toArray, List.set_cons_zero, List.set_cons_succ])
    refine wpAnyH_done (by kernel_rfl) ?_ _
    refine NoPanic.normal ?_
    obtain ⟨w30, hw⟩ : ∃ w', w' = w93 := ⟨_, rfl⟩
    rw [← hw] at hHeld oh ⊢
    clear hw
    have zh := hHeld.2.size
    replace oh := oh.range
    replace hb := hb.trans (hHeld.2.mono hb.size)
    replace oy := oy.same (Below.keeps hHeld.2 (by omega))
    replace og := og.same (Below.keeps hHeld.2 (by omega))
    clear hHeld b91 b92 b93 o91 R91 R92 kb x0 x1
    obtain ⟨kb, x0, x1⟩ := HBX.out _ hb
    go_wp2_with fail
    refine (eqDerivedS_same _ _ _ _ oh.read oy.read (by omega)).mono ?_
    rintro e w11 ⟨rfl, b11⟩
    clear kb x0 x1
    have z11 := b11.size
    replace hb := hb.trans (b11.mono hb.size)
    replace oy := oy.same (Below.keeps b11 (by omega))
    replace og := og.same (Below.keeps b11 (by omega))
    replace oh := oh.same (Below.keeps b11 (by omega))
    clear b11
    obtain ⟨kb, x0, x1⟩ := HBX.out _ hb
    go_wp2_with fail
    refine (heldTR_any _ _ 1 _ og.read (by omega) (by omega) (by omega)).mono ?_
    rintro e w12 ⟨rfl, b12⟩
    clear kb x0 x1
    have z12 := b12.size
    replace hb := hb.trans (b12.mono hb.size)
    replace oy := oy.same (Below.keeps b12 (by omega))
    replace og := og.same (Below.keeps b12 (by omega))
    replace oh := oh.same (Below.keeps b12 (by omega))
    clear b12
    obtain ⟨kb, x0, x1⟩ := HBX.out _ hb
    go_wp2_with fail
    go_ret
    exact ⟨rfl, kb⟩
  · have HZl := Lib.hid (fun w' (hb : Below w.heap.size w w') => szDepS_any vl l w' (hrl.kept hb) (1048576) (by omega) (by omega) (by unfold maxLen at hml; omega))
    rw [szD_no hszl] at HZl
    obtain ⟨al, capl, rfl, -⟩ := hrl
    obtain ⟨kb, x0, x1⟩ := HBX.out _ hb
    go_enter Try.func6, Try.ntmps6
    go_wp2_with fail
    refine (HZl.out _ kb).mono ?_
    rintro e w1 ⟨rfl, rfl⟩
    go_wp2_with fail
    go_ret
    exact ⟨rfl, kb⟩

set_option linter.unusedVariables false
set_option maxRecDepth 100000 in
theorem lifted (os : Os) (started : os.Started) (H : Type) (enc : TypeId × Value → H) :
    ReturnsInHanded {} Try.checked os 6 .any (Rows.fnExactDeriveDepSpec.pre6 enc Try.prog Try.f6 Rows.fnExactDeriveDepRow.domain false) (Rows.fnExactDeriveDepSpec.post enc Try.prog Try.f6 false true false false) := by
  refine returnsInHanded_of_change (C := Try.checked) own started (by kernel_rfl) Try.func6
    (ChangeSpec.witness6 (enc := enc) (C := Try.checked) false ⟨#[], #[.int .i64 0, .slice none 0 0, .agg #[.int .i64 0, .int .i64 0]], []⟩ 8 (by kernel_rfl) (by kernel_rfl) (by kernel_rfl) (by kernel_rfl)) ?_
  intro W base args ds gs before hval0 hW hcnd _
  have hval : ∀ (j : Nat) t v, Try.f6.params[j]? = some t → args[j]? = some v → Value.okWide Try.prog W .any base t v := hval0
  have hW' := hW
  obtain ⟨p, q, hA0, hV, rfl, hfz, hnd⟩ := hW
  have hA : DataW.TrodAll enc Try.prog W 0 (fun _ => true) true Try.f6.params.toList args.toList ds p := hA0
  rw [Try.params6] at hA hval
  obtain ⟨v0, vs0, d0, ds0, p0, q0, hargs, rfl, rfl, h0, r0⟩ := trodAll_cons hA
  obtain ⟨v1, vs1, d1, ds1, p1, q1, rfl, rfl, rfl, h1, r1⟩ := trodAll_cons r0
  obtain ⟨v2, vs2, d2, ds2, p2, q2, rfl, rfl, rfl, h2, r2⟩ := trodAll_cons r1
  obtain ⟨rfl, rfl, rfl⟩ := trodAll_nil r2
  obtain rfl : args = #[v0, v1, v2] := by cases args; simp_all
  obtain ⟨rfl, rfl⟩ := trodVars_none hV
  obtain ⟨a0, rfl, rfl, rfl, w0⟩ := open_int Try.underlying3 (hval 0 3 v0 rfl rfl) h0
  obtain ⟨a1, len1, cap1, rfl⟩ := okWide_slice Try.underlying22 (hval 1 22 v1 rfl rfl)
  have k1 := h1
  have lt1 : ∀ x ∈ p1, x.block < W.heap.size := by obtain ⟨m, hm⟩ := k1; exact DataW.trod_lt m _ _ _ hm
  have w1 : ∃ l, ReadD W (.slice a1 len1 cap1) l ∧ l.length ≤ maxLen ∧ ∀ d ∈ l, (Lit.int .i64 d.1).wf = true ∧ (Lit.int .i64 d.2).wf = true := by
    obtain ⟨fuel, hf⟩ := h1
    exact open_deps (by simpa [Value.cells] using hf)
  obtain ⟨l1, rd1, m1, bd1⟩ := w1
  have k2 := h2
  have lt2 : ∀ x ∈ p2, x.block < W.heap.size := by obtain ⟨m, hm⟩ := k2; exact DataW.trod_lt m _ _ _ hm
  obtain ⟨x2, y2, rfl, w2, w2b⟩ := open_dep (hval 2 32 v2 rfl rfl) k2
  clear hA0 hval0
  refine (walk a0 (.slice a1 len1 cap1) l1 x2 y2 w0 w2 w2b W rd1 m1 bd1).mono fun e W' ⟨he, hg⟩ => ?_
  subst he
  exact ⟨_, rfl, ⟨_, _, _, [], _, [], hW', trodAll_cons_mk (shut_bool Try.underlying4 _) trodAll_mk0, (trodAll_cons_mk (shut_int Try.underlying3 w0) (trodAll_cons_mk (Below.trod laidOut (by kernel_rfl) (of_decide_eq_true (by kernel_rfl)) k1 hg lt1) (trodAll_cons_mk (Below.trod laidOut (by kernel_rfl) (of_decide_eq_true (by kernel_rfl)) k2 hg lt2) trodAll_mk0))), rfl, hg.frame _, fun h => by cases h⟩⟩

theorem over : Rows.fnExactDeriveDepRow.holds Try.pinned (OpenSpec.ofChange Rows.fnExactDeriveDepSpec) :=
  OpenClaim.holds_of_wide 6 Try.f6 rfl rfl rfl rfl rfl rfl rfl ⟨rfl, rfl, rfl, rfl, rfl⟩ rfl rfl rfl rfl rfl (by kernel_rfl) Try.func6 (by kernel_rfl)
    (of_decide_eq_true (by kernel_rfl)) (by unfold Func.isWrapper; first | (rw [if_pos (by decide +kernel)]; kernel_rfl) | (rw [if_neg (by decide +kernel)]; exact ⟨rfl, rfl⟩))
    (fun os started H enc _ => lifted os started H enc)

theorem proved : Rows.FnExactDeriveDepSaid := over
end Go.Proofs.Ytmapiljbhjblhaa.lawFnExactDeriveDep
