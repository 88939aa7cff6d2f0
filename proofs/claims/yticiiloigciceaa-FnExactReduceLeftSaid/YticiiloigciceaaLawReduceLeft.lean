/- ReduceLeft answers as its model at every argument; it writes into no argument; its answer owns its memory. Conditions: none beyond the row's own. -/
import Derived.Test.YticiiloigciceaaPdBm
import Derived.Test.YticiiloigciceaaWa13
import Derived.Test.YticiiloigciceaaWa35
namespace Go.Proofs.Yticiiloigciceaa.lawFnExactReduceLeft
open Go.ChangeShapes Go.WideShapes Go.ChangeAt Go.RowKit
theorem laidOut : laidOutB Try.prog = true := by kernel_rfl

theorem own : ownKnob Try.prog.godebug = none := by kernel_rfl

theorem cellb {w w' : World} {p : Addr} {v : Value} (h : w.cell? p = some v) (b : Below w.heap.size w w') : w'.cell? p = some v := (b.cell (World.block_lt_of_cell? w _ h)).trans h
theorem cellb2 {w : World} {c b k : Nat} {v u u' : Value} {m n : Nat} (h : w.cell? ⟨b, k, none⟩ = some v) (hne : c ≠ b) : ((w.setCell ⟨c, m, none⟩ u).setCell ⟨c, n, none⟩ u').cell? ⟨b, k, none⟩ = some v := (World.cell?_of_block ((Below.heap_setCell _ _ _ b (Ne.symm hne)).trans (Below.heap_setCell _ _ _ b (Ne.symm hne)))).trans h
theorem Bx.put {w : World} {b : Nat} {x y : Int} (h : Bx w b x y) (p q : Int) : Bx ((w.setCell ⟨b, 0, none⟩ (.int .i64 p)).setCell ⟨b, 1, none⟩ (.int .i64 q)) b p q := by
  have h1 := h.set0 p
  unfold Bx at *
  simp only [World.setCell, Array.getElem?_modify] at h1 ⊢
  rw [if_pos trivial] at h1 ⊢
  rw [h1]
  rfl
set_option maxRecDepth 20000 in
set_option maxHeartbeats 6400000 in
theorem walk (n : Int) (vl : Value) (l : List (Int × Int)) (x y : Int) (_w0 : (Lit.int .i64 n).wf = true) (_wx : (Lit.int .i64 x).wf = true) (_wy : (Lit.int .i64 y).wf = true) (w : World) (hrl : ReadD w vl l) (hml : l.length ≤ maxLen) (bdl : ∀ d ∈ l, (Lit.int .i64 d.1).wf = true ∧ (Lit.int .i64 d.2).wf = true) :
    Calls Try.prog 5 #[.int .i64 n, vl, .agg #[.int .i64 x, .int .i64 y]] w fun e w' => e = .returned (.bool true) ∧ Below w.heap.size w w' := by
  have hbx := (Below.refl w.heap.size w).alloc (Nat.le_refl _) (.cells #[.int .i64 x, .int .i64 y] 32)
  obtain ⟨y0, y1⟩ := zero2 w 32 (.int .i64 x) (.int .i64 y)
  have HBX : Hid (∀ w', Below (w.alloc (.cells #[.int .i64 x, .int .i64 y] 32)).heap.size (w.alloc (.cells #[.int .i64 x, .int .i64 y] 32)) w' → Below w.heap.size w w' ∧ w'.cell? ⟨w.heap.size, 0, none⟩ = some (.int .i64 x) ∧ w'.cell? ⟨w.heap.size, 1, none⟩ = some (.int .i64 y)) := Lib.hid (fun w' hb => ⟨hbx.trans (hb.mono hbx.size), (hb.cell (World.block_lt_of_cell? _ _ y0)).trans y0, (hb.cell (World.block_lt_of_cell? _ _ y1)).trans y1⟩)
  have HRF := Lib.hid (Below.refl (w.alloc (.cells #[.int .i64 x, .int .i64 y] 32)).heap.size (w.alloc (.cells #[.int .i64 x, .int .i64 y] 32)))
  have HW1 : Hid (w.heap.size + 1 ≤ (w.alloc (.cells #[.int .i64 x, .int .i64 y] 32)).heap.size) := Lib.hid (by simp)
  clear hbx y0 y1
  have hb := HRF.out
  by_cases hszl : (l.length : Int) ≤ 1048576
  · have HZl := Lib.hid (fun w' (hb : Below w.heap.size w w') => szDepS_any vl l w' (hrl.kept hb) (1048576) (by omega) (by omega) (by unfold maxLen at hml; omega))
    rw [szD_ok hszl] at HZl
    have hnegl : ¬ (1048576 - (l.length : Int) < 0) := by omega
    have HTO := Lib.hid (fun w' (hb : Below w.heap.size w w') => toDepS_any vl l w' (hrl.kept hb) (by omega))
    have HTD := Lib.hid (fun w' => toDep_any x y w')
    have HS := Lib.hid (fun ul w' (hl : ReadD w' ul l) => reduceLeft11_any ul n x y l w' hl (by omega))
    have HI := Lib.hid (fun ul w' (hl : ReadD w' ul l) => implReduceLeft_any ul n x y l _w0 bdl _wx _wy w' hl (by omega))
    obtain ⟨⟨p0, p1⟩, hd⟩ : ∃ d : Int × Int, d = redD n l (x, y) := ⟨_, rfl⟩
    rw [← hd] at HS HI
    simp only at HS HI
    clear hd
    have HEQ := Lib.hid (fun w' => (eqDep_any p0 p1 p0 p1 w').mono (fun e w'' h => show e = .returned (.bool true) ∧ Below w'.heap.size w' w'' from ⟨by rw [h.1]; simp, h.2⟩))
    obtain ⟨al, capl, rfl, -⟩ := hrl
    obtain ⟨kb, x0, x1⟩ := HBX.out _ hb
    go_enter Try.func5, Try.ntmps5
    go_wp2_with fail
    refine (HZl.out _ kb).mono ?_
    rintro e w1 ⟨rfl, rfl⟩
    go_upto_region 5 with fail
    obtain ⟨wr, hwr⟩ : ∃ wr, wr = (w.alloc (.cells #[.int .i64 x, .int .i64 y] 32)) := ⟨_, rfl⟩
    rw [← hwr] at hb HBX HW1 x0 x1 HRF ⊢
    clear hwr kb
    go_cut [8] (fun s8 wx => ∃ g, s8 = .pointer (some ⟨g, 0, none⟩) ∧ Hid (Bx wx g p0 p1) ∧ Hid (Below wr.heap.size wr wx))
    case first =>
      refine wp_region_noPanic ?_
      refine wp_region_held_drew (S := (fun w' => (w'.cell? ⟨w.heap.size, 0, none⟩ = some (.int .i64 x) ∧ w'.cell? ⟨w.heap.size, 1, none⟩ = some (.int .i64 y)) ∧ Below wr.heap.size wr w')) (by kernel_rfl) ?_ (fun hHeld => ?_)
      · ((try dsimp only); exact ⟨⟨x0, x1⟩, (Below.refl _ _).drew⟩)
      refine wpAnyH_take (i := 0) (v := ?_) rfl (by kernel_rfl) (by kernel_rfl) (by kernel_rfl) (fun _ _ _ h => h) (Or.inl ⟨by rfl, ?_⟩) (by assumption) ?_
      rotate_left
      · (intro w hSw; (try dsimp only at hSw); go_simp; (try with_reducible rfl))
      (try simp only [Act.put, List.getElem_toArray, List.getElem_cons_zero, List.setIfInBounds_toArray, List.set_cons_zero, List.set_cons_succ])
      refine wpAnyH_take (i := 1) (v := ?_) rfl (by kernel_rfl) (by kernel_rfl) (by kernel_rfl) (fun _ _ _ h => h) (Or.inl ⟨by rfl, ?_⟩) (by assumption) ?_
      rotate_left
      · (intro w hSw; (try dsimp only at hSw); go_simp; (try with_reducible rfl))
      (try simp only [Act.put, List.getElem_toArray, List.getElem_cons_succ, List.getElem_cons_zero, List.setIfInBounds_toArray, List.set_cons_zero, List.set_cons_succ])
      refine wpAnyH_take (i := 3) (v := ?_) rfl (by kernel_rfl) (by kernel_rfl) (by kernel_rfl) (fun _ _ _ h => h) (Or.inl ⟨by rfl, ?_⟩) (by assumption) ?_
      rotate_left
      · (intro w hSw; (try dsimp only at hSw); go_simp; (try with_reducible rfl))
      (try simp only [Act.put, List.getElem_toArray, List.getElem_cons_succ, List.getElem_cons_zero, List.setIfInBounds_toArray, List.set_cons_zero, List.set_cons_succ])
      refine wpAnyH_ready (rs := [2, 6]) (by kernel_rfl) (by simp) (AllReadyH.cons rfl (fun K hK => ?_) (AllReadyH.cons rfl (fun K hK => ?_) AllReadyH.nil))
      · (first | (go_at_call 11; refine (HTO.out _ (HBX.out _ (hb.trans (hHeld.2.mono hb.size))).1).mono ?_; rintro e w91 ⟨v91, rfl, o91, b91⟩; have R91 := Lib.hid o91.read) | (go_simp; go_at_call 11; refine (HTO.out _ (HBX.out _ (hb.trans (hHeld.2.mono hb.size))).1).mono ?_; rintro e w91 ⟨v91, rfl, o91, b91⟩; have R91 := Lib.hid o91.read))
        (try (go_wp2_with fail))
        refine hK.out _ _ ?_ (fun hHeld => ?_)
        · ((try dsimp only); exact ⟨⟨cellb hHeld.1.1 b91, cellb hHeld.1.2 b91⟩, hHeld.2.trans (b91.mono hHeld.2.size)⟩)
        clear hK K
        (try simp only [Act.put, List.getElem_toArray, List.getElem_cons_succ, List.getElem_cons_zero, List.setIfInBounds_toArray, List.set_cons_zero, List.set_cons_succ])
        refine wpAnyH_ready (rs := [4, 6]) (by kernel_rfl) (by simp) (AllReadyH.cons rfl (fun K hK => ?_) (AllReadyH.cons rfl (fun K hK => ?_) AllReadyH.nil))
        · (first | (go_at_call 19; refine (HTD.out _).mono ?_; rintro e w92 ⟨rfl, b92⟩; have R92 := Lib.hid (R91.out.kept b92)) | (go_simp; go_at_call 19; refine (HTD.out _).mono ?_; rintro e w92 ⟨rfl, b92⟩; have R92 := Lib.hid (R91.out.kept b92)))
          (try (go_wp2_with fail))
          refine hK.out _ _ ?_ (fun hHeld => ?_)
          · ((try dsimp only); exact ⟨⟨cellb hHeld.1.1 b92, cellb hHeld.1.2 b92⟩, hHeld.2.trans (b92.mono hHeld.2.size)⟩)
          clear hK K
          (try simp only [Act.put, List.getElem_toArray, List.getElem_cons_succ, List.getElem_cons_zero, List.setIfInBounds_toArray, List.set_cons_zero, List.set_cons_succ])
          refine wpAnyH_ready (rs := [5, 6]) (by kernel_rfl) (by simp) (AllReadyH.cons rfl (fun K hK => ?_) (AllReadyH.cons rfl (fun K hK => ?_) AllReadyH.nil))
          · (first | (go_at_call 18; refine (HS.out _ _ R92.out).mono ?_; rintro e w93 ⟨rfl, b93⟩) | (go_simp; go_at_call 18; refine (HS.out _ _ R92.out).mono ?_; rintro e w93 ⟨rfl, b93⟩))
            (try (go_wp2_with fail))
            refine hK.out _ _ ?_ (fun hHeld => ?_)
            · ((try dsimp only); exact ⟨⟨cellb hHeld.1.1 b93, cellb hHeld.1.2 b93⟩, hHeld.2.trans (b93.mono hHeld.2.size)⟩)
            clear hK K
            (try simp only [Act.put, List.getElem_toArray, List.getElem_cons_succ, List.getElem_cons_zero, List.setIfInBounds_toArray, List.set_cons_zero, List.set_cons_succ])
            have H93 := Lib.hid hHeld
            refine wpAnyH_ready (rs := [6]) (by kernel_rfl) (by simp) (AllReadyH.cons rfl (fun K hK => ?_) AllReadyH.nil)
            go_simp
            refine hK.out _ _ ?_ (fun hHeld => ?_)
            · ((try dsimp only); (first | exact ⟨⟨cellb hHeld.1.1 ((Below.refl _ _).alloc (Nat.le_refl _) _), cellb hHeld.1.2 ((Below.refl _ _).alloc (Nat.le_refl _) _)⟩, hHeld.2.alloc hHeld.2.size _⟩))
            clear hK K
            (try simp only [Act.put, List.getElem_toArray, List.getElem_cons_succ, List.getElem_cons_zero, List.setIfInBounds_toArray, List.set_cons_zero, List.set_cons_succ])
            obtain ⟨d0, d1⟩ := zero2 w93 33 (.int .i64 0) (.int .i64 0)
            refine wpAnyH_ready (rs := [7]) (by kernel_rfl) (by simp) (AllReadyH.cons rfl (fun K hK => ?_) AllReadyH.nil)
            go_simp
            refine hK.out _ _ ?_ (fun hHeld => ?_)
            · ((try dsimp only); exact ⟨⟨cellb H93.out.1.1 ((Below.refl _ _).alloc (Nat.le_refl _) _), cellb H93.out.1.2 ((Below.refl _ _).alloc (Nat.le_refl _) _)⟩, H93.out.2.alloc H93.out.2.size _⟩)
            clear hK K
            (try simp only [Act.put, List.getElem_toArray, List.getElem_cons_succ, List.getElem_cons_zero, List.setIfInBounds_toArray, List.set_cons_zero, List.set_cons_succ])
            refine wpAnyH_done (by kernel_rfl) ?_ _
            refine NoPanic.normal ?_
            have HG := Lib.hid (bx_new w93 p0 p1)
            have HBE := Lib.hid (hb.trans (hHeld.2.mono hb.size))
            clear hHeld d0 d1
            go_wp2_with fail
            go_meet
            exact ⟨_, rfl, HG, HBE⟩
          · have HGE : Hid (wr.heap.size ≤ w92.heap.size) := Lib.hid hHeld.2.size
            go_simp
            refine hK.out _ _ ?_ (fun hHeld => ?_)
            · ((try dsimp only); (first | exact ⟨⟨cellb hHeld.1.1 ((Below.refl _ _).alloc (Nat.le_refl _) _), cellb hHeld.1.2 ((Below.refl _ _).alloc (Nat.le_refl _) _)⟩, hHeld.2.alloc hHeld.2.size _⟩))
            clear hK K
            (try simp only [Act.put, List.getElem_toArray, List.getElem_cons_succ, List.getElem_cons_zero, List.setIfInBounds_toArray, List.set_cons_zero, List.set_cons_succ])
            have HZ : Hid (Bx (World.alloc w92 (.cells #[.int .i64 0, .int .i64 0] 33)) w92.heap.size 0 0) := Lib.hid (bx_new w92 0 0)
            replace R92 := Lib.hid (R92.out.kept ((Below.refl _ _).alloc (Nat.le_refl _) (.cells #[.int .i64 0, .int .i64 0] 33)))
            refine wpAnyH_ready (rs := [5]) (by kernel_rfl) (by simp) (AllReadyH.cons rfl (fun K hK => ?_) AllReadyH.nil)
            (first | (go_at_call 18; refine (HS.out _ _ R92.out).mono ?_; rintro e w93 ⟨rfl, b93⟩; have HZ93 := Lib.hid (HZ.out.keep b93)) | (go_simp; go_at_call 18; refine (HS.out _ _ R92.out).mono ?_; rintro e w93 ⟨rfl, b93⟩; have HZ93 := Lib.hid (HZ.out.keep b93)))
            (try (go_wp2_with fail))
            refine hK.out _ _ ?_ (fun hHeld => ?_)
            · ((try dsimp only); exact ⟨⟨cellb hHeld.1.1 b93, cellb hHeld.1.2 b93⟩, hHeld.2.trans (b93.mono hHeld.2.size)⟩)
            clear hK K
            (try simp only [Act.put, List.getElem_toArray, List.getElem_cons_succ, List.getElem_cons_zero, List.setIfInBounds_toArray, List.set_cons_zero, List.set_cons_succ])
            replace HZ := HZ93
            have H93 := Lib.hid hHeld
            have d0 := HZ.out.c0
            have d1 := HZ.out.c1
            have f0 := HZ.out.f0
            have f1 := HZ.out.f1
            have HG := Lib.hid (Bx.put HZ.out p0 p1)
            have HNE := Lib.hid (Nat.ne_of_gt (Nat.lt_of_lt_of_le (Nat.lt_of_lt_of_le (Nat.lt_succ_self w.heap.size) HW1.out) HGE.out))
            refine wpAnyH_ready (rs := [7]) (by kernel_rfl) (by simp) (AllReadyH.cons rfl (fun K hK => ?_) AllReadyH.nil)
            go_simp
            refine hK.out _ _ ?_ (fun hHeld => ?_)
            · ((try dsimp only); (first | exact ⟨⟨cellb2 H93.out.1.1 HNE.out, cellb2 H93.out.1.2 HNE.out⟩, (H93.out.2.setCell (p := ⟨_, 0, none⟩) HGE.out _).setCell (p := ⟨_, 1, none⟩) HGE.out _⟩))
            clear hK K
            (try simp only [Act.put, List.getElem_toArray, List.getElem_cons_succ, List.getElem_cons_zero, List.setIfInBounds_toArray, List.set_cons_zero, List.set_cons_succ])
            refine wpAnyH_done (by kernel_rfl) ?_ _
            refine NoPanic.normal ?_
            have HBE := Lib.hid (hb.trans (hHeld.2.mono hb.size))
            clear hHeld d0 d1 f0 f1
            go_wp2_with fail
            go_meet
            exact ⟨_, rfl, HG, HBE⟩
        · have HGE : Hid (wr.heap.size ≤ w91.heap.size) := Lib.hid hHeld.2.size
          go_simp
          refine hK.out _ _ ?_ (fun hHeld => ?_)
          · ((try dsimp only); (first | exact ⟨⟨cellb hHeld.1.1 ((Below.refl _ _).alloc (Nat.le_refl _) _), cellb hHeld.1.2 ((Below.refl _ _).alloc (Nat.le_refl _) _)⟩, hHeld.2.alloc hHeld.2.size _⟩))
          clear hK K
          (try simp only [Act.put, List.getElem_toArray, List.getElem_cons_succ, List.getElem_cons_zero, List.setIfInBounds_toArray, List.set_cons_zero, List.set_cons_succ])
          have HZ : Hid (Bx (World.alloc w91 (.cells #[.int .i64 0, .int .i64 0] 33)) w91.heap.size 0 0) := Lib.hid (bx_new w91 0 0)
          replace R91 := Lib.hid (R91.out.kept ((Below.refl _ _).alloc (Nat.le_refl _) (.cells #[.int .i64 0, .int .i64 0] 33)))
          refine wpAnyH_ready (rs := [4]) (by kernel_rfl) (by simp) (AllReadyH.cons rfl (fun K hK => ?_) AllReadyH.nil)
          (first | (go_at_call 19; refine (HTD.out _).mono ?_; rintro e w92 ⟨rfl, b92⟩; have R92 := Lib.hid (R91.out.kept b92); have HZ92 := Lib.hid (HZ.out.keep b92)) | (go_simp; go_at_call 19; refine (HTD.out _).mono ?_; rintro e w92 ⟨rfl, b92⟩; have R92 := Lib.hid (R91.out.kept b92); have HZ92 := Lib.hid (HZ.out.keep b92)))
          (try (go_wp2_with fail))
          refine hK.out _ _ ?_ (fun hHeld => ?_)
          · ((try dsimp only); exact ⟨⟨cellb hHeld.1.1 b92, cellb hHeld.1.2 b92⟩, hHeld.2.trans (b92.mono hHeld.2.size)⟩)
          clear hK K
          (try simp only [Act.put, List.getElem_toArray, List.getElem_cons_succ, List.getElem_cons_zero, List.setIfInBounds_toArray, List.set_cons_zero, List.set_cons_succ])
          replace HZ := HZ92
          refine wpAnyH_ready (rs := [5]) (by kernel_rfl) (by simp) (AllReadyH.cons rfl (fun K hK => ?_) AllReadyH.nil)
          (first | (go_at_call 18; refine (HS.out _ _ R92.out).mono ?_; rintro e w93 ⟨rfl, b93⟩; have HZ93 := Lib.hid (HZ.out.keep b93)) | (go_simp; go_at_call 18; refine (HS.out _ _ R92.out).mono ?_; rintro e w93 ⟨rfl, b93⟩; have HZ93 := Lib.hid (HZ.out.keep b93)))
          (try (go_wp2_with fail))
          refine hK.out _ _ ?_ (fun hHeld => ?_)
          · ((try dsimp only); exact ⟨⟨cellb hHeld.1.1 b93, cellb hHeld.1.2 b93⟩, hHeld.2.trans (b93.mono hHeld.2.size)⟩)
          clear hK K
          (try simp only [Act.put, List.getElem_toArray, List.getElem_cons_succ, List.getElem_cons_zero, List.setIfInBounds_toArray, List.set_cons_zero, List.set_cons_succ])
          replace HZ := HZ93
          have H93 := Lib.hid hHeld
          have d0 := HZ.out.c0
          have d1 := HZ.out.c1
          have f0 := HZ.out.f0
          have f1 := HZ.out.f1
          have HG := Lib.hid (Bx.put HZ.out p0 p1)
          have HNE := Lib.hid (Nat.ne_of_gt (Nat.lt_of_lt_of_le (Nat.lt_of_lt_of_le (Nat.lt_succ_self w.heap.size) HW1.out) HGE.out))
          refine wpAnyH_ready (rs := [7]) (by kernel_rfl) (by simp) (AllReadyH.cons rfl (fun K hK => ?_) AllReadyH.nil)
          go_simp
          refine hK.out _ _ ?_ (fun hHeld => ?_)
          · ((try dsimp only); (first | exact ⟨⟨cellb2 H93.out.1.1 HNE.out, cellb2 H93.out.1.2 HNE.out⟩, (H93.out.2.setCell (p := ⟨_, 0, none⟩) HGE.out _).setCell (p := ⟨_, 1, none⟩) HGE.out _⟩))
          clear hK K
          (try simp only [Act.put, List.getElem_toArray, List.getElem_cons_succ, List.getElem_cons_zero, List.setIfInBounds_toArray, List.set_cons_zero, List.set_cons_succ])
          refine wpAnyH_done (by kernel_rfl) ?_ _
          refine NoPanic.normal ?_
          have HBE := Lib.hid (hb.trans (hHeld.2.mono hb.size))
          clear hHeld d0 d1 f0 f1
          go_wp2_with fail
          go_meet
          exact ⟨_, rfl, HG, HBE⟩
      · have HGE : Hid (wr.heap.size ≤ wr.heap.size) := Lib.hid hHeld.2.size
        go_simp
        refine hK.out _ _ ?_ (fun hHeld => ?_)
        · ((try dsimp only); (first | exact ⟨⟨cellb hHeld.1.1 ((Below.refl _ _).alloc (Nat.le_refl _) _), cellb hHeld.1.2 ((Below.refl _ _).alloc (Nat.le_refl _) _)⟩, hHeld.2.alloc hHeld.2.size _⟩))
        clear hK K
        (try simp only [Act.put, List.getElem_toArray, List.getElem_cons_succ, List.getElem_cons_zero, List.setIfInBounds_toArray, List.set_cons_zero, List.set_cons_succ])
        have HZ : Hid (Bx (World.alloc (World.drew wr) (.cells #[.int .i64 0, .int .i64 0] 33)) wr.heap.size 0 0) := Lib.hid (bx_new (World.drew wr) 0 0)
        refine wpAnyH_ready (rs := [2]) (by kernel_rfl) (by simp) (AllReadyH.cons rfl (fun K hK => ?_) AllReadyH.nil)
        (first | (go_at_call 11; refine (HTO.out _ (HBX.out _ (hb.trans (hHeld.2.mono hb.size))).1).mono ?_; rintro e w91 ⟨v91, rfl, o91, b91⟩; have R91 := Lib.hid o91.read; have HZ91 := Lib.hid (HZ.out.keep b91)) | (go_simp; go_at_call 11; refine (HTO.out _ (HBX.out _ (hb.trans (hHeld.2.mono hb.size))).1).mono ?_; rintro e w91 ⟨v91, rfl, o91, b91⟩; have R91 := Lib.hid o91.read; have HZ91 := Lib.hid (HZ.out.keep b91)))
        (try (go_wp2_with fail))
        refine hK.out _ _ ?_ (fun hHeld => ?_)
        · ((try dsimp only); exact ⟨⟨cellb hHeld.1.1 b91, cellb hHeld.1.2 b91⟩, hHeld.2.trans (b91.mono hHeld.2.size)⟩)
        clear hK K
        (try simp only [Act.put, List.getElem_toArray, List.getElem_cons_succ, List.getElem_cons_zero, List.setIfInBounds_toArray, List.set_cons_zero, List.set_cons_succ])
        replace HZ := HZ91
        refine wpAnyH_ready (rs := [4]) (by kernel_rfl) (by simp) (AllReadyH.cons rfl (fun K hK => ?_) AllReadyH.nil)
        (first | (go_at_call 19; refine (HTD.out _).mono ?_; rintro e w92 ⟨rfl, b92⟩; have R92 := Lib.hid (R91.out.kept b92); have HZ92 := Lib.hid (HZ.out.keep b92)) | (go_simp; go_at_call 19; refine (HTD.out _).mono ?_; rintro e w92 ⟨rfl, b92⟩; have R92 := Lib.hid (R91.out.kept b92); have HZ92 := Lib.hid (HZ.out.keep b92)))
        (try (go_wp2_with fail))
        refine hK.out _ _ ?_ (fun hHeld => ?_)
        · ((try dsimp only); exact ⟨⟨cellb hHeld.1.1 b92, cellb hHeld.1.2 b92⟩, hHeld.2.trans (b92.mono hHeld.2.size)⟩)
        clear hK K
        (try simp only [Act.put, List.getElem_toArray, List.getElem_cons_succ, List.getElem_cons_zero, List.setIfInBounds_toArray, List.set_cons_zero, List.set_cons_succ])
        replace HZ := HZ92
        refine wpAnyH_ready (rs := [5]) (by kernel_rfl) (by simp) (AllReadyH.cons rfl (fun K hK => ?_) AllReadyH.nil)
        (first | (go_at_call 18; refine (HS.out _ _ R92.out).mono ?_; rintro e w93 ⟨rfl, b93⟩; have HZ93 := Lib.hid (HZ.out.keep b93)) | (go_simp; go_at_call 18; refine (HS.out _ _ R92.out).mono ?_; rintro e w93 ⟨rfl, b93⟩; have HZ93 := Lib.hid (HZ.out.keep b93)))
        (try (go_wp2_with fail))
        refine hK.out _ _ ?_ (fun hHeld => ?_)
        · ((try dsimp only); exact ⟨⟨cellb hHeld.1.1 b93, cellb hHeld.1.2 b93⟩, hHeld.2.trans (b93.mono hHeld.2.size)⟩)
        clear hK K
        (try simp only [Act.put, List.getElem_toArray, List.getElem_cons_succ, List.getElem_cons_zero, List.setIfInBounds_toArray, List.set_cons_zero, List.set_cons_succ])
        replace HZ := HZ93
        have H93 := Lib.hid hHeld
        have d0 := HZ.out.c0
        have d1 := HZ.out.c1
        have f0 := HZ.out.f0
        have f1 := HZ.out.f1
        have HG := Lib.hid (Bx.put HZ.out p0 p1)
        have HNE := Lib.hid (Nat.ne_of_gt (Nat.lt_of_lt_of_le (Nat.lt_of_lt_of_le (Nat.lt_succ_self w.heap.size) HW1.out) HGE.out))
        refine wpAnyH_ready (rs := [7]) (by kernel_rfl) (by simp) (AllReadyH.cons rfl (fun K hK => ?_) AllReadyH.nil)
        go_simp
        refine hK.out _ _ ?_ (fun hHeld => ?_)
        · ((try dsimp only); (first | exact ⟨⟨cellb2 H93.out.1.1 HNE.out, cellb2 H93.out.1.2 HNE.out⟩, (H93.out.2.setCell (p := ⟨_, 0, none⟩) HGE.out _).setCell (p := ⟨_, 1, none⟩) HGE.out _⟩))
        clear hK K
        (try simp only [Act.put, List.getElem_toArray, List.getElem_cons_succ, List.getElem_cons_zero, List.setIfInBounds_toArray, List.set_cons_zero, List.set_cons_succ])
        refine wpAnyH_done (by kernel_rfl) ?_ _
        refine NoPanic.normal ?_
        have HBE := Lib.hid (hb.trans (hHeld.2.mono hb.size))
        clear hHeld d0 d1 f0 f1
        go_wp2_with fail
        go_meet
        exact ⟨_, rfl, HG, HBE⟩
    case rest =>
      obtain ⟨g, rfl, HG, HBW⟩ := hcut
      obtain ⟨w20, hw⟩ : ∃ w', w' = wc := ⟨_, rfl⟩
      rw [← hw] at HG HBW ⊢
      clear hw
      replace hb := hb.trans (HBW.out.mono hb.size)
      clear HBW x0 x1
      have hzz := hb.size
      have hw1 := HW1.out
      obtain ⟨kb, x0, x1⟩ := HBX.out _ hb
      go_wp2_with fail
      refine (HTO.out _ kb).mono ?_
      rintro e w1 ⟨v1, rfl, o1, b1⟩
      clear kb x0 x1
      replace o1 := o1.range
      have z1 := b1.size
      replace hb := hb.trans (b1.mono hb.size)
      replace HG := Lib.hid (HG.out.keep b1)
      clear b1
      obtain ⟨kb, x0, x1⟩ := HBX.out _ hb
      go_wp2_with fail
      refine (HTD.out _).mono ?_
      rintro e w2 ⟨rfl, b2⟩
      clear kb x0 x1
      have z2 := b2.size
      replace hb := hb.trans (b2.mono hb.size)
      replace HG := Lib.hid (HG.out.keep b2)
      replace o1 := o1.same (Below.keeps b2 (by omega))
      clear b2
      obtain ⟨kb, x0, x1⟩ := HBX.out _ hb
      go_wp2_with fail
      refine (HI.out _ _ o1.read).mono ?_
      rintro e w3 ⟨rfl, b3⟩
      clear kb x0 x1
      have z3 := b3.size
      replace hb := hb.trans (b3.mono hb.size)
      replace HG := Lib.hid (HG.out.keep b3)
      replace o1 := o1.same (Below.keeps b3 (by omega))
      clear b3
      have al4 := (Below.refl w3.heap.size w3).alloc (Nat.le_refl _) (.cells #[.int .i64 p0, .int .i64 p1] 33)
      have HX4 := Lib.hid (bx_new w3 p0 p1)
      have h0 := (HG.out.keep al4).c0
      have h1 := (HG.out.keep al4).c1
      have i0 := HX4.out.c0
      have i1 := HX4.out.c1
      replace hb := hb.trans (al4.mono hb.size)
      have z4 := al4.size
      replace o1 := o1.same (Below.keeps al4 (by omega))
      clear al4
      obtain ⟨kb, x0, x1⟩ := HBX.out _ hb
      go_wp2_with fail
      refine (HEQ.out _).mono ?_
      rintro e w5 ⟨rfl, b5⟩
      clear kb x0 x1 h0 h1 i0 i1 HX4 HG
      have z5 := b5.size
      replace hb := hb.trans (b5.mono hb.size)
      replace o1 := o1.same (Below.keeps b5 (by omega))
      clear b5
      obtain ⟨kb, x0, x1⟩ := HBX.out _ hb
      go_wp2_with fail
      refine (HTO.out _ kb).mono ?_
      rintro e w6 ⟨v2, rfl, o2, b6⟩
      clear kb x0 x1
      replace o2 := o2.range
      have z6 := b6.size
      replace hb := hb.trans (b6.mono hb.size)
      replace o1 := o1.same (Below.keeps b6 (by omega))
      clear b6
      obtain ⟨kb, x0, x1⟩ := HBX.out _ hb
      go_wp2_with fail
      refine (eqDepS_same _ _ _ _ o1.read o2.read (by omega)).mono ?_
      rintro e w7 ⟨rfl, b7⟩
      clear kb x0 x1
      replace hb := hb.trans (b7.mono hb.size)
      clear b7
      obtain ⟨kb, x0, x1⟩ := HBX.out _ hb
      go_wp2_with fail
      go_ret
      exact ⟨rfl, kb⟩
  · have HZl := Lib.hid (fun w' (hb : Below w.heap.size w w') => szDepS_any vl l w' (hrl.kept hb) (1048576) (by omega) (by omega) (by unfold maxLen at hml; omega))
    rw [szD_no hszl] at HZl
    obtain ⟨al, capl, rfl, -⟩ := hrl
    obtain ⟨kb, x0, x1⟩ := HBX.out _ hb
    go_enter Try.func5, Try.ntmps5
    go_wp2_with fail
    refine (HZl.out _ kb).mono ?_
    rintro e w1 ⟨rfl, rfl⟩
    go_wp2_with fail
    go_ret
    exact ⟨rfl, kb⟩

set_option linter.unusedVariables false
set_option maxRecDepth 100000 in
theorem lifted (os : Os) (started : os.Started) (H : Type) (enc : TypeId × Value → H) :
    ReturnsInHanded {} Try.checked os 5 .any (Rows.fnExactReduceLeftSpec.pre6 enc Try.prog Try.f5 Rows.fnExactReduceLeftRow.domain false) (Rows.fnExactReduceLeftSpec.post enc Try.prog Try.f5 false true false false) := by
  refine returnsInHanded_of_change (C := Try.checked) own started (by kernel_rfl) Try.func5
    (ChangeSpec.witness6 (enc := enc) (C := Try.checked) false ⟨#[], #[.int .i64 0, .slice none 0 0, .agg #[.int .i64 0, .int .i64 0]], []⟩ 8 (by kernel_rfl) (by kernel_rfl) (by kernel_rfl) (by kernel_rfl)) ?_
  intro W base args ds gs before hval0 hW hcnd _
  have hval : ∀ (j : Nat) t v, Try.f5.params[j]? = some t → args[j]? = some v → Value.okWide Try.prog W .any base t v := hval0
  have hW' := hW
  obtain ⟨p, q, hA0, hV, rfl, hfz, hnd⟩ := hW
  have hA : DataW.TrodAll enc Try.prog W 0 (fun _ => true) true Try.f5.params.toList args.toList ds p := hA0
  rw [Try.params5] at hA hval
  obtain ⟨v0, vs0, d0, ds0, p0, q0, hargs, rfl, rfl, h0, r0⟩ := trodAll_cons hA
  obtain ⟨v1, vs1, d1, ds1, p1, q1, rfl, rfl, rfl, h1, r1⟩ := trodAll_cons r0
  obtain ⟨v2, vs2, d2, ds2, p2, q2, rfl, rfl, rfl, h2, r2⟩ := trodAll_cons r1
  obtain ⟨rfl, rfl, rfl⟩ := trodAll_nil r2
  obtain rfl : args = #[v0, v1, v2] := by cases args; simp_all
  obtain ⟨rfl, rfl⟩ := trodVars_none hV
  obtain ⟨a0, rfl, rfl, rfl, w0⟩ := open_int Try.underlying3 (hval 0 3 v0 rfl rfl) h0
  obtain ⟨a1, len1, cap1, rfl⟩ := okWide_slice Try.underlying22 (hval 1 22 v1 rfl rfl)
  have k1 := h1
  have lt1 : ∀ x ∈ p1, x.block < W.heap.size := by obtain ⟨m, hm⟩ := k1; exact DataW.trod_lt m _ _ _ hm
  have w1 : ∃ l, ReadD W (.slice a1 len1 cap1) l ∧ l.length ≤ maxLen ∧ ∀ d ∈ l, (Lit.int .i64 d.1).wf = true ∧ (Lit.int .i64 d.2).wf = true := by
    obtain ⟨fuel, hf⟩ := h1
    exact open_deps (by simpa [Value.cells] using hf)
  obtain ⟨l1, rd1, m1, bd1⟩ := w1
  have k2 := h2
  have lt2 : ∀ x ∈ p2, x.block < W.heap.size := by obtain ⟨m, hm⟩ := k2; exact DataW.trod_lt m _ _ _ hm
  obtain ⟨x2, y2, rfl, w2, w2b⟩ := open_dep (hval 2 32 v2 rfl rfl) k2
  clear hA0 hval0
  refine (walk a0 (.slice a1 len1 cap1) l1 x2 y2 w0 w2 w2b W rd1 m1 bd1).mono fun e W' ⟨he, hg⟩ => ?_
  subst he
  exact ⟨_, rfl, ⟨_, _, _, [], _, [], hW', trodAll_cons_mk (shut_bool Try.underlying4 _) trodAll_mk0, (trodAll_cons_mk (shut_int Try.underlying3 w0) (trodAll_cons_mk (Below.trod laidOut (by kernel_rfl) (of_decide_eq_true (by kernel_rfl)) k1 hg lt1) (trodAll_cons_mk (Below.trod laidOut (by kernel_rfl) (of_decide_eq_true (by kernel_rfl)) k2 hg lt2) trodAll_mk0))), rfl, hg.frame _, fun h => by cases h⟩⟩

theorem over : Rows.fnExactReduceLeftRow.holds Try.pinned (OpenSpec.ofChange Rows.fnExactReduceLeftSpec) :=
  OpenClaim.holds_of_wide 5 Try.f5 rfl rfl rfl rfl rfl rfl rfl ⟨rfl, rfl, rfl, rfl, rfl⟩ rfl rfl rfl rfl rfl (by kernel_rfl) Try.func5 (by kernel_rfl)
    (of_decide_eq_true (by kernel_rfl)) (by unfold Func.isWrapper; first | (rw [if_pos (by decide +kernel)]; kernel_rfl) | (rw [if_neg (by decide +kernel)]; exact ⟨rfl, rfl⟩))
    (fun os started H enc _ => lifted os started H enc)

theorem proved : Rows.FnExactReduceLeftSaid := over
end Go.Proofs.Yticiiloigciceaa.lawFnExactReduceLeft
