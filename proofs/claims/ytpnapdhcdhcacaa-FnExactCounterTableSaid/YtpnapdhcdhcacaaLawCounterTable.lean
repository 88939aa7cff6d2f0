/- CounterTable answers as its model at every argument; it writes into no argument; its answer owns its memory. Conditions: none beyond the row's own. -/
import Derived.Test.YtpnapdhcdhcacaaAxCm
import Derived.Test.YtpnapdhcdhcacaaXa36
import Derived.Test.YtpnapdhcdhcacaaXa13
import Derived.Test.YtpnapdhcdhcacaaXa33
import Derived.Test.YtpnapdhcdhcacaaXa2
import Derived.Test.YtpnapdhcdhcacaaXa15
namespace Go.Proofs.Ytpnapdhcdhcacaa.lawFnExactCounterTable
open Go.ChangeShapes Go.WideShapes Go.ChangeAt Go.RowKit
theorem laidOut : laidOutB Try.prog = true := by kernel_rfl

theorem own : ownKnob Try.prog.godebug = none := by kernel_rfl

theorem cellb {w w' : World} {p : Addr} {v : Value} (h : w.cell? p = some v) (b : Below w.heap.size w w') : w'.cell? p = some v := (b.cell (World.block_lt_of_cell? w _ h)).trans h
theorem cellb2 {w : World} {c b k : Nat} {v u u' : Value} {m n : Nat} (h : w.cell? ⟨b, k, none⟩ = some v) (hne : c ≠ b) : ((w.setCell ⟨c, m, none⟩ u).setCell ⟨c, n, none⟩ u').cell? ⟨b, k, none⟩ = some v := (World.cell?_of_block ((Below.heap_setCell _ _ _ b (Ne.symm hne)).trans (Below.heap_setCell _ _ _ b (Ne.symm hne)))).trans h
theorem tb_new {W w3 : World} {B : Nat} {rc : Int} {v : Value} {d : List (List Int)} (hb : Below W.heap.size W w3) (hB : W.heap.size ≤ B) (oy : OwnSS w3 B w3.heap.size v d) :
    BxT (w3.alloc (.cells #[.int .i64 rc, v] 26)) w3.heap.size rc v ∧ OwnSS (w3.alloc (.cells #[.int .i64 rc, v] 26)) W.heap.size (w3.alloc (.cells #[.int .i64 rc, v] 26)).heap.size v d ∧ Below W.heap.size W (w3.alloc (.cells #[.int .i64 rc, v] 26)) := by
  have al := (Below.refl w3.heap.size w3).alloc (Nat.le_refl _) (.cells #[.int .i64 rc, v] 26)
  exact ⟨bxt_new w3 rc v, (oy.same (Below.keeps al (Nat.le_refl _))).base hB al.size, hb.trans (al.mono hb.size)⟩
theorem tb_old {W w3 : World} {B g : Nat} {rc : Int} {v : Value} {d : List (List Int)} (hb : Below W.heap.size W w3) (hz : BxT w3 g 0 (.slice none 0 0)) (hg : W.heap.size ≤ g) (hgB : g < B) (hB : W.heap.size ≤ B) (oy : OwnSS w3 B w3.heap.size v d) :
    BxT ((w3.setCell ⟨g, 0, none⟩ (.int .i64 rc)).setCell ⟨g, 1, none⟩ v) g rc v ∧ OwnSS ((w3.setCell ⟨g, 0, none⟩ (.int .i64 rc)).setCell ⟨g, 1, none⟩ v) W.heap.size ((w3.setCell ⟨g, 0, none⟩ (.int .i64 rc)).setCell ⟨g, 1, none⟩ v).heap.size v d ∧ Below W.heap.size W ((w3.setCell ⟨g, 0, none⟩ (.int .i64 rc)).setCell ⟨g, 1, none⟩ v) := by
  have h3 := oy.same ((Same.refl B w3.heap.size w3).setCell (p := ⟨g, 0, none⟩) (.inl hgB) (.int .i64 rc))
  have h4 := h3.same ((Same.refl B w3.heap.size _).setCell (p := ⟨g, 1, none⟩) (.inl hgB) v)
  exact ⟨hz.put, h4.base hB (by simp), (hb.setCell (p := ⟨g, 0, none⟩) hg (.int .i64 rc)).setCell (p := ⟨g, 1, none⟩) hg v⟩
set_option maxRecDepth 20000 in
set_option maxHeartbeats 6400000 in
theorem walk (n : Int) (vl : Value) (l : List (Int × Int)) (x y : Int) (_w0 : (Lit.int .i64 n).wf = true) (_wx : (Lit.int .i64 x).wf = true) (_wy : (Lit.int .i64 y).wf = true) (w : World) (hrl : ReadD w vl l) (hml : l.length ≤ maxLen) (bdl : ∀ d ∈ l, (Lit.int .i64 d.1).wf = true ∧ (Lit.int .i64 d.2).wf = true) :
    Calls Try.prog 4 #[.int .i64 n, vl, .agg #[.int .i64 x, .int .i64 y]] w fun e w' => e = .returned (.bool true) ∧ Below w.heap.size w w' := by
  have hbx := (Below.refl w.heap.size w).alloc (Nat.le_refl _) (.cells #[.int .i64 x, .int .i64 y] 37)
  obtain ⟨y0, y1⟩ := zero2 w 37 (.int .i64 x) (.int .i64 y)
  have HBX : Hid (∀ w', Below (w.alloc (.cells #[.int .i64 x, .int .i64 y] 37)).heap.size (w.alloc (.cells #[.int .i64 x, .int .i64 y] 37)) w' → Below w.heap.size w w' ∧ w'.cell? ⟨w.heap.size, 0, none⟩ = some (.int .i64 x) ∧ w'.cell? ⟨w.heap.size, 1, none⟩ = some (.int .i64 y)) := Lib.hid (fun w' hb => ⟨hbx.trans (hb.mono hbx.size), (hb.cell (World.block_lt_of_cell? _ _ y0)).trans y0, (hb.cell (World.block_lt_of_cell? _ _ y1)).trans y1⟩)
  have HRF := Lib.hid (Below.refl (w.alloc (.cells #[.int .i64 x, .int .i64 y] 37)).heap.size (w.alloc (.cells #[.int .i64 x, .int .i64 y] 37)))
  have HW1 : Hid (w.heap.size + 1 ≤ (w.alloc (.cells #[.int .i64 x, .int .i64 y] 37)).heap.size) := Lib.hid (by simp)
  clear hbx y0 y1
  have hb := HRF.out
  by_cases hszl : (l.length : Int) ≤ 1048576
  · have HZl := Lib.hid (fun w' (hb : Below w.heap.size w w') => szDepS_any vl l w' (hrl.kept hb) (1048576) (by omega) (by omega) (by unfold maxLen at hml; omega))
    rw [szD_ok hszl] at HZl
    have hnegl : ¬ (1048576 - (l.length : Int) < 0) := by omega
    have HTO := Lib.hid (fun w' (hb : Below w.heap.size w w') => toDepS_any vl l w' (hrl.kept hb) (by omega))
    have HTD := Lib.hid (fun w' => toDep_any x y w')
    have HS := Lib.hid (fun ul w' (hl : ReadD w' ul l) => counterTable12_any ul n x y l w' hl (by omega))
    have HI := Lib.hid (fun ul w' (hl : ReadD w' ul l) => implCtr_any ul n x y l _w0 bdl _wx _wy w' hl (by omega))
    have hbd2 := ctr_bd n l (x, y)
    obtain ⟨rc, hrc⟩ : ∃ rc, rc = ctrC n l (x, y) := ⟨_, rfl⟩
    obtain ⟨d, hd⟩ : ∃ d, d = ctrL n l (x, y) := ⟨_, rfl⟩
    obtain ⟨ok, hok⟩ : ∃ ok, ok = ctrB n l (x, y) := ⟨_, rfl⟩
    rw [← hrc, ← hd, ← hok] at HS HI
    rw [← hd] at hbd2
    clear hrc hd hok bdl
    have hdl : d.length ≤ 1048576 := by omega
    have hdt : tot d ≤ 1048576 := by omega
    clear hbd2
    have HED := Lib.hid (fun v v' w' (hv : ReadSS w' v d) (hv' : ReadSS w' v' d) => eqTable_any rc rc v v' d d w' hv hv' (by omega) (fun i hi => by have := tot_get hi; omega))
    rw [eqTb_self] at HED
    have hoo : (ok != ok) = false := by simp
    have hk1 : ¬ (1 + (tot d : Int) < 0) := by omega
    have hk2 : (1 + (tot d : Int) != 1 + (tot d : Int)) = false := by simp
    have hk : ¬ (1 + 2 * (l.length : Int) < 0) := by omega
    obtain ⟨al, capl, rfl, -⟩ := hrl
    obtain ⟨kb, x0, x1⟩ := HBX.out _ hb
    go_enter Try.func4, Try.ntmps4
    go_wp2_with fail
    refine (HZl.out _ kb).mono ?_
    rintro e w1 ⟨rfl, rfl⟩
    go_upto_region 5 with fail
    obtain ⟨wr, hwr⟩ : ∃ wr, wr = (w.alloc (.cells #[.int .i64 x, .int .i64 y] 37)) := ⟨_, rfl⟩
    rw [← hwr] at hb HBX HW1 x0 x1 HRF ⊢
    clear hwr kb
    have HWR : Hid (w.heap.size + 1 ≤ wr.heap.size) := Lib.hid (Nat.le_trans HW1.out hb.size)
    go_cut [8, 9] (fun s8 s9 wx => ∃ g ya ycap, s8 = .pointer (some ⟨g, 0, none⟩) ∧ s9 = .bool ok ∧ Hid (BxT wx g rc (.slice ya d.length ycap) ∧ OwnSS wx wr.heap.size wx.heap.size (.slice ya d.length ycap) d ∧ Below wr.heap.size wr wx))
    case first =>
      refine wp_region_noPanic ?_
      refine wp_region_held_drew (S := (fun w' => (w'.cell? ⟨w.heap.size, 0, none⟩ = some (.int .i64 x) ∧ w'.cell? ⟨w.heap.size, 1, none⟩ = some (.int .i64 y)) ∧ Below wr.heap.size wr w')) (by kernel_rfl) ?_ (fun hHeld => ?_)
      · ((try dsimp only); exact ⟨⟨x0, x1⟩, (Below.refl _ _).drew⟩)
      refine wpAnyH_take (i := 0) (v := ?_) rfl (by kernel_rfl) (by kernel_rfl) (by kernel_rfl) (fun _ _ _ h => h) (Or.inl ⟨by rfl, ?_⟩) (by assumption) ?_
      rotate_left
      · (intro w hSw; (try dsimp only at hSw); go_simp; (try with_reducible rfl))
      (try simp only [Act.put, List.getElem_toArray, List.getElem_cons_zero, List.setIfInBounds_toArray, List.set_cons_zero, List.set_cons_succ])
      refine wpAnyH_take (i := 1) (v := ?_) rfl (by kernel_rfl) (by kernel_rfl) (by kernel_rfl) (fun _ _ _ h => h) (Or.inl ⟨by rfl, ?_⟩) (by assumption) ?_
      rotate_left
      · (intro w hSw; (try dsimp only at hSw); go_simp; (try with_reducible rfl))
      (try simp only [Act.put, List.getElem_toArray, List.getElem_cons_succ, List.getElem_cons_zero, List.setIfInBounds_toArray, List.set_cons_zero, List.set_cons_succ])
      refine wpAnyH_take (i := 3) (v := ?_) rfl (by kernel_rfl) (by kernel_rfl) (by kernel_rfl) (fun _ _ _ h => h) (Or.inl ⟨by rfl, ?_⟩) (by assumption) ?_
      rotate_left
      · (intro w hSw; (try dsimp only at hSw); go_simp; (try with_reducible rfl))
      (try simp only [Act.put, List.getElem_toArray, List.getElem_cons_succ, List.getElem_cons_zero, List.setIfInBounds_toArray, List.set_cons_zero, List.set_cons_succ])
      refine wpAnyH_ready (rs := [2, 9]) (by kernel_rfl) (by simp) (AllReadyH.cons rfl (fun K hK => ?_) (AllReadyH.cons rfl (fun K hK => ?_) AllReadyH.nil))
      · (first | (go_at_call 9; refine (HTO.out _ (HBX.out _ (hb.trans (hHeld.2.mono hb.size))).1).mono ?_; rintro e w91 ⟨v91, rfl, o91, b91⟩; have R91 := Lib.hid o91.read) | (go_simp; go_at_call 9; refine (HTO.out _ (HBX.out _ (hb.trans (hHeld.2.mono hb.size))).1).mono ?_; rintro e w91 ⟨v91, rfl, o91, b91⟩; have R91 := Lib.hid o91.read))
        (try (go_wp2_with fail))
        refine hK.out _ _ ?_ (fun hHeld => ?_)
        · ((try dsimp only); exact ⟨⟨cellb hHeld.1.1 b91, cellb hHeld.1.2 b91⟩, hHeld.2.trans (b91.mono hHeld.2.size)⟩)
        clear hK K
        (try simp only [Act.put, List.getElem_toArray, List.getElem_cons_succ, List.getElem_cons_zero, List.setIfInBounds_toArray, List.set_cons_zero, List.set_cons_succ])
        refine wpAnyH_ready (rs := [4, 9]) (by kernel_rfl) (by simp) (AllReadyH.cons rfl (fun K hK => ?_) (AllReadyH.cons rfl (fun K hK => ?_) AllReadyH.nil))
        · (first | (go_at_call 17; refine (HTD.out _).mono ?_; rintro e w92 ⟨rfl, b92⟩; have R92 := Lib.hid (R91.out.kept b92)) | (go_simp; go_at_call 17; refine (HTD.out _).mono ?_; rintro e w92 ⟨rfl, b92⟩; have R92 := Lib.hid (R91.out.kept b92)))
          (try (go_wp2_with fail))
          refine hK.out _ _ ?_ (fun hHeld => ?_)
          · ((try dsimp only); exact ⟨⟨cellb hHeld.1.1 b92, cellb hHeld.1.2 b92⟩, hHeld.2.trans (b92.mono hHeld.2.size)⟩)
          clear hK K
          (try simp only [Act.put, List.getElem_toArray, List.getElem_cons_succ, List.getElem_cons_zero, List.setIfInBounds_toArray, List.set_cons_zero, List.set_cons_succ])
          refine wpAnyH_ready (rs := [5, 9]) (by kernel_rfl) (by simp) (AllReadyH.cons rfl (fun K hK => ?_) (AllReadyH.cons rfl (fun K hK => ?_) AllReadyH.nil))
          · (first | (go_at_call 16; have HB0 := Lib.hid hHeld.2.size; refine (HS.out _ _ R92.out).mono ?_; rintro e w93 ⟨y0, rfl, oy, b93⟩; obtain ⟨ya, ycap, rfl, -⟩ := oy.read; have HY := Lib.hid oy) | (go_simp; go_at_call 16; have HB0 := Lib.hid hHeld.2.size; refine (HS.out _ _ R92.out).mono ?_; rintro e w93 ⟨y0, rfl, oy, b93⟩; obtain ⟨ya, ycap, rfl, -⟩ := oy.read; have HY := Lib.hid oy))
            (try (go_wp2_with fail))
            refine hK.out _ _ ?_ (fun hHeld => ?_)
            · ((try dsimp only); exact ⟨⟨cellb hHeld.1.1 b93, cellb hHeld.1.2 b93⟩, hHeld.2.trans (b93.mono hHeld.2.size)⟩)
            clear hK K
            (try simp only [Act.put, List.getElem_toArray, List.getElem_cons_succ, List.getElem_cons_zero, List.setIfInBounds_toArray, List.set_cons_zero, List.set_cons_succ])
            refine wpAnyH_take (i := 6) (v := ?_) rfl (by kernel_rfl) (by kernel_rfl) (by kernel_rfl) (fun _ _ _ h => h) (Or.inl ⟨by rfl, ?_⟩) (by assumption) ?_
            rotate_left
            · (intro w hSw; (try dsimp only at hSw); go_simp; (try with_reducible rfl))
            (try simp only [Act.put, List.getElem_toArray, List.getElem_cons_succ, List.getElem_cons_zero, List.setIfInBounds_toArray, List.set_cons_zero, List.set_cons_succ])
            refine wpAnyH_take (i := 7) (v := ?_) rfl (by kernel_rfl) (by kernel_rfl) (by kernel_rfl) (fun _ _ _ h => h) (Or.inl ⟨by rfl, ?_⟩) (by assumption) ?_
            rotate_left
            · (intro w hSw; (try dsimp only at hSw); go_simp; (try with_reducible rfl))
            (try simp only [Act.put, List.getElem_toArray, List.getElem_cons_succ, List.getElem_cons_zero, List.setIfInBounds_toArray, List.set_cons_zero, List.set_cons_succ])
            refine wpAnyH_take (i := 8) (v := ?_) rfl (by kernel_rfl) (by kernel_rfl) (by kernel_rfl) (fun _ _ _ h => h) (Or.inl ⟨by rfl, ?_⟩) (by assumption) ?_
            rotate_left
            · (intro w hSw; (try dsimp only at hSw); go_simp; (try with_reducible rfl))
            (try simp only [Act.put, List.getElem_toArray, List.getElem_cons_succ, List.getElem_cons_zero, List.setIfInBounds_toArray, List.set_cons_zero, List.set_cons_succ])
            have H93 := Lib.hid hHeld
            refine wpAnyH_ready (rs := [9]) (by kernel_rfl) (by simp) (AllReadyH.cons rfl (fun K hK => ?_) AllReadyH.nil)
            go_simp
            refine hK.out _ _ ?_ (fun hHeld => ?_)
            · ((try dsimp only); (first | exact ⟨⟨cellb hHeld.1.1 ((Below.refl _ _).alloc (Nat.le_refl _) _), cellb hHeld.1.2 ((Below.refl _ _).alloc (Nat.le_refl _) _)⟩, hHeld.2.alloc hHeld.2.size _⟩))
            clear hK K
            (try simp only [Act.put, List.getElem_toArray, List.getElem_cons_succ, List.getElem_cons_zero, List.setIfInBounds_toArray, List.set_cons_zero, List.set_cons_succ])
            obtain ⟨d0, d1⟩ := zero2 w93 26 (.int .i64 0) (.slice none 0 0)
            refine wpAnyH_ready (rs := [10]) (by kernel_rfl) (by simp) (AllReadyH.cons rfl (fun K hK => ?_) AllReadyH.nil)
            go_simp
            refine hK.out _ _ ?_ (fun hHeld => ?_)
            · ((try dsimp only); exact ⟨⟨cellb H93.out.1.1 ((Below.refl _ _).alloc (Nat.le_refl _) _), cellb H93.out.1.2 ((Below.refl _ _).alloc (Nat.le_refl _) _)⟩, H93.out.2.alloc H93.out.2.size _⟩)
            clear hK K
            (try simp only [Act.put, List.getElem_toArray, List.getElem_cons_succ, List.getElem_cons_zero, List.setIfInBounds_toArray, List.set_cons_zero, List.set_cons_succ])
            refine wpAnyH_take (i := 11) (v := ?_) rfl (by kernel_rfl) (by kernel_rfl) (by kernel_rfl) (fun _ _ _ h => h) (Or.inl ⟨by rfl, ?_⟩) (by assumption) ?_
            rotate_left
            · (intro w hSw; (try dsimp only at hSw); go_simp; (try with_reducible rfl))
            (try simp only [Act.put, List.getElem_toArray, List.getElem_cons_succ, List.getElem_cons_zero, List.setIfInBounds_toArray, List.set_cons_zero, List.set_cons_succ])
            refine wpAnyH_done (by kernel_rfl) ?_ _
            refine NoPanic.normal ?_
            have HG := Lib.hid (tb_new H93.out.2 HB0.out HY.out (rc := rc))
            clear hHeld d0 d1
            go_wp2_with fail
            go_meet
            exact ⟨_, _, _, rfl, rfl, HG⟩
          · have HGE : Hid (wr.heap.size ≤ w92.heap.size) := Lib.hid hHeld.2.size
            go_simp
            refine hK.out _ _ ?_ (fun hHeld => ?_)
            · ((try dsimp only); (first | exact ⟨⟨cellb hHeld.1.1 ((Below.refl _ _).alloc (Nat.le_refl _) _), cellb hHeld.1.2 ((Below.refl _ _).alloc (Nat.le_refl _) _)⟩, hHeld.2.alloc hHeld.2.size _⟩))
            clear hK K
            (try simp only [Act.put, List.getElem_toArray, List.getElem_cons_succ, List.getElem_cons_zero, List.setIfInBounds_toArray, List.set_cons_zero, List.set_cons_succ])
            have HZ : Hid (BxT (World.alloc w92 (.cells #[.int .i64 0, .slice none 0 0] 26)) w92.heap.size 0 (.slice none 0 0)) := Lib.hid (bxt_new w92 0 (.slice none 0 0))
            replace R92 := Lib.hid (R92.out.kept ((Below.refl _ _).alloc (Nat.le_refl _) (.cells #[.int .i64 0, .slice none 0 0] 26)))
            refine wpAnyH_ready (rs := [5]) (by kernel_rfl) (by simp) (AllReadyH.cons rfl (fun K hK => ?_) AllReadyH.nil)
            (first | (go_at_call 16; have HB0 := Lib.hid hHeld.2.size; have HG0 := Lib.hid HZ.out.lt; refine (HS.out _ _ R92.out).mono ?_; rintro e w93 ⟨y0, rfl, oy, b93⟩; obtain ⟨ya, ycap, rfl, -⟩ := oy.read; have HY := Lib.hid oy; have HZ93 := Lib.hid (HZ.out.keep b93)) | (go_simp; go_at_call 16; have HB0 := Lib.hid hHeld.2.size; have HG0 := Lib.hid HZ.out.lt; refine (HS.out _ _ R92.out).mono ?_; rintro e w93 ⟨y0, rfl, oy, b93⟩; obtain ⟨ya, ycap, rfl, -⟩ := oy.read; have HY := Lib.hid oy; have HZ93 := Lib.hid (HZ.out.keep b93)))
            (try (go_wp2_with fail))
            refine hK.out _ _ ?_ (fun hHeld => ?_)
            · ((try dsimp only); exact ⟨⟨cellb hHeld.1.1 b93, cellb hHeld.1.2 b93⟩, hHeld.2.trans (b93.mono hHeld.2.size)⟩)
            clear hK K
            (try simp only [Act.put, List.getElem_toArray, List.getElem_cons_succ, List.getElem_cons_zero, List.setIfInBounds_toArray, List.set_cons_zero, List.set_cons_succ])
            replace HZ := HZ93
            refine wpAnyH_take (i := 6) (v := ?_) rfl (by kernel_rfl) (by kernel_rfl) (by kernel_rfl) (fun _ _ _ h => h) (Or.inl ⟨by rfl, ?_⟩) (by assumption) ?_
            rotate_left
            · (intro w hSw; (try dsimp only at hSw); go_simp; (try with_reducible rfl))
            (try simp only [Act.put, List.getElem_toArray, List.getElem_cons_succ, List.getElem_cons_zero, List.setIfInBounds_toArray, List.set_cons_zero, List.set_cons_succ])
            refine wpAnyH_take (i := 7) (v := ?_) rfl (by kernel_rfl) (by kernel_rfl) (by kernel_rfl) (fun _ _ _ h => h) (Or.inl ⟨by rfl, ?_⟩) (by assumption) ?_
            rotate_left
            · (intro w hSw; (try dsimp only at hSw); go_simp; (try with_reducible rfl))
            (try simp only [Act.put, List.getElem_toArray, List.getElem_cons_succ, List.getElem_cons_zero, List.setIfInBounds_toArray, List.set_cons_zero, List.set_cons_succ])
            refine wpAnyH_take (i := 8) (v := ?_) rfl (by kernel_rfl) (by kernel_rfl) (by kernel_rfl) (fun _ _ _ h => h) (Or.inl ⟨by rfl, ?_⟩) (by assumption) ?_
            rotate_left
            · (intro w hSw; (try dsimp only at hSw); go_simp; (try with_reducible rfl))
            (try simp only [Act.put, List.getElem_toArray, List.getElem_cons_succ, List.getElem_cons_zero, List.setIfInBounds_toArray, List.set_cons_zero, List.set_cons_succ])
            have H93 := Lib.hid hHeld
            have d0 := HZ.out.c0
            have d1 := HZ.out.c1
            have f0 := HZ.out.f0
            have f1 := HZ.out.f1
            have HG := Lib.hid (tb_old H93.out.2 HZ.out HGE.out HG0.out HB0.out HY.out (rc := rc))
            have HNE := Lib.hid (Nat.ne_of_gt (Nat.lt_of_lt_of_le (Nat.lt_of_lt_of_le (Nat.lt_succ_self w.heap.size) HWR.out) HGE.out))
            refine wpAnyH_ready (rs := [10]) (by kernel_rfl) (by simp) (AllReadyH.cons rfl (fun K hK => ?_) AllReadyH.nil)
            go_simp
            refine hK.out _ _ ?_ (fun hHeld => ?_)
            · ((try dsimp only); (first | exact ⟨⟨cellb2 H93.out.1.1 HNE.out, cellb2 H93.out.1.2 HNE.out⟩, (H93.out.2.setCell (p := ⟨_, 0, none⟩) HGE.out _).setCell (p := ⟨_, 1, none⟩) HGE.out _⟩))
            clear hK K
            (try simp only [Act.put, List.getElem_toArray, List.getElem_cons_succ, List.getElem_cons_zero, List.setIfInBounds_toArray, List.set_cons_zero, List.set_cons_succ])
            refine wpAnyH_take (i := 11) (v := ?_) rfl (by kernel_rfl) (by kernel_rfl) (by kernel_rfl) (fun _ _ _ h => h) (Or.inl ⟨by rfl, ?_⟩) (by assumption) ?_
            rotate_left
            · (intro w hSw; (try dsimp only at hSw); go_simp; (try with_reducible rfl))
            (try simp only [Act.put, List.getElem_toArray, List.getElem_cons_succ, List.getElem_cons_zero, List.setIfInBounds_toArray, List.set_cons_zero, List.set_cons_succ])
            refine wpAnyH_done (by kernel_rfl) ?_ _
            refine NoPanic.normal ?_
            clear hHeld d0 d1 f0 f1
            go_wp2_with fail
            go_meet
            exact ⟨_, _, _, rfl, rfl, HG⟩
        · have HGE : Hid (wr.heap.size ≤ w91.heap.size) := Lib.hid hHeld.2.size
          go_simp
          refine hK.out _ _ ?_ (fun hHeld => ?_)
          · ((try dsimp only); (first | exact ⟨⟨cellb hHeld.1.1 ((Below.refl _ _).alloc (Nat.le_refl _) _), cellb hHeld.1.2 ((Below.refl _ _).alloc (Nat.le_refl _) _)⟩, hHeld.2.alloc hHeld.2.size _⟩))
          clear hK K
          (try simp only [Act.put, List.getElem_toArray, List.getElem_cons_succ, List.getElem_cons_zero, List.setIfInBounds_toArray, List.set_cons_zero, List.set_cons_succ])
          have HZ : Hid (BxT (World.alloc w91 (.cells #[.int .i64 0, .slice none 0 0] 26)) w91.heap.size 0 (.slice none 0 0)) := Lib.hid (bxt_new w91 0 (.slice none 0 0))
          replace R91 := Lib.hid (R91.out.kept ((Below.refl _ _).alloc (Nat.le_refl _) (.cells #[.int .i64 0, .slice none 0 0] 26)))
          refine wpAnyH_ready (rs := [4]) (by kernel_rfl) (by simp) (AllReadyH.cons rfl (fun K hK => ?_) AllReadyH.nil)
          (first | (go_at_call 17; refine (HTD.out _).mono ?_; rintro e w92 ⟨rfl, b92⟩; have R92 := Lib.hid (R91.out.kept b92); have HZ92 := Lib.hid (HZ.out.keep b92)) | (go_simp; go_at_call 17; refine (HTD.out _).mono ?_; rintro e w92 ⟨rfl, b92⟩; have R92 := Lib.hid (R91.out.kept b92); have HZ92 := Lib.hid (HZ.out.keep b92)))
          (try (go_wp2_with fail))
          refine hK.out _ _ ?_ (fun hHeld => ?_)
          · ((try dsimp only); exact ⟨⟨cellb hHeld.1.1 b92, cellb hHeld.1.2 b92⟩, hHeld.2.trans (b92.mono hHeld.2.size)⟩)
          clear hK K
          (try simp only [Act.put, List.getElem_toArray, List.getElem_cons_succ, List.getElem_cons_zero, List.setIfInBounds_toArray, List.set_cons_zero, List.set_cons_succ])
          replace HZ := HZ92
          refine wpAnyH_ready (rs := [5]) (by kernel_rfl) (by simp) (AllReadyH.cons rfl (fun K hK => ?_) AllReadyH.nil)
          (first | (go_at_call 16; have HB0 := Lib.hid hHeld.2.size; have HG0 := Lib.hid HZ.out.lt; refine (HS.out _ _ R92.out).mono ?_; rintro e w93 ⟨y0, rfl, oy, b93⟩; obtain ⟨ya, ycap, rfl, -⟩ := oy.read; have HY := Lib.hid oy; have HZ93 := Lib.hid (HZ.out.keep b93)) | (go_simp; go_at_call 16; have HB0 := Lib.hid hHeld.2.size; have HG0 := Lib.hid HZ.out.lt; refine (HS.out _ _ R92.out).mono ?_; rintro e w93 ⟨y0, rfl, oy, b93⟩; obtain ⟨ya, ycap, rfl, -⟩ := oy.read; have HY := Lib.hid oy; have HZ93 := Lib.hid (HZ.out.keep b93)))
          (try (go_wp2_with fail))
          refine hK.out _ _ ?_ (fun hHeld => ?_)
          · ((try dsimp only); exact ⟨⟨cellb hHeld.1.1 b93, cellb hHeld.1.2 b93⟩, hHeld.2.trans (b93.mono hHeld.2.size)⟩)
          clear hK K
          (try simp only [Act.put, List.getElem_toArray, List.getElem_cons_succ, List.getElem_cons_zero, List.setIfInBounds_toArray, List.set_cons_zero, List.set_cons_succ])
          replace HZ := HZ93
          refine wpAnyH_take (i := 6) (v := ?_) rfl (by kernel_rfl) (by kernel_rfl) (by kernel_rfl) (fun _ _ _ h => h) (Or.inl ⟨by rfl, ?_⟩) (by assumption) ?_
          rotate_left
          · (intro w hSw; (try dsimp only at hSw); go_simp; (try with_reducible rfl))
          (try simp only [Act.put, List.getElem_toArray, List.getElem_cons_succ, List.getElem_cons_zero, List.setIfInBounds_toArray, List.set_cons_zero, List.set_cons_succ])
          refine wpAnyH_take (i := 7) (v := ?_) rfl (by kernel_rfl) (by kernel_rfl) (by kernel_rfl) (fun _ _ _ h => h) (Or.inl ⟨by rfl, ?_⟩) (by assumption) ?_
          rotate_left
          · (intro w hSw; (try dsimp only at hSw); go_simp; (try with_reducible rfl))
          (try simp only [Act.put, List.getElem_toArray, List.getElem_cons_succ, List.getElem_cons_zero, List.setIfInBounds_toArray, List.set_cons_zero, List.set_cons_succ])
          refine wpAnyH_take (i := 8) (v := ?_) rfl (by kernel_rfl) (by kernel_rfl) (by kernel_rfl) (fun _ _ _ h => h) (Or.inl ⟨by rfl, ?_⟩) (by assumption) ?_
          rotate_left
          · (intro w hSw; (try dsimp only at hSw); go_simp; (try with_reducible rfl))
          (try simp only [Act.put, List.getElem_toArray, List.getElem_cons_succ, List.getElem_cons_zero, List.setIfInBounds_toArray, List.set_cons_zero, List.set_cons_succ])
          have H93 := Lib.hid hHeld
          have d0 := HZ.out.c0
          have d1 := HZ.out.c1
          have f0 := HZ.out.f0
          have f1 := HZ.out.f1
          have HG := Lib.hid (tb_old H93.out.2 HZ.out HGE.out HG0.out HB0.out HY.out (rc := rc))
          have HNE := Lib.hid (Nat.ne_of_gt (Nat.lt_of_lt_of_le (Nat.lt_of_lt_of_le (Nat.lt_succ_self w.heap.size) HWR.out) HGE.out))
          refine wpAnyH_ready (rs := [10]) (by kernel_rfl) (by simp) (AllReadyH.cons rfl (fun K hK => ?_) AllReadyH.nil)
          go_simp
          refine hK.out _ _ ?_ (fun hHeld => ?_)
          · ((try dsimp only); (first | exact ⟨⟨cellb2 H93.out.1.1 HNE.out, cellb2 H93.out.1.2 HNE.out⟩, (H93.out.2.setCell (p := ⟨_, 0, none⟩) HGE.out _).setCell (p := ⟨_, 1, none⟩) HGE.out _⟩))
          clear hK K
          (try simp only [Act.put, List.getElem_toArray, List.getElem_cons_succ, List.getElem_cons_zero, List.setIfInBounds_toArray, List.set_cons_zero, List.set_cons_succ])
          refine wpAnyH_take (i := 11) (v := ?_) rfl (by kernel_rfl) (by kernel_rfl) (by kernel_rfl) (fun _ _ _ h => h) (Or.inl ⟨by rfl, ?_⟩) (by assumption) ?_
          rotate_left
          · (intro w hSw; (try dsimp only at hSw); go_simp; (try with_reducible rfl))
          (try simp only [Act.put, List.getElem_toArray, List.getElem_cons_succ, List.getElem_cons_zero, List.setIfInBounds_toArray, List.set_cons_zero, List.set_cons_succ])
          refine wpAnyH_done (by kernel_rfl) ?_ _
          refine NoPanic.normal ?_
          clear hHeld d0 d1 f0 f1
          go_wp2_with fail
          go_meet
          exact ⟨_, _, _, rfl, rfl, HG⟩
      · have HGE : Hid (wr.heap.size ≤ wr.heap.size) := Lib.hid hHeld.2.size
        go_simp
        refine hK.out _ _ ?_ (fun hHeld => ?_)
        · ((try dsimp only); (first | exact ⟨⟨cellb hHeld.1.1 ((Below.refl _ _).alloc (Nat.le_refl _) _), cellb hHeld.1.2 ((Below.refl _ _).alloc (Nat.le_refl _) _)⟩, hHeld.2.alloc hHeld.2.size _⟩))
        clear hK K
        (try simp only [Act.put, List.getElem_toArray, List.getElem_cons_succ, List.getElem_cons_zero, List.setIfInBounds_toArray, List.set_cons_zero, List.set_cons_succ])
        have HZ : Hid (BxT (World.alloc (World.drew wr) (.cells #[.int .i64 0, .slice none 0 0] 26)) wr.heap.size 0 (.slice none 0 0)) := Lib.hid (bxt_new (World.drew wr) 0 (.slice none 0 0))
        refine wpAnyH_ready (rs := [2]) (by kernel_rfl) (by simp) (AllReadyH.cons rfl (fun K hK => ?_) AllReadyH.nil)
        (first | (go_at_call 9; refine (HTO.out _ (HBX.out _ (hb.trans (hHeld.2.mono hb.size))).1).mono ?_; rintro e w91 ⟨v91, rfl, o91, b91⟩; have R91 := Lib.hid o91.read; have HZ91 := Lib.hid (HZ.out.keep b91)) | (go_simp; go_at_call 9; refine (HTO.out _ (HBX.out _ (hb.trans (hHeld.2.mono hb.size))).1).mono ?_; rintro e w91 ⟨v91, rfl, o91, b91⟩; have R91 := Lib.hid o91.read; have HZ91 := Lib.hid (HZ.out.keep b91)))
        (try (go_wp2_with fail))
        refine hK.out _ _ ?_ (fun hHeld => ?_)
        · ((try dsimp only); exact ⟨⟨cellb hHeld.1.1 b91, cellb hHeld.1.2 b91⟩, hHeld.2.trans (b91.mono hHeld.2.size)⟩)
        clear hK K
        (try simp only [Act.put, List.getElem_toArray, List.getElem_cons_succ, List.getElem_cons_zero, List.setIfInBounds_toArray, List.set_cons_zero, List.set_cons_succ])
        replace HZ := HZ91
        refine wpAnyH_ready (rs := [4]) (by kernel_rfl) (by simp) (AllReadyH.cons rfl (fun K hK => ?_) AllReadyH.nil)
        (first | (go_at_call 17; refine (HTD.out _).mono ?_; rintro e w92 ⟨rfl, b92⟩; have R92 := Lib.hid (R91.out.kept b92); have HZ92 := Lib.hid (HZ.out.keep b92)) | (go_simp; go_at_call 17; refine (HTD.out _).mono ?_; rintro e w92 ⟨rfl, b92⟩; have R92 := Lib.hid (R91.out.kept b92); have HZ92 := Lib.hid (HZ.out.keep b92)))
        (try (go_wp2_with fail))
        refine hK.out _ _ ?_ (fun hHeld => ?_)
        · ((try dsimp only); exact ⟨⟨cellb hHeld.1.1 b92, cellb hHeld.1.2 b92⟩, hHeld.2.trans (b92.mono hHeld.2.size)⟩)
        clear hK K
        (try simp only [Act.put, List.getElem_toArray, List.getElem_cons_succ, List.getElem_cons_zero, List.setIfInBounds_toArray, List.set_cons_zero, List.set_cons_succ])
        replace HZ := HZ92
        refine wpAnyH_ready (rs := [5]) (by kernel_rfl) (by simp) (AllReadyH.cons rfl (fun K hK => ?_) AllReadyH.nil)
        (first | (go_at_call 16; have HB0 := Lib.hid hHeld.2.size; have HG0 := Lib.hid HZ.out.lt; refine (HS.out _ _ R92.out).mono ?_; rintro e w93 ⟨y0, rfl, oy, b93⟩; obtain ⟨ya, ycap, rfl, -⟩ := oy.read; have HY := Lib.hid oy; have HZ93 := Lib.hid (HZ.out.keep b93)) | (go_simp; go_at_call 16; have HB0 := Lib.hid hHeld.2.size; have HG0 := Lib.hid HZ.out.lt; refine (HS.out _ _ R92.out).mono ?_; rintro e w93 ⟨y0, rfl, oy, b93⟩; obtain ⟨ya, ycap, rfl, -⟩ := oy.read; have HY := Lib.hid oy; have HZ93 := Lib.hid (HZ.out.keep b93)))
        (try (go_wp2_with fail))
        refine hK.out _ _ ?_ (fun hHeld => ?_)
        · ((try dsimp only); exact ⟨⟨cellb hHeld.1.1 b93, cellb hHeld.1.2 b93⟩, hHeld.2.trans (b93.mono hHeld.2.size)⟩)
        clear hK K
        (try simp only [Act.put, List.getElem_toArray, List.getElem_cons_succ, List.getElem_cons_zero, List.setIfInBounds_toArray, List.set_cons_zero, List.set_cons_succ])
        replace HZ := HZ93
        refine wpAnyH_take (i := 6) (v := ?_) rfl (by kernel_rfl) (by kernel_rfl) (by kernel_rfl) (fun _ _ _ h => h) (Or.inl ⟨by rfl, ?_⟩) (by assumption) ?_
        rotate_left
        · (intro w hSw; (try dsimp only at hSw); go_simp; (try with_reducible rfl))
        (try simp only [Act.put, List.getElem_toArray, List.getElem_cons_succ, List.getElem_cons_zero, List.setIfInBounds_toArray, List.set_cons_zero, List.set_cons_succ])
        refine wpAnyH_take (i := 7) (v := ?_) rfl (by kernel_rfl) (by kernel_rfl) (by kernel_rfl) (fun _ _ _ h => h) (Or.inl ⟨by rfl, ?_⟩) (by assumption) ?_
        rotate_left
        · (intro w hSw; (try dsimp only at hSw); go_simp; (try with_reducible rfl))
        (try simp only [Act.put, List.getElem_toArray, List.getElem_cons_succ, List.getElem_cons_zero, List.setIfInBounds_toArray, List.set_cons_zero, List.set_cons_succ])
        refine wpAnyH_take (i := 8) (v := ?_) rfl (by kernel_rfl) (by kernel_rfl) (by kernel_rfl) (fun _ _ _ h => h) (Or.inl ⟨by rfl, ?_⟩) (by assumption) ?_
        rotate_left
        · (intro w hSw; (try dsimp only at hSw); go_simp; (try with_reducible rfl))
        (try simp only [Act.put, List.getElem_toArray, List.getElem_cons_succ, List.getElem_cons_zero, List.setIfInBounds_toArray, List.set_cons_zero, List.set_cons_succ])
        have H93 := Lib.hid hHeld
        have d0 := HZ.out.c0
        have d1 := HZ.out.c1
        have f0 := HZ.out.f0
        have f1 := HZ.out.f1
        have HG := Lib.hid (tb_old H93.out.2 HZ.out HGE.out HG0.out HB0.out HY.out (rc := rc))
        have HNE := Lib.hid (Nat.ne_of_gt (Nat.lt_of_lt_of_le (Nat.lt_of_lt_of_le (Nat.lt_succ_self w.heap.size) HWR.out) HGE.out))
        refine wpAnyH_ready (rs := [10]) (by kernel_rfl) (by simp) (AllReadyH.cons rfl (fun K hK => ?_) AllReadyH.nil)
        go_simp
        refine hK.out _ _ ?_ (fun hHeld => ?_)
        · ((try dsimp only); (first | exact ⟨⟨cellb2 H93.out.1.1 HNE.out, cellb2 H93.out.1.2 HNE.out⟩, (H93.out.2.setCell (p := ⟨_, 0, none⟩) HGE.out _).setCell (p := ⟨_, 1, none⟩) HGE.out _⟩))
        clear hK K
        (try simp only [Act.put, List.getElem_toArray, List.getElem_cons_succ, List.getElem_cons_zero, List.setIfInBounds_toArray, List.set_cons_zero, List.set_cons_succ])
        refine wpAnyH_take (i := 11) (v := ?_) rfl (by kernel_rfl) (by kernel_rfl) (by kernel_rfl) (fun _ _ _ h => h) (Or.inl ⟨by rfl, ?_⟩) (by assumption) ?_
        rotate_left
        · (intro w hSw; (try dsimp only at hSw); go_simp; (try with_reducible rfl))
        (try simp only [Act.put, List.getElem_toArray, List.getElem_cons_succ, List.getElem_cons_zero, List.setIfInBounds_toArray, List.set_cons_zero, List.set_cons_succ])
        refine wpAnyH_done (by kernel_rfl) ?_ _
        refine NoPanic.normal ?_
        clear hHeld d0 d1 f0 f1
        go_wp2_with fail
        go_meet
        exact ⟨_, _, _, rfl, rfl, HG⟩
    case rest =>
      obtain ⟨gy, ya, ycap, rfl, rfl, HG⟩ := hcut
      obtain ⟨w0, hw⟩ : ∃ w', w' = wc := ⟨_, rfl⟩
      rw [← hw] at HG ⊢
      clear hw
      obtain ⟨hby, oy, hbw⟩ := HG.out
      have zy := hby.lt
      have ybx := hby.c0
      have yby := hby.c1
      replace hb := hb.trans (hbw.mono hb.size)
      clear hby hbw HG x0 x1
      have hzz := hb.size
      have hw1 := HW1.out
      obtain ⟨kb, x0, x1⟩ := HBX.out _ hb
      go_wp2_with fail
      refine (HTO.out _ kb).mono ?_
      rintro e w1 ⟨v1, rfl, o1, b1⟩
      clear kb x0 x1
      replace o1 := o1.range
      have z1 := b1.size
      replace hb := hb.trans (b1.mono hb.size)
      replace oy := oy.same (Below.keeps b1 (by omega))
      replace ybx := (b1.cell (p := ⟨gy, 0, none⟩) (show gy < _ by omega)).trans ybx
      replace yby := (b1.cell (p := ⟨gy, 1, none⟩) (show gy < _ by omega)).trans yby
      clear b1
      obtain ⟨kb, x0, x1⟩ := HBX.out _ hb
      go_wp2_with fail
      refine (HTD.out _).mono ?_
      rintro e w2 ⟨rfl, b2⟩
      clear kb x0 x1
      have z2 := b2.size
      replace hb := hb.trans (b2.mono hb.size)
      replace oy := oy.same (Below.keeps b2 (by omega))
      replace o1 := o1.same (Below.keeps b2 (by omega))
      replace ybx := (b2.cell (p := ⟨gy, 0, none⟩) (show gy < _ by omega)).trans ybx
      replace yby := (b2.cell (p := ⟨gy, 1, none⟩) (show gy < _ by omega)).trans yby
      clear b2
      obtain ⟨kb, x0, x1⟩ := HBX.out _ hb
      go_wp2_with fail
      refine (HI.out _ _ o1.read).mono ?_
      rintro e w3 ⟨g0, rfl, og, b3⟩
      clear kb x0 x1
      have z3 := b3.size
      replace hb := hb.trans (b3.mono hb.size)
      replace oy := oy.same (Below.keeps b3 (by omega))
      replace o1 := o1.same (Below.keeps b3 (by omega))
      replace ybx := (b3.cell (p := ⟨gy, 0, none⟩) (show gy < _ by omega)).trans ybx
      replace yby := (b3.cell (p := ⟨gy, 1, none⟩) (show gy < _ by omega)).trans yby
      clear b3
      obtain ⟨ga, gcap, rfl, -⟩ := og.read
      have hbX := (Below.refl w3.heap.size w3).alloc (Nat.le_refl _) (.cells #[.int .i64 rc, .slice ga d.length gcap] 26)
      replace oy := oy.same (Below.keeps hbX (by omega))
      replace o1 := o1.same (Below.keeps hbX (by omega))
      replace og := og.same (Below.keeps hbX (by omega))
      replace ybx := (hbX.cell (p := ⟨gy, 0, none⟩) (show gy < _ by omega)).trans ybx
      replace yby := (hbX.cell (p := ⟨gy, 1, none⟩) (show gy < _ by omega)).trans yby
      replace hb := hb.trans (hbX.mono hb.size)
      have zXw3 : w3.heap.size + 1 ≤ (w3.alloc (.cells #[.int .i64 rc, .slice ga d.length gcap] 26)).heap.size := by simp
      clear hbX
      obtain ⟨kb, x0, x1⟩ := HBX.out _ hb
      go_wp2_with fail
      refine (HED.out _ _ _ og.read oy.read).mono ?_
      rintro e w4 ⟨rfl, b4⟩
      clear kb x0 x1
      obtain ⟨gbx, gby⟩ := box2 b4
      have z4 := b4.size
      replace hb := hb.trans (b4.mono hb.size)
      replace oy := oy.same (Below.keeps b4 (by omega))
      replace o1 := o1.same (Below.keeps b4 (by omega))
      replace og := og.same (Below.keeps b4 (by omega))
      replace ybx := (b4.cell (p := ⟨gy, 0, none⟩) (show gy < _ by omega)).trans ybx
      replace yby := (b4.cell (p := ⟨gy, 1, none⟩) (show gy < _ by omega)).trans yby
      clear b4
      obtain ⟨kb, x0, x1⟩ := HBX.out _ hb
      go_wp2_with fail
      refine (HTO.out _ kb).mono ?_
      rintro e w5 ⟨v2, rfl, o2, b5⟩
      clear kb x0 x1
      replace o2 := o2.range
      have z5 := b5.size
      replace hb := hb.trans (b5.mono hb.size)
      replace oy := oy.same (Below.keeps b5 (by omega))
      replace o1 := o1.same (Below.keeps b5 (by omega))
      replace og := og.same (Below.keeps b5 (by omega))
      replace ybx := (b5.cell (p := ⟨gy, 0, none⟩) (show gy < _ by omega)).trans ybx
      replace yby := (b5.cell (p := ⟨gy, 1, none⟩) (show gy < _ by omega)).trans yby
      replace gbx := (b5.cell (p := ⟨w3.heap.size, 0, none⟩) (show w3.heap.size < _ by omega)).trans gbx
      replace gby := (b5.cell (p := ⟨w3.heap.size, 1, none⟩) (show w3.heap.size < _ by omega)).trans gby
      clear b5
      obtain ⟨kb, x0, x1⟩ := HBX.out _ hb
      go_wp2_with fail
      refine (eqDepS_same _ _ _ _ o1.read o2.read (by omega)).mono ?_
      rintro e w6 ⟨rfl, b6⟩
      clear kb x0 x1
      have z6 := b6.size
      replace hb := hb.trans (b6.mono hb.size)
      replace oy := oy.same (Below.keeps b6 (by omega))
      replace o1 := o1.same (Below.keeps b6 (by omega))
      replace og := og.same (Below.keeps b6 (by omega))
      replace o2 := o2.same (Below.keeps b6 (by omega))
      replace ybx := (b6.cell (p := ⟨gy, 0, none⟩) (show gy < _ by omega)).trans ybx
      replace yby := (b6.cell (p := ⟨gy, 1, none⟩) (show gy < _ by omega)).trans yby
      replace gbx := (b6.cell (p := ⟨w3.heap.size, 0, none⟩) (show w3.heap.size < _ by omega)).trans gbx
      replace gby := (b6.cell (p := ⟨w3.heap.size, 1, none⟩) (show w3.heap.size < _ by omega)).trans gby
      clear b6
      clear o2
      obtain ⟨kb, x0, x1⟩ := HBX.out _ hb
      go_wp2_with fail
      refine (markDepR_any _ _ 1 _ _ _ o1 (by omega) (by omega) (by omega)).mono ?_
      rintro e w7 ⟨rfl, o1m, m7⟩
      clear kb x0 x1
      have z7 := m7.size
      replace hb := hb.trans (m7.below (by omega) (by omega))
      replace oy := oy.same (m7.same (by omega) (by omega))
      replace og := og.same (m7.same (by omega) (by omega))
      replace ybx := (World.cell?_of_block (a := ⟨gy, 0, none⟩) (m7.block gy (by omega) (by omega))).trans ybx
      replace yby := (World.cell?_of_block (a := ⟨gy, 1, none⟩) (m7.block gy (by omega) (by omega))).trans yby
      replace gbx := (World.cell?_of_block (a := ⟨w3.heap.size, 0, none⟩) (m7.block w3.heap.size (by omega) (by omega))).trans gbx
      replace gby := (World.cell?_of_block (a := ⟨w3.heap.size, 1, none⟩) (m7.block w3.heap.size (by omega) (by omega))).trans gby
      clear m7
      clear o1 o1m
      obtain ⟨kb, x0, x1⟩ := HBX.out _ hb
      go_wp2_with fail
      refine (HED.out _ _ _ og.read oy.read).mono ?_
      rintro e w8 ⟨rfl, b8⟩
      clear kb x0 x1
      have z8 := b8.size
      replace hb := hb.trans (b8.mono hb.size)
      replace oy := oy.same (Below.keeps b8 (by omega))
      replace og := og.same (Below.keeps b8 (by omega))
      replace ybx := (b8.cell (p := ⟨gy, 0, none⟩) (show gy < _ by omega)).trans ybx
      replace yby := (b8.cell (p := ⟨gy, 1, none⟩) (show gy < _ by omega)).trans yby
      replace gbx := (b8.cell (p := ⟨w3.heap.size, 0, none⟩) (show w3.heap.size < _ by omega)).trans gbx
      replace gby := (b8.cell (p := ⟨w3.heap.size, 1, none⟩) (show w3.heap.size < _ by omega)).trans gby
      clear b8
      obtain ⟨kb, x0, x1⟩ := HBX.out _ hb
      go_wp2_with fail
      refine (markTable_any rc _ d 1 _ _ _ og (by omega) hdl hdt (by omega) (by omega)).mono ?_
      rintro e w9 ⟨rfl, og', m9⟩
      clear kb x0 x1
      have z9 := m9.size
      replace hb := hb.trans (m9.below (by omega) (by omega))
      replace oy := oy.same (m9.same (by omega) (by omega))
      replace ybx := (World.cell?_of_block (a := ⟨gy, 0, none⟩) (m9.block gy (by omega) (by omega))).trans ybx
      replace yby := (World.cell?_of_block (a := ⟨gy, 1, none⟩) (m9.block gy (by omega) (by omega))).trans yby
      replace gbx := (World.cell?_of_block (a := ⟨w3.heap.size, 0, none⟩) (m9.block w3.heap.size (by omega) (by omega))).trans gbx
      replace gby := (World.cell?_of_block (a := ⟨w3.heap.size, 1, none⟩) (m9.block w3.heap.size (by omega) (by omega))).trans gby
      clear m9
      clear og
      have og := og'
      clear og'
      obtain ⟨kb, x0, x1⟩ := HBX.out _ hb
      go_wp2_with fail
      refine (heldTable_any rc _ d 1 _ og.read hdl hdt (by omega) (by omega)).mono ?_
      rintro e w10 ⟨rfl, b10⟩
      clear kb x0 x1
      have z10 := b10.size
      replace hb := hb.trans (b10.mono hb.size)
      replace oy := oy.same (Below.keeps b10 (by omega))
      replace og := og.same (Below.keeps b10 (by omega))
      replace ybx := (b10.cell (p := ⟨gy, 0, none⟩) (show gy < _ by omega)).trans ybx
      replace yby := (b10.cell (p := ⟨gy, 1, none⟩) (show gy < _ by omega)).trans yby
      replace gbx := (b10.cell (p := ⟨w3.heap.size, 0, none⟩) (show w3.heap.size < _ by omega)).trans gbx
      replace gby := (b10.cell (p := ⟨w3.heap.size, 1, none⟩) (show w3.heap.size < _ by omega)).trans gby
      clear b10
      obtain ⟨wq, hwq⟩ : ∃ w', w' = w10 := ⟨_, rfl⟩
      rw [← hwq] at hb oy og z10 ybx yby gbx gby ⊢
      clear hwq
      obtain ⟨kb, x0, x1⟩ := HBX.out _ hb
      go_upto_region 24 with fail
      have HWR : Hid (w.heap.size + 1 ≤ wq.heap.size) := Lib.hid (Nat.le_trans HW1.out hb.size)
      go_cut [16, 17] (fun s8 s9 wx => ∃ g ya ycap, s8 = .pointer (some ⟨g, 0, none⟩) ∧ s9 = .bool ok ∧ Hid (BxT wx g rc (.slice ya d.length ycap) ∧ OwnSS wx wq.heap.size wx.heap.size (.slice ya d.length ycap) d ∧ Below wq.heap.size wq wx))
      case first =>
        refine wp_region_noPanic ?_
        refine wp_region_held_drew (S := (fun w' => (w'.cell? ⟨w.heap.size, 0, none⟩ = some (.int .i64 x) ∧ w'.cell? ⟨w.heap.size, 1, none⟩ = some (.int .i64 y)) ∧ Below wq.heap.size wq w')) (by kernel_rfl) ?_ (fun hHeld => ?_)
        · ((try dsimp only); exact ⟨⟨x0, x1⟩, (Below.refl _ _).drew⟩)
        refine wpAnyH_take (i := 0) (v := ?_) rfl (by kernel_rfl) (by kernel_rfl) (by kernel_rfl) (fun _ _ _ h => h) (Or.inl ⟨by rfl, ?_⟩) (by assumption) ?_
        rotate_left
        · (intro w hSw; (try dsimp only at hSw); go_simp; (try with_reducible rfl))
        (try simp only [Act.put, List.getElem_toArray, List.getElem_cons_zero, List.setIfInBounds_toArray, List.set_cons_zero, List.set_cons_succ])
        refine wpAnyH_take (i := 1) (v := ?_) rfl (by kernel_rfl) (by kernel_rfl) (by kernel_rfl) (fun _ _ _ h => h) (Or.inl ⟨by rfl, ?_⟩) (by assumption) ?_
        rotate_left
        · (intro w hSw; (try dsimp only at hSw); go_simp; (try with_reducible rfl))
        (try simp only [Act.put, List.getElem_toArray, List.getElem_cons_succ, List.getElem_cons_zero, List.setIfInBounds_toArray, List.set_cons_zero, List.set_cons_succ])
        refine wpAnyH_take (i := 3) (v := ?_) rfl (by kernel_rfl) (by kernel_rfl) (by kernel_rfl) (fun _ _ _ h => h) (Or.inl ⟨by rfl, ?_⟩) (by assumption) ?_
        rotate_left
        · (intro w hSw; (try dsimp only at hSw); go_simp; (try with_reducible rfl))
        (try simp only [Act.put, List.getElem_toArray, List.getElem_cons_succ, List.getElem_cons_zero, List.setIfInBounds_toArray, List.set_cons_zero, List.set_cons_succ])
        refine wpAnyH_ready (rs := [2, 9]) (by kernel_rfl) (by simp) (AllReadyH.cons rfl (fun K hK => ?_) (AllReadyH.cons rfl (fun K hK => ?_) AllReadyH.nil))
        · (first | (go_at_call 9; refine (HTO.out _ (HBX.out _ (hb.trans (hHeld.2.mono hb.size))).1).mono ?_; rintro e w91 ⟨v91, rfl, o91, b91⟩; have R91 := Lib.hid o91.read) | (go_simp; go_at_call 9; refine (HTO.out _ (HBX.out _ (hb.trans (hHeld.2.mono hb.size))).1).mono ?_; rintro e w91 ⟨v91, rfl, o91, b91⟩; have R91 := Lib.hid o91.read))
          (try (go_wp2_with fail))
          refine hK.out _ _ ?_ (fun hHeld => ?_)
          · ((try dsimp only); exact ⟨⟨cellb hHeld.1.1 b91, cellb hHeld.1.2 b91⟩, hHeld.2.trans (b91.mono hHeld.2.size)⟩)
          clear hK K
          (try simp only [Act.put, List.getElem_toArray, List.getElem_cons_succ, List.getElem_cons_zero, List.setIfInBounds_toArray, List.set_cons_zero, List.set_cons_succ])
          refine wpAnyH_ready (rs := [4, 9]) (by kernel_rfl) (by simp) (AllReadyH.cons rfl (fun K hK => ?_) (AllReadyH.cons rfl (fun K hK => ?_) AllReadyH.nil))
          · (first | (go_at_call 17; refine (HTD.out _).mono ?_; rintro e w92 ⟨rfl, b92⟩; have R92 := Lib.hid (R91.out.kept b92)) | (go_simp; go_at_call 17; refine (HTD.out _).mono ?_; rintro e w92 ⟨rfl, b92⟩; have R92 := Lib.hid (R91.out.kept b92)))
            (try (go_wp2_with fail))
            refine hK.out _ _ ?_ (fun hHeld => ?_)
            · ((try dsimp only); exact ⟨⟨cellb hHeld.1.1 b92, cellb hHeld.1.2 b92⟩, hHeld.2.trans (b92.mono hHeld.2.size)⟩)
            clear hK K
            (try simp only [Act.put, List.getElem_toArray, List.getElem_cons_succ, List.getElem_cons_zero, List.setIfInBounds_toArray, List.set_cons_zero, List.set_cons_succ])
            refine wpAnyH_ready (rs := [5, 9]) (by kernel_rfl) (by simp) (AllReadyH.cons rfl (fun K hK => ?_) (AllReadyH.cons rfl (fun K hK => ?_) AllReadyH.nil))
            · (first | (go_at_call 18; have HB0 := Lib.hid hHeld.2.size; refine (HI.out _ _ R92.out).mono ?_; rintro e w93 ⟨y0, rfl, oy, b93⟩; obtain ⟨ya, ycap, rfl, -⟩ := oy.read; have HY := Lib.hid oy) | (go_simp; go_at_call 18; have HB0 := Lib.hid hHeld.2.size; refine (HI.out _ _ R92.out).mono ?_; rintro e w93 ⟨y0, rfl, oy, b93⟩; obtain ⟨ya, ycap, rfl, -⟩ := oy.read; have HY := Lib.hid oy))
              (try (go_wp2_with fail))
              refine hK.out _ _ ?_ (fun hHeld => ?_)
              · ((try dsimp only); exact ⟨⟨cellb hHeld.1.1 b93, cellb hHeld.1.2 b93⟩, hHeld.2.trans (b93.mono hHeld.2.size)⟩)
              clear hK K
              (try simp only [Act.put, List.getElem_toArray, List.getElem_cons_succ, List.getElem_cons_zero, List.setIfInBounds_toArray, List.set_cons_zero, List.set_cons_succ])
              refine wpAnyH_take (i := 6) (v := ?_) rfl (by kernel_rfl) (by kernel_rfl) (by kernel_rfl) (fun _ _ _ h => h) (Or.inl ⟨by rfl, ?_⟩) (by assumption) ?_
              rotate_left
              · (intro w hSw; (try dsimp only at hSw); go_simp; (try with_reducible rfl))
              (try simp only [Act.put, List.getElem_toArray, List.getElem_cons_succ, List.getElem_cons_zero, List.setIfInBounds_toArray, List.set_cons_zero, List.set_cons_succ])
              refine wpAnyH_take (i := 7) (v := ?_) rfl (by kernel_rfl) (by kernel_rfl) (by kernel_rfl) (fun _ _ _ h => h) (Or.inl ⟨by rfl, ?_⟩) (by assumption) ?_
              rotate_left
              · (intro w hSw; (try dsimp only at hSw); go_simp; (try with_reducible rfl))
              (try simp only [Act.put, List.getElem_toArray, List.getElem_cons_succ, List.getElem_cons_zero, List.setIfInBounds_toArray, List.set_cons_zero, List.set_cons_succ])
              refine wpAnyH_take (i := 8) (v := ?_) rfl (by kernel_rfl) (by kernel_rfl) (by kernel_rfl) (fun _ _ _ h => h) (Or.inl ⟨by rfl, ?_⟩) (by assumption) ?_
              rotate_left
              · (intro w hSw; (try dsimp only at hSw); go_simp; (try with_reducible rfl))
              (try simp only [Act.put, List.getElem_toArray, List.getElem_cons_succ, List.getElem_cons_zero, List.setIfInBounds_toArray, List.set_cons_zero, List.set_cons_succ])
              have H93 := Lib.hid hHeld
              refine wpAnyH_ready (rs := [9]) (by kernel_rfl) (by simp) (AllReadyH.cons rfl (fun K hK => ?_) AllReadyH.nil)
              go_simp
              refine hK.out _ _ ?_ (fun hHeld => ?_)
              · ((try dsimp only); (first | exact ⟨⟨cellb hHeld.1.1 ((Below.refl _ _).alloc (Nat.le_refl _) _), cellb hHeld.1.2 ((Below.refl _ _).alloc (Nat.le_refl _) _)⟩, hHeld.2.alloc hHeld.2.size _⟩))
              clear hK K
              (try simp only [Act.put, List.getElem_toArray, List.getElem_cons_succ, List.getElem_cons_zero, List.setIfInBounds_toArray, List.set_cons_zero, List.set_cons_succ])
              obtain ⟨d0, d1⟩ := zero2 w93 26 (.int .i64 0) (.slice none 0 0)
              refine wpAnyH_ready (rs := [10]) (by kernel_rfl) (by simp) (AllReadyH.cons rfl (fun K hK => ?_) AllReadyH.nil)
              go_simp
              refine hK.out _ _ ?_ (fun hHeld => ?_)
              · ((try dsimp only); exact ⟨⟨cellb H93.out.1.1 ((Below.refl _ _).alloc (Nat.le_refl _) _), cellb H93.out.1.2 ((Below.refl _ _).alloc (Nat.le_refl _) _)⟩, H93.out.2.alloc H93.out.2.size _⟩)
              clear hK K
              (try simp only [Act.put, List.getElem_toArray, List.getElem_cons_succ, List.getElem_cons_zero, List.setIfInBounds_toArray, List.set_cons_zero, List.set_cons_succ])
              refine wpAnyH_take (i := 11) (v := ?_) rfl (by kernel_rfl) (by kernel_rfl) (by kernel_rfl) (fun _ _ _ h => h) (Or.inl ⟨by rfl, ?_⟩) (by assumption) ?_
              rotate_left
              · (intro w hSw; (try dsimp only at hSw); go_simp; (try with_reducible rfl))
              (try simp only [Act.put, List.getElem_toArray, List.getElem_cons_succ, List.getElem_cons_zero, List.setIfInBounds_toArray, List.set_cons_zero, List.set_cons_succ])
              refine wpAnyH_done (by kernel_rfl) ?_ _
              refine NoPanic.normal ?_
              have HG := Lib.hid (tb_new H93.out.2 HB0.out HY.out (rc := rc))
              clear hHeld d0 d1
              go_wp2_with fail
              go_meet
              exact ⟨_, _, _, rfl, rfl, HG⟩
            · have HGE : Hid (wq.heap.size ≤ w92.heap.size) := Lib.hid hHeld.2.size
              go_simp
              refine hK.out _ _ ?_ (fun hHeld => ?_)
              · ((try dsimp only); (first | exact ⟨⟨cellb hHeld.1.1 ((Below.refl _ _).alloc (Nat.le_refl _) _), cellb hHeld.1.2 ((Below.refl _ _).alloc (Nat.le_refl _) _)⟩, hHeld.2.alloc hHeld.2.size _⟩))
              clear hK K
              (try simp only [Act.put, List.getElem_toArray, List.getElem_cons_succ, List.getElem_cons_zero, List.setIfInBounds_toArray, List.set_cons_zero, List.set_cons_succ])
              have HZ : Hid (BxT (World.alloc w92 (.cells #[.int .i64 0, .slice none 0 0] 26)) w92.heap.size 0 (.slice none 0 0)) := Lib.hid (bxt_new w92 0 (.slice none 0 0))
              replace R92 := Lib.hid (R92.out.kept ((Below.refl _ _).alloc (Nat.le_refl _) (.cells #[.int .i64 0, .slice none 0 0] 26)))
              refine wpAnyH_ready (rs := [5]) (by kernel_rfl) (by simp) (AllReadyH.cons rfl (fun K hK => ?_) AllReadyH.nil)
              (first | (go_at_call 18; have HB0 := Lib.hid hHeld.2.size; have HG0 := Lib.hid HZ.out.lt; refine (HI.out _ _ R92.out).mono ?_; rintro e w93 ⟨y0, rfl, oy, b93⟩; obtain ⟨ya, ycap, rfl, -⟩ := oy.read; have HY := Lib.hid oy; have HZ93 := Lib.hid (HZ.out.keep b93)) | (go_simp; go_at_call 18; have HB0 := Lib.hid hHeld.2.size; have HG0 := Lib.hid HZ.out.lt; refine (HI.out _ _ R92.out).mono ?_; rintro e w93 ⟨y0, rfl, oy, b93⟩; obtain ⟨ya, ycap, rfl, -⟩ := oy.read; have HY := Lib.hid oy; have HZ93 := Lib.hid (HZ.out.keep b93)))
              (try (go_wp2_with fail))
              refine hK.out _ _ ?_ (fun hHeld => ?_)
              · ((try dsimp only); exact ⟨⟨cellb hHeld.1.1 b93, cellb hHeld.1.2 b93⟩, hHeld.2.trans (b93.mono hHeld.2.size)⟩)
              clear hK K
              (try simp only [Act.put, List.getElem_toArray, List.getElem_cons_succ, List.getElem_cons_zero, List.setIfInBounds_toArray, List.set_cons_zero, List.set_cons_succ])
              replace HZ := HZ93
              refine wpAnyH_take (i := 6) (v := ?_) rfl (by kernel_rfl) (by kernel_rfl) (by kernel_rfl) (fun _ _ _ h => h) (Or.inl ⟨by rfl, ?_⟩) (by assumption) ?_
              rotate_left
              · (intro w hSw; (try dsimp only at hSw); go_simp; (try with_reducible rfl))
              (try simp only [Act.put, List.getElem_toArray, List.getElem_cons_succ, List.getElem_cons_zero, List.setIfInBounds_toArray, List.set_cons_zero, List.set_cons_succ])
              refine wpAnyH_take (i := 7) (v := ?_) rfl (by kernel_rfl) (by kernel_rfl) (by kernel_rfl) (fun _ _ _ h => h) (Or.inl ⟨by rfl, ?_⟩) (by assumption) ?_
              rotate_left
              · (intro w hSw; (try dsimp only at hSw); go_simp; (try with_reducible rfl))
              (try simp only [Act.put, List.getElem_toArray, List.getElem_cons_succ, List.getElem_cons_zero, List.setIfInBounds_toArray, List.set_cons_zero, List.set_cons_succ])
              refine wpAnyH_take (i := 8) (v := ?_) rfl (by kernel_rfl) (by kernel_rfl) (by kernel_rfl) (fun _ _ _ h => h) (Or.inl ⟨by rfl, ?_⟩) (by assumption) ?_
              rotate_left
              · (intro w hSw; (try dsimp only at hSw); go_simp; (try with_reducible rfl))
              (try simp only [Act.put, List.getElem_toArray, List.getElem_cons_succ, List.getElem_cons_zero, List.setIfInBounds_toArray, List.set_cons_zero, List.set_cons_succ])
              have H93 := Lib.hid hHeld
              have d0 := HZ.out.c0
              have d1 := HZ.out.c1
              have f0 := HZ.out.f0
              have f1 := HZ.out.f1
              have HG := Lib.hid (tb_old H93.out.2 HZ.out HGE.out HG0.out HB0.out HY.out (rc := rc))
              have HNE := Lib.hid (Nat.ne_of_gt (Nat.lt_of_lt_of_le (Nat.lt_of_lt_of_le (Nat.lt_succ_self w.heap.size) HWR.out) HGE.out))
              refine wpAnyH_ready (rs := [10]) (by kernel_rfl) (by simp) (AllReadyH.cons rfl (fun K hK => ?_) AllReadyH.nil)
              go_simp
              refine hK.out _ _ ?_ (fun hHeld => ?_)
              · ((try dsimp only); (first | exact ⟨⟨cellb2 H93.out.1.1 HNE.out, cellb2 H93.out.1.2 HNE.out⟩, (H93.out.2.setCell (p := ⟨_, 0, none⟩) HGE.out _).setCell (p := ⟨_, 1, none⟩) HGE.out _⟩))
              clear hK K
              (try simp only [Act.put, List.getElem_toArray, List.getElem_cons_succ, List.getElem_cons_zero, List.setIfInBounds_toArray, List.set_cons_zero, List.set_cons_succ])
              refine wpAnyH_take (i := 11) (v := ?_) rfl (by kernel_rfl) (by kernel_rfl) (by kernel_rfl) (fun _ _ _ h => h) (Or.inl ⟨by rfl, ?_⟩) (by assumption) ?_
              rotate_left
              · (intro w hSw; (try dsimp only at hSw); go_simp; (try with_reducible rfl))
              (try simp only [Act.put, List.getElem_toArray, List.getElem_cons_succ, List.getElem_cons_zero, List.setIfInBounds_toArray, List.set_cons_zero, List.set_cons_succ])
              refine wpAnyH_done (by kernel_rfl) ?_ _
              refine NoPanic.normal ?_
              clear hHeld d0 d1 f0 f1
              go_wp2_with fail
              go_meet
              exact ⟨_, _, _, rfl, rfl, HG⟩
          · have HGE : Hid (wq.heap.size ≤ w91.heap.size) := Lib.hid hHeld.2.size
            go_simp
            refine hK.out _ _ ?_ (fun hHeld => ?_)
            · ((try dsimp only); (first | exact ⟨⟨cellb hHeld.1.1 ((Below.refl _ _).alloc (Nat.le_refl _) _), cellb hHeld.1.2 ((Below.refl _ _).alloc (Nat.le_refl _) _)⟩, hHeld.2.alloc hHeld.2.size _⟩))
            clear hK K
            (try simp only [Act.put, List.getElem_toArray, List.getElem_cons_succ, List.getElem_cons_zero, List.setIfInBounds_toArray, List.set_cons_zero, List.set_cons_succ])
            have HZ : Hid (BxT (World.alloc w91 (.cells #[.int .i64 0, .slice none 0 0] 26)) w91.heap.size 0 (.slice none 0 0)) := Lib.hid (bxt_new w91 0 (.slice none 0 0))
            replace R91 := Lib.hid (R91.out.kept ((Below.refl _ _).alloc (Nat.le_refl _) (.cells #[.int .i64 0, .slice none 0 0] 26)))
            refine wpAnyH_ready (rs := [4]) (by kernel_rfl) (by simp) (AllReadyH.cons rfl (fun K hK => ?_) AllReadyH.nil)
            (first | (go_at_call 17; refine (HTD.out _).mono ?_; rintro e w92 ⟨rfl, b92⟩; have R92 := Lib.hid (R91.out.kept b92); have HZ92 := Lib.hid (HZ.out.keep b92)) | (go_simp; go_at_call 17; refine (HTD.out _).mono ?_; rintro e w92 ⟨rfl, b92⟩; have R92 := Lib.hid (R91.out.kept b92); have HZ92 := Lib.hid (HZ.out.keep b92)))
            (try (go_wp2_with fail))
            refine hK.out _ _ ?_ (fun hHeld => ?_)
            · ((try dsimp only); exact ⟨⟨cellb hHeld.1.1 b92, cellb hHeld.1.2 b92⟩, hHeld.2.trans (b92.mono hHeld.2.size)⟩)
            clear hK K
            (try simp only [Act.put, List.getElem_toArray, List.getElem_cons_succ, List.getElem_cons_zero, List.setIfInBounds_toArray, List.set_cons_zero, List.set_cons_succ])
            replace HZ := HZ92
            refine wpAnyH_ready (rs := [5]) (by kernel_rfl) (by simp) (AllReadyH.cons rfl (fun K hK => ?_) AllReadyH.nil)
            (first | (go_at_call 18; have HB0 := Lib.hid hHeld.2.size; have HG0 := Lib.hid HZ.out.lt; refine (HI.out _ _ R92.out).mono ?_; rintro e w93 ⟨y0, rfl, oy, b93⟩; obtain ⟨ya, ycap, rfl, -⟩ := oy.read; have HY := Lib.hid oy; have HZ93 := Lib.hid (HZ.out.keep b93)) | (go_simp; go_at_call 18; have HB0 := Lib.hid hHeld.2.size; have HG0 := Lib.hid HZ.out.lt; refine (HI.out _ _ R92.out).mono ?_; rintro e w93 ⟨y0, rfl, oy, b93⟩; obtain ⟨ya, ycap, rfl, -⟩ := oy.read; have HY := Lib.hid oy; have HZ93 := Lib.hid (HZ.out.keep b93)))
            (try (go_wp2_with fail))
            refine hK.out _ _ ?_ (fun hHeld => ?_)
            · ((try dsimp only); exact ⟨⟨cellb hHeld.1.1 b93, cellb hHeld.1.2 b93⟩, hHeld.2.trans (b93.mono hHeld.2.size)⟩)
            clear hK K
            (try simp only [Act.put, List.getElem_toArray, List.getElem_cons_succ, List.getElem_cons_zero, List.setIfInBounds_toArray, List.set_cons_zero, List.set_cons_succ])
            replace HZ := HZ93
            refine wpAnyH_take (i := 6) (v := ?_) rfl (by kernel_rfl) (by kernel_rfl) (by kernel_rfl) (fun _ _ _ h => h) (Or.inl ⟨by rfl, ?_⟩) (by assumption) ?_
            rotate_left
            · (intro w hSw; (try dsimp only at hSw); go_simp; (try with_reducible rfl))
            (try simp only [Act.put, List.getElem_toArray, List.getElem_cons_succ, List.getElem_cons_zero, List.setIfInBounds_toArray, List.set_cons_zero, List.set_cons_succ])
            refine wpAnyH_take (i := 7) (v := ?_) rfl (by kernel_rfl) (by kernel_rfl) (by kernel_rfl) (fun _ _ _ h => h) (Or.inl ⟨by rfl, ?_⟩) (by assumption) ?_
            rotate_left
            · (intro w hSw; (try dsimp only at hSw); go_simp; (try with_reducible rfl))
            (try simp only [Act.put, List.getElem_toArray, List.getElem_cons_succ, List.getElem_cons_zero, List.setIfInBounds_toArray, List.set_cons_zero, List.set_cons_succ])
            refine wpAnyH_take (i := 8) (v := ?_) rfl (by kernel_rfl) (by kernel_rfl) (by kernel_rfl) (fun _ _ _ h => h) (Or.inl ⟨by rfl, ?_⟩) (by assumption) ?_
            rotate_left
            · (intro w hSw; (try dsimp only at hSw); go_simp; (try with_reducible rfl))
            (try simp only [Act.put, List.getElem_toArray, List.getElem_cons_succ, List.getElem_cons_zero, List.setIfInBounds_toArray, List.set_cons_zero, List.set_cons_succ])
            have H93 := Lib.hid hHeld
            have d0 := HZ.out.c0
            have d1 := HZ.out.c1
            have f0 := HZ.out.f0
            have f1 := HZ.out.f1
            have HG := Lib.hid (tb_old H93.out.2 HZ.out HGE.out HG0.out HB0.out HY.out (rc := rc))
            have HNE := Lib.hid (Nat.ne_of_gt (Nat.lt_of_lt_of_le (Nat.lt_of_lt_of_le (Nat.lt_succ_self w.heap.size) HWR.out) HGE.out))
            refine wpAnyH_ready (rs := [10]) (by kernel_rfl) (by simp) (AllReadyH.cons rfl (fun K hK => ?_) AllReadyH.nil)
            go_simp
            refine hK.out _ _ ?_ (fun hHeld => ?_)
            · ((try dsimp only); (first | exact ⟨⟨cellb2 H93.out.1.1 HNE.out, cellb2 H93.out.1.2 HNE.out⟩, (H93.out.2.setCell (p := ⟨_, 0, none⟩) HGE.out _).setCell (p := ⟨_, 1, none⟩) HGE.out _⟩))
            clear hK K
            (try simp only [Act.put, List.getElem_toArray, List.getElem_cons_succ, List.getElem_cons_zero, List.setIfInBounds_toArray, List.set_cons_zero, List.set_cons_succ])
            refine wpAnyH_take (i := 11) (v := ?_) rfl (by kernel_rfl) (by kernel_rfl) (by kernel_rfl) (fun _ _ _ h => h) (Or.inl ⟨by rfl, ?_⟩) (by assumption) ?_
            rotate_left
            · (intro w hSw; (try dsimp only at hSw); go_simp; (try with_reducible rfl))
            (try simp only [Act.put, List.getElem_toArray, List.getElem_cons_succ, List.getElem_cons_zero, List.setIfInBounds_toArray, List.set_cons_zero, List.set_cons_succ])
            refine wpAnyH_done (by kernel_rfl) ?_ _
            refine NoPanic.normal ?_
            clear hHeld d0 d1 f0 f1
            go_wp2_with fail
            go_meet
            exact ⟨_, _, _, rfl, rfl, HG⟩
        · have HGE : Hid (wq.heap.size ≤ wq.heap.size) := Lib.hid hHeld.2.size
          go_simp
          refine hK.out _ _ ?_ (fun hHeld => ?_)
          · ((try dsimp only); (first | exact ⟨⟨cellb hHeld.1.1 ((Below.refl _ _).alloc (Nat.le_refl _) _), cellb hHeld.1.2 ((Below.refl _ _).alloc (Nat.le_refl _) _)⟩, hHeld.2.alloc hHeld.2.size _⟩))
          clear hK K
          (try simp only [Act.put, List.getElem_toArray, List.getElem_cons_succ, List.getElem_cons_zero, List.setIfInBounds_toArray, List.set_cons_zero, List.set_cons_succ])
          have HZ : Hid (BxT (World.alloc (World.drew wq) (.cells #[.int .i64 0, .slice none 0 0] 26)) wq.heap.size 0 (.slice none 0 0)) := Lib.hid (bxt_new (World.drew wq) 0 (.slice none 0 0))
          refine wpAnyH_ready (rs := [2]) (by kernel_rfl) (by simp) (AllReadyH.cons rfl (fun K hK => ?_) AllReadyH.nil)
          (first | (go_at_call 9; refine (HTO.out _ (HBX.out _ (hb.trans (hHeld.2.mono hb.size))).1).mono ?_; rintro e w91 ⟨v91, rfl, o91, b91⟩; have R91 := Lib.hid o91.read; have HZ91 := Lib.hid (HZ.out.keep b91)) | (go_simp; go_at_call 9; refine (HTO.out _ (HBX.out _ (hb.trans (hHeld.2.mono hb.size))).1).mono ?_; rintro e w91 ⟨v91, rfl, o91, b91⟩; have R91 := Lib.hid o91.read; have HZ91 := Lib.hid (HZ.out.keep b91)))
          (try (go_wp2_with fail))
          refine hK.out _ _ ?_ (fun hHeld => ?_)
          · ((try dsimp only); exact ⟨⟨cellb hHeld.1.1 b91, cellb hHeld.1.2 b91⟩, hHeld.2.trans (b91.mono hHeld.2.size)⟩)
          clear hK K
          (try simp only [Act.put, List.getElem_toArray, List.getElem_cons_succ, List.getElem_cons_zero, List.setIfInBounds_toArray, List.set_cons_zero, List.set_cons_succ])
          replace HZ := HZ91
          refine wpAnyH_ready (rs := [4]) (by kernel_rfl) (by simp) (AllReadyH.cons rfl (fun K hK => ?_) AllReadyH.nil)
          (first | (go_at_call 17; refine (HTD.out _).mono ?_; rintro e w92 ⟨rfl, b92⟩; have R92 := Lib.hid (R91.out.kept b92); have HZ92 := Lib.hid (HZ.out.keep b92)) | (go_simp; go_at_call 17; refine (HTD.out _).mono ?_; rintro e w92 ⟨rfl, b92⟩; have R92 := Lib.hid (R91.out.kept b92); have HZ92 := Lib.hid (HZ.out.keep b92)))
          (try (go_wp2_with fail))
          refine hK.out _ _ ?_ (fun hHeld => ?_)
          · ((try dsimp only); exact ⟨⟨cellb hHeld.1.1 b92, cellb hHeld.1.2 b92⟩, hHeld.2.trans (b92.mono hHeld.2.size)⟩)
          clear hK K
          (try simp only [Act.put, List.getElem_toArray, List.getElem_cons_succ, List.getElem_cons_zero, List.setIfInBounds_toArray, List.set_cons_zero, List.set_cons_succ])
          replace HZ := HZ92
          refine wpAnyH_ready (rs := [5]) (by kernel_rfl) (by simp) (AllReadyH.cons rfl (fun K hK => ?_) AllReadyH.nil)
          (first | (go_at_call 18; have HB0 := Lib.hid hHeld.2.size; have HG0 := Lib.hid HZ.out.lt; refine (HI.out _ _ R92.out).mono ?_; rintro e w93 ⟨y0, rfl, oy, b93⟩; obtain ⟨ya, ycap, rfl, -⟩ := oy.read; have HY := Lib.hid oy; have HZ93 := Lib.hid (HZ.out.keep b93)) | (go_simp; go_at_call 18; have HB0 := Lib.hid hHeld.2.size; have HG0 := Lib.hid HZ.out.lt; refine (HI.out _ _ R92.out).mono ?_; rintro e w93 ⟨y0, rfl, oy, b93⟩; obtain ⟨ya, ycap, rfl, -⟩ := oy.read; have HY := Lib.hid oy; have HZ93 := Lib.hid (HZ.out.keep b93)))
          (try (go_wp2_with fail))
          refine hK.out _ _ ?_ (fun hHeld => ?_)
          · ((try dsimp only); exact ⟨⟨cellb hHeld.1.1 b93, cellb hHeld.1.2 b93⟩, hHeld.2.trans (b93.mono hHeld.2.size)⟩)
          clear hK K
          (try simp only [Act.put, List.getElem_toArray, List.getElem_cons_succ, List.getElem_cons_zero, List.setIfInBounds_toArray, List.set_cons_zero, List.set_cons_succ])
          replace HZ := HZ93
          refine wpAnyH_take (i := 6) (v := ?_) rfl (by kernel_rfl) (by kernel_rfl) (by kernel_rfl) (fun _ _ _ h => h) (Or.inl ⟨by rfl, ?_⟩) (by assumption) ?_
          rotate_left
          · (intro w hSw; (try dsimp only at hSw); go_simp; (try with_reducible rfl))
          (try simp only [Act.put, List.getElem_toArray, List.getElem_cons_succ, List.getElem_cons_zero, List.setIfInBounds_toArray, List.set_cons_zero, List.set_cons_succ])
          refine wpAnyH_take (i := 7) (v := ?_) rfl (by kernel_rfl) (by kernel_rfl) (by kernel_rfl) (fun _ _ _ h => h) (Or.inl ⟨by rfl, ?_⟩) (by assumption) ?_
          rotate_left
          · (intro w hSw; (try dsimp only at hSw); go_simp; (try with_reducible rfl))
          (try simp only [Act.put, List.getElem_toArray, List.getElem_cons_succ, List.getElem_cons_zero, List.setIfInBounds_toArray, List.set_cons_zero, List.set_cons_succ])
          refine wpAnyH_take (i := 8) (v := ?_) rfl (by kernel_rfl) (by kernel_rfl) (by kernel_rfl) (fun _ _ _ h => h) (Or.inl ⟨by rfl, ?_⟩) (by assumption) ?_
          rotate_left
          · (intro w hSw; (try dsimp only at hSw); go_simp; (try with_reducible rfl))
          (try simp only [Act.put, List.getElem_toArray, List.getElem_cons_succ, List.getElem_cons_zero, List.setIfInBounds_toArray, List.set_cons_zero, List.set_cons_succ])
          have H93 := Lib.hid hHeld
          have d0 := HZ.out.c0
          have d1 := HZ.out.c1
          have f0 := HZ.out.f0
          have f1 := HZ.out.f1
          have HG := Lib.hid (tb_old H93.out.2 HZ.out HGE.out HG0.out HB0.out HY.out (rc := rc))
          have HNE := Lib.hid (Nat.ne_of_gt (Nat.lt_of_lt_of_le (Nat.lt_of_lt_of_le (Nat.lt_succ_self w.heap.size) HWR.out) HGE.out))
          refine wpAnyH_ready (rs := [10]) (by kernel_rfl) (by simp) (AllReadyH.cons rfl (fun K hK => ?_) AllReadyH.nil)
          go_simp
          refine hK.out _ _ ?_ (fun hHeld => ?_)
          · ((try dsimp only); (first | exact ⟨⟨cellb2 H93.out.1.1 HNE.out, cellb2 H93.out.1.2 HNE.out⟩, (H93.out.2.setCell (p := ⟨_, 0, none⟩) HGE.out _).setCell (p := ⟨_, 1, none⟩) HGE.out _⟩))
          clear hK K
          (try simp only [Act.put, List.getElem_toArray, List.getElem_cons_succ, List.getElem_cons_zero, List.setIfInBounds_toArray, List.set_cons_zero, List.set_cons_succ])
          refine wpAnyH_take (i := 11) (v := ?_) rfl (by kernel_rfl) (by kernel_rfl) (by kernel_rfl) (fun _ _ _ h => h) (Or.inl ⟨by rfl, ?_⟩) (by assumption) ?_
          rotate_left
          · (intro w hSw; (try dsimp only at hSw); go_simp; (try with_reducible rfl))
          (try simp only [Act.put, List.getElem_toArray, List.getElem_cons_succ, List.getElem_cons_zero, List.setIfInBounds_toArray, List.set_cons_zero, List.set_cons_succ])
          refine wpAnyH_done (by kernel_rfl) ?_ _
          refine NoPanic.normal ?_
          clear hHeld d0 d1 f0 f1
          go_wp2_with fail
          go_meet
          exact ⟨_, _, _, rfl, rfl, HG⟩
      case rest =>
        obtain ⟨gh, ha, hcap, rfl, rfl, HG⟩ := hcut
        obtain ⟨w30, hw⟩ : ∃ w', w' = wc := ⟨_, rfl⟩
        rw [← hw] at HG ⊢
        clear hw
        obtain ⟨hbh, oh, hbw⟩ := HG.out
        have zh := hbh.lt
        have hbxx := hbh.c0
        have hbxy := hbh.c1
        have zq := hbw.size
        replace oy := oy.same (Below.keeps hbw (by omega))
        replace og := og.same (Below.keeps hbw (by omega))
        replace ybx := (hbw.cell (p := ⟨gy, 0, none⟩) (show gy < _ by omega)).trans ybx
        replace yby := (hbw.cell (p := ⟨gy, 1, none⟩) (show gy < _ by omega)).trans yby
        replace gbx := (hbw.cell (p := ⟨w3.heap.size, 0, none⟩) (show w3.heap.size < _ by omega)).trans gbx
        replace gby := (hbw.cell (p := ⟨w3.heap.size, 1, none⟩) (show w3.heap.size < _ by omega)).trans gby
        replace hb := hb.trans (hbw.mono hb.size)
        clear hbh hbw HG x0 x1 kb
        obtain ⟨kb, x0, x1⟩ := HBX.out _ hb
        go_wp2_with fail
        refine (HED.out _ _ _ oh.read oy.read).mono ?_
        rintro e w31 ⟨rfl, b31⟩
        clear kb x0 x1
        have z31 := b31.size
        replace hb := hb.trans (b31.mono hb.size)
        replace oy := oy.same (Below.keeps b31 (by omega))
        replace og := og.same (Below.keeps b31 (by omega))
        replace oh := oh.same (Below.keeps b31 (by omega))
        replace ybx := (b31.cell (p := ⟨gy, 0, none⟩) (show gy < _ by omega)).trans ybx
        replace yby := (b31.cell (p := ⟨gy, 1, none⟩) (show gy < _ by omega)).trans yby
        replace gbx := (b31.cell (p := ⟨w3.heap.size, 0, none⟩) (show w3.heap.size < _ by omega)).trans gbx
        replace gby := (b31.cell (p := ⟨w3.heap.size, 1, none⟩) (show w3.heap.size < _ by omega)).trans gby
        replace hbxx := (b31.cell (p := ⟨gh, 0, none⟩) (show gh < _ by omega)).trans hbxx
        replace hbxy := (b31.cell (p := ⟨gh, 1, none⟩) (show gh < _ by omega)).trans hbxy
        clear b31
        obtain ⟨kb, x0, x1⟩ := HBX.out _ hb
        go_wp2_with fail
        refine (heldTable_any rc _ d 1 _ og.read hdl hdt (by omega) (by omega)).mono ?_
        rintro e w32 ⟨rfl, b32⟩
        clear kb x0 x1
        have z32 := b32.size
        replace hb := hb.trans (b32.mono hb.size)
        replace oy := oy.same (Below.keeps b32 (by omega))
        replace og := og.same (Below.keeps b32 (by omega))
        replace oh := oh.same (Below.keeps b32 (by omega))
        replace ybx := (b32.cell (p := ⟨gy, 0, none⟩) (show gy < _ by omega)).trans ybx
        replace yby := (b32.cell (p := ⟨gy, 1, none⟩) (show gy < _ by omega)).trans yby
        replace gbx := (b32.cell (p := ⟨w3.heap.size, 0, none⟩) (show w3.heap.size < _ by omega)).trans gbx
        replace gby := (b32.cell (p := ⟨w3.heap.size, 1, none⟩) (show w3.heap.size < _ by omega)).trans gby
        replace hbxx := (b32.cell (p := ⟨gh, 0, none⟩) (show gh < _ by omega)).trans hbxx
        replace hbxy := (b32.cell (p := ⟨gh, 1, none⟩) (show gh < _ by omega)).trans hbxy
        clear b32
        obtain ⟨kb, x0, x1⟩ := HBX.out _ hb
        go_wp2_with fail
        go_ret
        exact ⟨rfl, kb⟩
  · have HZl := Lib.hid (fun w' (hb : Below w.heap.size w w') => szDepS_any vl l w' (hrl.kept hb) (1048576) (by omega) (by omega) (by unfold maxLen at hml; omega))
    rw [szD_no hszl] at HZl
    obtain ⟨al, capl, rfl, -⟩ := hrl
    obtain ⟨kb, x0, x1⟩ := HBX.out _ hb
    go_enter Try.func4, Try.ntmps4
    go_wp2_with fail
    refine (HZl.out _ kb).mono ?_
    rintro e w1 ⟨rfl, rfl⟩
    go_wp2_with fail
    go_ret
    exact ⟨rfl, kb⟩

set_option linter.unusedVariables false
set_option maxRecDepth 100000 in
theorem lifted (os : Os) (started : os.Started) (H : Type) (enc : TypeId × Value → H) :
    ReturnsInHanded {} Try.checked os 4 .any (Rows.fnExactCounterTableSpec.pre6 enc Try.prog Try.f4 Rows.fnExactCounterTableRow.domain false) (Rows.fnExactCounterTableSpec.post enc Try.prog Try.f4 false true false false) := by
  refine returnsInHanded_of_change (C := Try.checked) own started (by kernel_rfl) Try.func4
    (ChangeSpec.witness6 (enc := enc) (C := Try.checked) false ⟨#[], #[.int .i64 0, .slice none 0 0, .agg #[.int .i64 0, .int .i64 0]], []⟩ 8 (by kernel_rfl) (by kernel_rfl) (by kernel_rfl) (by kernel_rfl)) ?_
  intro W base args ds gs before hval0 hW hcnd _
  have hval : ∀ (j : Nat) t v, Try.f4.params[j]? = some t → args[j]? = some v → Value.okWide Try.prog W .any base t v := hval0
  have hW' := hW
  obtain ⟨p, q, hA0, hV, rfl, hfz, hnd⟩ := hW
  have hA : DataW.TrodAll enc Try.prog W 0 (fun _ => true) true Try.f4.params.toList args.toList ds p := hA0
  rw [Try.params4] at hA hval
  obtain ⟨v0, vs0, d0, ds0, p0, q0, hargs, rfl, rfl, h0, r0⟩ := trodAll_cons hA
  obtain ⟨v1, vs1, d1, ds1, p1, q1, rfl, rfl, rfl, h1, r1⟩ := trodAll_cons r0
  obtain ⟨v2, vs2, d2, ds2, p2, q2, rfl, rfl, rfl, h2, r2⟩ := trodAll_cons r1
  obtain ⟨rfl, rfl, rfl⟩ := trodAll_nil r2
  obtain rfl : args = #[v0, v1, v2] := by cases args; simp_all
  obtain ⟨rfl, rfl⟩ := trodVars_none hV
  obtain ⟨a0, rfl, rfl, rfl, w0⟩ := open_int Try.underlying3 (hval 0 3 v0 rfl rfl) h0
  obtain ⟨a1, len1, cap1, rfl⟩ := okWide_slice Try.underlying22 (hval 1 22 v1 rfl rfl)
  have k1 := h1
  have lt1 : ∀ x ∈ p1, x.block < W.heap.size := by obtain ⟨m, hm⟩ := k1; exact DataW.trod_lt m _ _ _ hm
  have w1 : ∃ l, ReadD W (.slice a1 len1 cap1) l ∧ l.length ≤ maxLen ∧ ∀ d ∈ l, (Lit.int .i64 d.1).wf = true ∧ (Lit.int .i64 d.2).wf = true := by
    obtain ⟨fuel, hf⟩ := h1
    exact open_deps (by simpa [Value.cells] using hf)
  obtain ⟨l1, rd1, m1, bd1⟩ := w1
  have k2 := h2
  have lt2 : ∀ x ∈ p2, x.block < W.heap.size := by obtain ⟨m, hm⟩ := k2; exact DataW.trod_lt m _ _ _ hm
  obtain ⟨x2, y2, rfl, w2, w2b⟩ := open_dep (hval 2 37 v2 rfl rfl) k2
  clear hA0 hval0
  refine (walk a0 (.slice a1 len1 cap1) l1 x2 y2 w0 w2 w2b W rd1 m1 bd1).mono fun e W' ⟨he, hg⟩ => ?_
  subst he
  exact ⟨_, rfl, ⟨_, _, _, [], _, [], hW', trodAll_cons_mk (shut_bool Try.underlying4 _) trodAll_mk0, (trodAll_cons_mk (shut_int Try.underlying3 w0) (trodAll_cons_mk (Below.trod laidOut (by kernel_rfl) (of_decide_eq_true (by kernel_rfl)) k1 hg lt1) (trodAll_cons_mk (Below.trod laidOut (by kernel_rfl) (of_decide_eq_true (by kernel_rfl)) k2 hg lt2) trodAll_mk0))), rfl, hg.frame _, fun h => by cases h⟩⟩

theorem over : Rows.fnExactCounterTableRow.holds Try.pinned (OpenSpec.ofChange Rows.fnExactCounterTableSpec) :=
  OpenClaim.holds_of_wide 4 Try.f4 rfl rfl rfl rfl rfl rfl rfl ⟨rfl, rfl, rfl, rfl, rfl⟩ rfl rfl rfl rfl rfl (by kernel_rfl) Try.func4 (by kernel_rfl)
    (of_decide_eq_true (by kernel_rfl)) (by unfold Func.isWrapper; first | (rw [if_pos (by decide +kernel)]; kernel_rfl) | (rw [if_neg (by decide +kernel)]; exact ⟨rfl, rfl⟩))
    (fun os started H enc _ => lifted os started H enc)

theorem proved : Rows.FnExactCounterTableSaid := over
end Go.Proofs.Ytpnapdhcdhcacaa.lawFnExactCounterTable
