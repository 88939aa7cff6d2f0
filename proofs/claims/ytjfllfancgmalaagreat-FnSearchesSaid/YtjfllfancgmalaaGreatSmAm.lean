/- The model's l3Copy, by contract. Conditions: as stated. -/
import Derived.Test.YtjfllfancgmalaaGreatSc14
import Derived.Deep.RegionHeld3
namespace Go.Proofs.YtjfllfancgmalaaGreat
open Go.RowKit

theorem l3_grown {w w0 w' : World} {o : Obj} (W : World) (h1 : W.os = w.os) (h2 : W.tape = w.tape) (h3 : W.output = w.output) (h4 : W.heap = w.heap) (h0 : w0 = W.alloc o) (hg : w0.grownBy w' (some w.heap.size)) : w.grownBy w' none := by
  subst h0
  have hs : W.heap.size = w.heap.size := by rw [h4]
  refine ⟨hg.os.trans h1, hg.tape.trans h2, hg.output.trans h3, by have := hg.size; simp at this; omega, fun k hk _ => ?_⟩
  rw [hg.block k (by simp; omega) (by simp; omega), Below.heap_alloc _ _ _ (by omega), h4]
/-- What stays true while a table is copied row by row. -/
structure L3 (w : World) (c : Int) (v vx : Value) (L : List (List Int)) (wr : World) : Prop where
  tb : wr.heap[w.heap.size]? = some (.cells #[.int .i64 c, v] 26 (0, 0))
  rb : wr.heap[w.heap.size + 1]? = some (.cells #[.int .i64 0, .slice none 0 0] 26 (0, 0))
  xb : wr.heap[w.heap.size + 2]? = some (.cells #[.int .i64 c, vx] 26 (0, 0))
  own : OwnSS wr (w.heap.size + 3) wr.heap.size vx L
  bel : Below w.heap.size w wr
theorem L3.sz {w : World} {c : Int} {v vx : Value} {L : List (List Int)} {wr : World} (h : L3 w c v vx L wr) : w.heap.size + 2 < wr.heap.size := (Array.getElem?_eq_some_iff.1 h.xb).1
theorem l3_own {w w2 w91 : World} {c : Int} {v vx : Value} {L : List (List Int)} (h : L3 w c v vx L w2) (hg : w2.grownBy w91 none) : OwnSS w91 (w.heap.size + 3) w2.heap.size vx L := h.own.same (fun k _ hk => hg.block k hk (by simp))
theorem l3_step {w w2 w91 w92 : World} {c : Int} {v vx v92 u : Value} {L : List (List Int)} {l : List Int} {V : Nat → Value} (h : L3 w c v vx L w2) (hg : w2.grownBy w91 none) (hu : OwnI w91 w2.heap.size u l)
    (o1 : (w91.alloc (.cells #[u] 52)).ownsRow (w.heap.size + 3) 52 1 vx L.length ((List.range L.length).map V)) (o2 : ∀ g, vx.ownBlock = some g → g < w2.heap.size)
    (o3 : ∀ i, i < L.length → OwnI (w91.alloc (.cells #[u] 52)) (w.heap.size + 3) (V i) (L.getD i []) ∧ ∀ g, (V i).ownBlock = some g → g < w2.heap.size) (o4 : ∀ i j, i < j → j < L.length → ∀ g, (V i).ownBlock = some g → (V j).ownBlock ≠ some g)
    (hown : w92.ownsRow (w.heap.size + 3) 52 1 v92 (L.length + 1) ((List.range L.length).map V ++ [u])) (hgr : (w91.alloc (.cells #[u] 52)).grownBy w92 vx.ownBlock) :
    (∃ a cap, v92 = .slice a (L.length + 1) cap) ∧ (w92.frozen? ⟨w.heap.size + 2, 1, none⟩ = false ∧ w92.cell? ⟨w.heap.size + 2, 1, none⟩ = some vx) ∧ L3 w c v v92 (L ++ [l]) (w92.setCell ⟨w.heap.size + 2, 1, none⟩ v92) := by
  have hsz := h.sz
  have hs1 := hg.size
  have hs2 := hgr.size
  rw [World.size_alloc] at hs2
  have hblk : ∀ k, k < w.heap.size + 3 → w92.heap[k]? = w2.heap[k]? := fun k hk => (hgr.block k (by simp; omega) (fun e => by have := (World.ownsRow.lt o1 _ e.symm).1; omega)).trans ((Below.heap_alloc _ _ _ (by omega)).trans (hg.block k (by omega) (by simp)))
  have hx : w92.heap[w.heap.size + 2]? = some (.cells #[.int .i64 c, vx] 26 (0, 0)) := (hblk _ (by omega)).trans h.xb
  have huA : OwnI (w91.alloc (.cells #[u] 52)) (w.heap.size + 3) u l := OwnI.base (World.ownsRow.alloc hu _) (by omega)
  have hss := OwnSS.snocV o1 o2 o3 o4 huA (C' := w92.heap.size) (fun g hgg => by have := hu.lt g hgg; omega) hown hgr (by omega) (fun g hgg => (World.ownsRow.lt hown g hgg).2)
  refine ⟨?_, ⟨frozen_of_row w92 (w.heap.size + 2) 1 _ _ hx, by rw [cell_of_row w92 (w.heap.size + 2) 1 _ _ _ hx]; rfl⟩, ⟨?_, ?_, ?_, ?_, ?_⟩⟩
  · rcases ownsRow_shape hown with ⟨-, h0⟩ | ⟨g, cap, hv, -⟩
    · omega
    · exact ⟨_, cap, hv⟩
  · exact (Below.heap_setCell w92 ⟨w.heap.size + 2, 1, none⟩ v92 w.heap.size (by simp)).trans ((hblk _ (by omega)).trans h.tb)
  · exact (Below.heap_setCell w92 ⟨w.heap.size + 2, 1, none⟩ v92 (w.heap.size + 1) (by simp)).trans ((hblk _ (by omega)).trans h.rb)
  · simp only [World.setCell, Array.getElem?_modify]
    rw [if_pos trivial, hx]
    rfl
  · have := hss.same (((Same.refl (w.heap.size + 3) w92.heap.size w92).setCell (p := ⟨w.heap.size + 2, 1, none⟩) (.inl (by simp)) v92))
    exact this.base (Nat.le_refl _) (by simp)
  · have hb : Below w.heap.size w w92 := ((h.bel.grown hg h.bel.size (fun k hk => by simp at hk)).alloc (by have := h.bel.size; omega) (.cells #[u] 52)).grown hgr (by simp; have := h.bel.size; omega) (fun k hk => by have := (World.ownsRow.lt o1 _ hk).1; omega)
    exact hb.setCell (p := ⟨w.heap.size + 2, 1, none⟩) (by simp) _
section
set_option maxRecDepth 20000
set_option maxHeartbeats 3200000
theorem l3Copy_any (c : Int) (v : Value) (ll : List (List Int)) (w : World) (hr : ReadSS w v ll) (hl : ll.length ≤ 1048576) (ht : ∀ i, i < ll.length → (ll.getD i []).length ≤ 1048576) :
    Calls Tryz.prog 47 #[.agg #[.int .i64 c, v]] w (RetT c ll w) := by
  obtain ⟨i0, hi, hz0, hz1, hz2⟩ := info_parts infoSj
  have HI : Hid (_ ∧ _ ∧ _ ∧ _) := Lib.hid ⟨hi, hz0, hz1, hz2⟩
  clear hi hz0 hz1 hz2
  obtain ⟨j0, hi, hz0, hz1, hz2⟩ := info_parts info3j
  have HJ : Hid (_ ∧ _ ∧ _ ∧ _) := Lib.hid ⟨hi, hz0, hz1, hz2⟩
  clear hi hz0 hz1 hz2
  have hb1 := (Below.refl w.heap.size w).alloc (Nat.le_refl _) (.cells #[.int .i64 c, v] 26)
  have hb2 := hb1.alloc hb1.size (.cells #[.int .i64 0, .slice none 0 0] 26)
  have hb3 := hb2.alloc hb2.size (.cells #[.int .i64 c, .slice none 0 0] 26)
  have h1 : L3 w c v (.slice none 0 0) [] (((w.alloc (.cells #[.int .i64 c, v] 26)).alloc (.cells #[.int .i64 0, .slice none 0 0] 26)).alloc (.cells #[.int .i64 c, .slice none 0 0] 26)) := by
    refine ⟨?_, ?_, ?_, OwnSS.nil _ _ _, hb3⟩
    · rw [Below.heap_alloc _ _ _ (by simp; omega), Below.heap_alloc _ _ _ (by simp)]; exact heap_alloc_new w _
    · rw [Below.heap_alloc _ _ _ (by simp)]
      have := heap_alloc_new (w.alloc (.cells #[.int .i64 c, v] 26)) (.cells #[.int .i64 0, .slice none 0 0] 26)
      rwa [World.size_alloc] at this
    · have := heap_alloc_new ((w.alloc (.cells #[.int .i64 c, v] 26)).alloc (.cells #[.int .i64 0, .slice none 0 0] 26)) (.cells #[.int .i64 c, .slice none 0 0] 26)
      rwa [World.size_alloc, World.size_alloc] at this
  have H1 := Lib.hid h1
  obtain ⟨a, cap, rfl, hc⟩ := hr
  have HC := Lib.hid hc
  have HT := Lib.hid ht
  have c0 := cell_inB (cell_inB (zero2 w 26 (.int .i64 c) (.slice a ll.length cap)).1 ((Below.refl _ _).alloc (Nat.le_refl _) (.cells #[.int .i64 0, .slice none 0 0] 26))) ((Below.refl _ _).alloc (Nat.le_refl _) (.cells #[.int .i64 c, .slice none 0 0] 26))
  clear hb1 hb2 hb3 h1 hc ht
  go_enter Tryz.func47, Tryz.ntmps47
  go_wp2_with fail
  go_loopw [4] (fun iv wr => ∃ (i : Nat) (vx : Value), i ≤ ll.length ∧ iv = .int .i64 (i : Int) ∧ Hid (L3 w c (.slice a ll.length cap) vx (ll.take i) wr)) (fun iv _ => ll.length - (intOf iv).toNat)
  case atStart => exact ⟨0, _, by omega, rfl, H1⟩
  case round =>
    clear H1 c0
    obtain ⟨i, vx, hi, rfl, h3⟩ := hrel
    obtain ⟨w2, hw2⟩ : ∃ w', w' = wr := ⟨_, rfl⟩
    rw [← hw2] at h3 ⊢
    clear hw2
    have hsz := h3.out.sz
    have e1 : w2.cell? ⟨w.heap.size, 1, none⟩ = some (.slice a ll.length cap) := by rw [cell_of_row w2 w.heap.size 1 _ _ _ h3.out.tb]; rfl
    have HPL : Hid ((ll.take i).length = i) := Lib.hid (by rw [List.length_take]; omega)
    by_cases hlt : i < ll.length
    · obtain ⟨x, u, rfl, hx, hru⟩ := HC.out i hlt
      have e2 := cell_inB hx h3.out.bel
      have HXL := Lib.hid (World.block_lt_of_cell? w _ hx)
      have hri := hru.kept h3.out.bel
      obtain ⟨au, cu, rfl, -⟩ := hru
      have hlen := HT.out i hlt
      have HLT : Hid (ll.take (i + 1) = ll.take i ++ [ll.getD i []]) := Lib.hid (take_succ_getD ll [] i hlt)
      obtain ⟨L, hL⟩ : ∃ L, L = ll.getD i [] := ⟨_, rfl⟩
      obtain ⟨pre, hpre⟩ : ∃ pre, pre = ll.take i := ⟨_, rfl⟩
      rw [← hL] at e2 hri hlen HLT
      rw [← hpre] at h3 HPL HLT
      have hpl : pre.length ≤ 1048575 := by have := HPL.out; omega
      obtain ⟨av, cv, rfl, -⟩ := h3.out.own.read
      have d1 : w2.cell? ⟨w.heap.size + 2, 1, none⟩ = some (.slice av pre.length cv) := by rw [cell_of_row w2 (w.heap.size + 2) 1 _ _ _ h3.out.xb]; rfl
      have d1' : w2.drew.cell? ⟨w.heap.size + 2, 1, none⟩ = some (.slice av pre.length cv) := d1
      have d1'' := cell_inB d1' ((Below.refl _ _).alloc (Nat.le_refl _) (.cells #[] 3))
      have HRI := Lib.hid (hri.kept ((Below.refl w2.heap.size w2).drew.alloc (Nat.le_refl _) (.cells #[] 3)))
      have z0 : (0 : Int) ≤ (i : Int) := by omega
      have z1 : (i : Int) < (ll.length : Int) := by omega
      clear hx hri hL hpre
      go_wp2_with fail
      refine wp_region_noPanic ?_
      refine wp_region_held_drew (S := (fun w' => w'.cell? ⟨w.heap.size, 1, none⟩ = some (.slice (some x) ll.length cap) ∧ w'.cell? (x.add i) = some (.slice au L.length cu))) (by kernel_rfl) ?_ (fun hHeld => ?_)
      · ((try dsimp only); (first | exact ⟨cell_eqb hHeld.1 (Below.heap_setCell _ _ _ _ (by simp; omega)), (World.cell?_of_block (Below.heap_setCell _ _ _ _ (by have := HXL.out; simp; omega))).trans hHeld.2⟩ | exact ⟨cell_inB hHeld.1 ((Below.refl _ _).alloc (Nat.le_refl _) _), cell_inB hHeld.2 ((Below.refl _ _).alloc (Nat.le_refl _) _)⟩ | exact HK92.out | exact HK91.out | exact hHeld | exact ⟨e1, e2⟩))
      refine wpAnyH_take (i := 0) (v := ?_) rfl (by kernel_rfl) (by kernel_rfl) (by kernel_rfl) (fun _ _ _ h => h) (Or.inl ⟨by rfl, ?_⟩) (by assumption) ?_
      rotate_left
      · (intro w hSw; (try dsimp only at hSw); go_simp; (try with_reducible rfl))
      (try simp only [Act.put, List.getElem_toArray, List.getElem_cons_zero, List.setIfInBounds_toArray, List.set_cons_zero, List.set_cons_succ])
      refine wpAnyH_take (i := 3) (v := ?_) rfl (by kernel_rfl) (by kernel_rfl) (by kernel_rfl) (fun _ _ _ h => h) (Or.inl ⟨by rfl, ?_⟩) (by assumption) ?_
      rotate_left
      · (intro w hSw; (try dsimp only at hSw); go_simp; (try with_reducible rfl))
      (try simp only [Act.put, List.getElem_toArray, List.getElem_cons_succ, List.getElem_cons_zero, List.setIfInBounds_toArray, List.set_cons_zero, List.set_cons_succ])
      refine wpAnyH_take (i := 5) (v := ?_) rfl (by kernel_rfl) (by kernel_rfl) (by kernel_rfl) (fun _ _ _ h => h) (Or.inl ⟨by rfl, ?_⟩) (by assumption) ?_
      rotate_left
      · (intro w hSw; (try dsimp only at hSw); go_simp; (try with_reducible rfl))
      (try simp only [Act.put, List.getElem_toArray, List.getElem_cons_succ, List.getElem_cons_zero, List.setIfInBounds_toArray, List.set_cons_zero, List.set_cons_succ])
      refine wpAnyH_take (i := 4) (v := ?_) rfl (by kernel_rfl) (by kernel_rfl) (by kernel_rfl) (fun _ _ _ h => h) (Or.inl ⟨by rfl, ?_⟩) (by assumption) ?_
      rotate_left
      · (intro w hSw; (try dsimp only at hSw); go_simp; (try with_reducible rfl))
      (try simp only [Act.put, List.getElem_toArray, List.getElem_cons_succ, List.getElem_cons_zero, List.setIfInBounds_toArray, List.set_cons_zero, List.set_cons_succ])
      refine wpAnyH_take (i := 6) (v := ?_) rfl (by kernel_rfl) (by kernel_rfl) (by kernel_rfl) (fun _ _ _ h => h) (Or.inl ⟨by rfl, ?_⟩) (by assumption) ?_
      rotate_left
      · (intro w hSw; (try dsimp only at hSw); go_simp; (try with_reducible rfl))
      (try simp only [Act.put, List.getElem_toArray, List.getElem_cons_succ, List.getElem_cons_zero, List.setIfInBounds_toArray, List.set_cons_zero, List.set_cons_succ])
      refine wpAnyH_take (i := 7) (v := ?_) rfl (by kernel_rfl) (by kernel_rfl) (by kernel_rfl) (fun _ _ _ h => h) (Or.inl ⟨by rfl, ?_⟩) (by assumption) ?_
      rotate_left
      · (intro w hSw; (try dsimp only at hSw); go_simp; (try with_reducible rfl))
      (try simp only [Act.put, List.getElem_toArray, List.getElem_cons_succ, List.getElem_cons_zero, List.setIfInBounds_toArray, List.set_cons_zero, List.set_cons_succ])
      refine wpAnyH_ready (rs := [1, 2]) (by kernel_rfl) (by simp) (AllReadyH.cons rfl (fun K hK => ?_) (AllReadyH.cons rfl (fun K hK => ?_) AllReadyH.nil))
      · go_simp
        refine hK.out _ _ ?_ (fun hHeld => ?_)
        · ((try dsimp only); (first | exact ⟨cell_eqb hHeld.1 (Below.heap_setCell _ _ _ _ (by simp; omega)), (World.cell?_of_block (Below.heap_setCell _ _ _ _ (by have := HXL.out; simp; omega))).trans hHeld.2⟩ | exact ⟨cell_inB hHeld.1 ((Below.refl _ _).alloc (Nat.le_refl _) _), cell_inB hHeld.2 ((Below.refl _ _).alloc (Nat.le_refl _) _)⟩ | exact HK92.out | exact HK91.out | exact hHeld | exact ⟨e1, e2⟩))
        clear hK K
        (try simp only [Act.put, List.getElem_toArray, List.getElem_cons_succ, List.getElem_cons_zero, List.setIfInBounds_toArray, List.set_cons_zero, List.set_cons_succ])
        refine wpAnyH_ready (rs := [2]) (by kernel_rfl) (by simp) (AllReadyH.cons rfl (fun K hK => ?_) AllReadyH.nil)
        go_simp
        refine hK.out _ _ ?_ (fun hHeld => ?_)
        · ((try dsimp only); (first | exact ⟨cell_eqb hHeld.1 (Below.heap_setCell _ _ _ _ (by simp; omega)), (World.cell?_of_block (Below.heap_setCell _ _ _ _ (by have := HXL.out; simp; omega))).trans hHeld.2⟩ | exact ⟨cell_inB hHeld.1 ((Below.refl _ _).alloc (Nat.le_refl _) _), cell_inB hHeld.2 ((Below.refl _ _).alloc (Nat.le_refl _) _)⟩ | exact HK92.out | exact HK91.out | exact hHeld | exact ⟨e1, e2⟩))
        clear hK K
        (try simp only [Act.put, List.getElem_toArray, List.getElem_cons_succ, List.getElem_cons_zero, List.setIfInBounds_toArray, List.set_cons_zero, List.set_cons_succ])
        refine wpAnyH_ready (rs := [8]) (by kernel_rfl) (by simp) (AllReadyH.cons rfl (fun K hK => ?_) AllReadyH.nil)
        ((refine step_append_all (by rfl) _ _ _ (by rfl) w2.heap.size 3 j0 (.int .i64 0) 1 8 Tryz.underlying52 HJ.out.1 HJ.out.2.1 HJ.out.2.2.1 HJ.out.2.2.2 rfl (by decide) _ _ _ (by rfl) (own_made w2.drew w2.heap.size 3 1 (Nat.le_refl _)) au L.length cu (intsV L) (by rfl) (by rw [intsV_length, Nat.mul_one]) (newsI HRI.out) (intsV_each _) (by unfold maxLen; omega) (by omega) (by simp) ?_; intro v91 w91 hown91 hgrow91; have HO91 : Hid (OwnI w91 w2.heap.size v91 L) := Lib.hid (by unfold OwnI; simpa using hown91); have HG91 : Hid (w2.grownBy w91 none) := Lib.hid (l3_grown (World.drew w2) rfl rfl rfl rfl rfl hgrow91); have HK91 := Lib.hid (And.intro ((HG91.out.cell_far ⟨w.heap.size, 1, none⟩ (by show w.heap.size < w2.heap.size; omega) (by simp)).trans e1) ((HG91.out.cell_far (x.add i) (Nat.lt_of_lt_of_le HXL.out h3.out.bel.size) (by simp)).trans e2)); obtain ⟨a91, c91, hv91, -⟩ := HO91.out.read; subst hv91; have d2 := (HG91.out.cell_far ⟨w.heap.size + 2, 1, none⟩ (by show w.heap.size + 2 < w2.heap.size; omega) (by simp)).trans d1; have d3 := cell_inB d2 ((Below.refl _ _).alloc (Nat.le_refl _) (.cells #[.slice a91 L.length c91] 52)); clear hown91 hgrow91))
        (try (go_wp2_with fail))
        refine hK.out _ _ ?_ (fun hHeld => ?_)
        · ((try dsimp only); (first | exact ⟨cell_eqb hHeld.1 (Below.heap_setCell _ _ _ _ (by simp; omega)), (World.cell?_of_block (Below.heap_setCell _ _ _ _ (by have := HXL.out; simp; omega))).trans hHeld.2⟩ | exact ⟨cell_inB hHeld.1 ((Below.refl _ _).alloc (Nat.le_refl _) _), cell_inB hHeld.2 ((Below.refl _ _).alloc (Nat.le_refl _) _)⟩ | exact HK92.out | exact HK91.out | exact hHeld | exact ⟨e1, e2⟩))
        clear hK K
        (try simp only [Act.put, List.getElem_toArray, List.getElem_cons_succ, List.getElem_cons_zero, List.setIfInBounds_toArray, List.set_cons_zero, List.set_cons_succ])
        obtain ⟨V, o1, o2, o3, o4⟩ := (l3_own h3.out HG91.out).same (w' := w91.alloc (.cells #[.slice a91 L.length c91] 52)) (fun g _ hg => Below.heap_alloc _ _ _ (by have := HG91.out.size; omega))
        have O1 := Lib.hid o1
        have O2 := Lib.hid o2
        have O3 := Lib.hid o3
        have O4 := Lib.hid o4
        clear o1 o2 o3 o4
        refine wpAnyH_ready (rs := [9]) (by kernel_rfl) (by simp) (AllReadyH.cons rfl (fun K hK => ?_) AllReadyH.nil)
        go_simp
        refine hK.out _ _ ?_ (fun hHeld => ?_)
        · ((try dsimp only); (first | exact ⟨cell_eqb hHeld.1 (Below.heap_setCell _ _ _ _ (by simp; omega)), (World.cell?_of_block (Below.heap_setCell _ _ _ _ (by have := HXL.out; simp; omega))).trans hHeld.2⟩ | exact ⟨cell_inB hHeld.1 ((Below.refl _ _).alloc (Nat.le_refl _) _), cell_inB hHeld.2 ((Below.refl _ _).alloc (Nat.le_refl _) _)⟩ | exact HK92.out | exact HK91.out | exact hHeld | exact ⟨e1, e2⟩))
        clear hK K
        (try simp only [Act.put, List.getElem_toArray, List.getElem_cons_succ, List.getElem_cons_zero, List.setIfInBounds_toArray, List.set_cons_zero, List.set_cons_succ])
        refine wpAnyH_ready (rs := [10]) (by kernel_rfl) (by simp) (AllReadyH.cons rfl (fun K hK => ?_) AllReadyH.nil)
        ((refine step_append_all (by rfl) _ _ _ (by rfl) (w.heap.size + 3) 52 i0 (.slice none 0 0) 1 24 Tryz.underlying24 HI.out.1 HI.out.2.1 HI.out.2.2.1 HI.out.2.2.2 rfl (by decide) _ _ _ (by rfl) O1.out (some ⟨w91.heap.size, 0, none⟩) 1 1 [.slice a91 L.length c91] (by rfl) (by rfl) (fun j u hu => ⟨_, rfl, cell_one_new _ _ _ j u hu⟩) (one_slice _ _ _) (by unfold maxLen; omega) (by omega) (by simp; have := HG91.out.size; omega) ?_; intro v92 w92 hown92 hgrow92; have HF92 := Lib.hid (l3_step h3.out HG91.out HO91.out O1.out O2.out O3.out O4.out hown92 hgrow92); have HK92 := Lib.hid (And.intro ((hgrow92.cell_far ⟨w.heap.size, 1, none⟩ (by rw [World.size_alloc]; have := HG91.out.size; show w.heap.size < _; omega) (fun e => by have := (World.ownsRow.lt O1.out _ e.symm).1; have h0 : w.heap.size + 3 ≤ w.heap.size := this; omega)).trans (cell_inB HK91.out.1 ((Below.refl _ _).alloc (Nat.le_refl _) _))) ((hgrow92.cell_far (x.add i) (by rw [World.size_alloc]; have := HG91.out.size; have := HXL.out; have := h3.out.bel.size; omega) (fun e => by have := (World.ownsRow.lt O1.out _ e.symm).1; have := HXL.out; omega)).trans (cell_inB HK91.out.2 ((Below.refl _ _).alloc (Nat.le_refl _) _)))); obtain ⟨a92, c92, hv92⟩ := HF92.out.1; subst hv92; have f92 := HF92.out.2.1.1; have g92 := HF92.out.2.1.2; clear hown92 hgrow92))
        (try (go_wp2_with fail))
        refine hK.out _ _ ?_ (fun hHeld => ?_)
        · ((try dsimp only); (first | exact ⟨cell_eqb hHeld.1 (Below.heap_setCell _ _ _ _ (by simp; omega)), (World.cell?_of_block (Below.heap_setCell _ _ _ _ (by have := HXL.out; simp; omega))).trans hHeld.2⟩ | exact ⟨cell_inB hHeld.1 ((Below.refl _ _).alloc (Nat.le_refl _) _), cell_inB hHeld.2 ((Below.refl _ _).alloc (Nat.le_refl _) _)⟩ | exact HK92.out | exact HK91.out | exact hHeld | exact ⟨e1, e2⟩))
        clear hK K
        (try simp only [Act.put, List.getElem_toArray, List.getElem_cons_succ, List.getElem_cons_zero, List.setIfInBounds_toArray, List.set_cons_zero, List.set_cons_succ])
        refine wpAnyH_take (i := 11) (v := ?_) rfl (by kernel_rfl) (by kernel_rfl) (by kernel_rfl) (fun _ _ _ h => h) (Or.inl ⟨by rfl, ?_⟩) (by assumption) ?_
        rotate_left
        · (intro w hSw; (try dsimp only at hSw); go_simp; (try with_reducible rfl))
        (try simp only [Act.put, List.getElem_toArray, List.getElem_cons_succ, List.getElem_cons_zero, List.setIfInBounds_toArray, List.set_cons_zero, List.set_cons_succ])
        refine wpAnyH_ready (rs := [12]) (by kernel_rfl) (by simp) (AllReadyH.cons rfl (fun K hK => ?_) AllReadyH.nil)
        go_simp
        refine hK.out _ _ ?_ (fun hHeld => ?_)
        · ((try dsimp only); (first | exact ⟨cell_eqb hHeld.1 (Below.heap_setCell _ _ _ _ (by simp; omega)), (World.cell?_of_block (Below.heap_setCell _ _ _ _ (by have := HXL.out; simp; omega))).trans hHeld.2⟩ | exact ⟨cell_inB hHeld.1 ((Below.refl _ _).alloc (Nat.le_refl _) _), cell_inB hHeld.2 ((Below.refl _ _).alloc (Nat.le_refl _) _)⟩ | exact HK92.out | exact HK91.out | exact hHeld | exact ⟨e1, e2⟩))
        clear hK K
        (try simp only [Act.put, List.getElem_toArray, List.getElem_cons_succ, List.getElem_cons_zero, List.setIfInBounds_toArray, List.set_cons_zero, List.set_cons_succ])
        refine wpAnyH_done (by kernel_rfl) ?_ _
        refine NoPanic.normal ?_
        have HF := Lib.hid HF92.out.2.2
        clear hHeld f92 g92
        go_wp2_with fail
        go_roundw
        case rel => exact ⟨i + 1, _, by omega, by go_num, Lib.hid (by rw [HLT.out]; exact HF.out)⟩
        case measure => simp [intOf]; omega
      · go_simp
        refine hK.out _ _ ?_ (fun hHeld => ?_)
        · ((try dsimp only); (first | exact ⟨cell_eqb hHeld.1 (Below.heap_setCell _ _ _ _ (by simp; omega)), (World.cell?_of_block (Below.heap_setCell _ _ _ _ (by have := HXL.out; simp; omega))).trans hHeld.2⟩ | exact ⟨cell_inB hHeld.1 ((Below.refl _ _).alloc (Nat.le_refl _) _), cell_inB hHeld.2 ((Below.refl _ _).alloc (Nat.le_refl _) _)⟩ | exact HK92.out | exact HK91.out | exact hHeld | exact ⟨e1, e2⟩))
        clear hK K
        (try simp only [Act.put, List.getElem_toArray, List.getElem_cons_succ, List.getElem_cons_zero, List.setIfInBounds_toArray, List.set_cons_zero, List.set_cons_succ])
        refine wpAnyH_ready (rs := [1, 8]) (by kernel_rfl) (by simp) (AllReadyH.cons rfl (fun K hK => ?_) (AllReadyH.cons rfl (fun K hK => ?_) AllReadyH.nil))
        · go_simp
          refine hK.out _ _ ?_ (fun hHeld => ?_)
          · ((try dsimp only); (first | exact ⟨cell_eqb hHeld.1 (Below.heap_setCell _ _ _ _ (by simp; omega)), (World.cell?_of_block (Below.heap_setCell _ _ _ _ (by have := HXL.out; simp; omega))).trans hHeld.2⟩ | exact ⟨cell_inB hHeld.1 ((Below.refl _ _).alloc (Nat.le_refl _) _), cell_inB hHeld.2 ((Below.refl _ _).alloc (Nat.le_refl _) _)⟩ | exact HK92.out | exact HK91.out | exact hHeld | exact ⟨e1, e2⟩))
          clear hK K
          (try simp only [Act.put, List.getElem_toArray, List.getElem_cons_succ, List.getElem_cons_zero, List.setIfInBounds_toArray, List.set_cons_zero, List.set_cons_succ])
          refine wpAnyH_ready (rs := [8]) (by kernel_rfl) (by simp) (AllReadyH.cons rfl (fun K hK => ?_) AllReadyH.nil)
          ((refine step_append_all (by rfl) _ _ _ (by rfl) w2.heap.size 3 j0 (.int .i64 0) 1 8 Tryz.underlying52 HJ.out.1 HJ.out.2.1 HJ.out.2.2.1 HJ.out.2.2.2 rfl (by decide) _ _ _ (by rfl) (own_made w2.drew w2.heap.size 3 1 (Nat.le_refl _)) au L.length cu (intsV L) (by rfl) (by rw [intsV_length, Nat.mul_one]) (newsI HRI.out) (intsV_each _) (by unfold maxLen; omega) (by omega) (by simp) ?_; intro v91 w91 hown91 hgrow91; have HO91 : Hid (OwnI w91 w2.heap.size v91 L) := Lib.hid (by unfold OwnI; simpa using hown91); have HG91 : Hid (w2.grownBy w91 none) := Lib.hid (l3_grown (World.drew w2) rfl rfl rfl rfl rfl hgrow91); have HK91 := Lib.hid (And.intro ((HG91.out.cell_far ⟨w.heap.size, 1, none⟩ (by show w.heap.size < w2.heap.size; omega) (by simp)).trans e1) ((HG91.out.cell_far (x.add i) (Nat.lt_of_lt_of_le HXL.out h3.out.bel.size) (by simp)).trans e2)); obtain ⟨a91, c91, hv91, -⟩ := HO91.out.read; subst hv91; have d2 := (HG91.out.cell_far ⟨w.heap.size + 2, 1, none⟩ (by show w.heap.size + 2 < w2.heap.size; omega) (by simp)).trans d1; have d3 := cell_inB d2 ((Below.refl _ _).alloc (Nat.le_refl _) (.cells #[.slice a91 L.length c91] 52)); clear hown91 hgrow91))
          (try (go_wp2_with fail))
          refine hK.out _ _ ?_ (fun hHeld => ?_)
          · ((try dsimp only); (first | exact ⟨cell_eqb hHeld.1 (Below.heap_setCell _ _ _ _ (by simp; omega)), (World.cell?_of_block (Below.heap_setCell _ _ _ _ (by have := HXL.out; simp; omega))).trans hHeld.2⟩ | exact ⟨cell_inB hHeld.1 ((Below.refl _ _).alloc (Nat.le_refl _) _), cell_inB hHeld.2 ((Below.refl _ _).alloc (Nat.le_refl _) _)⟩ | exact HK92.out | exact HK91.out | exact hHeld | exact ⟨e1, e2⟩))
          clear hK K
          (try simp only [Act.put, List.getElem_toArray, List.getElem_cons_succ, List.getElem_cons_zero, List.setIfInBounds_toArray, List.set_cons_zero, List.set_cons_succ])
          obtain ⟨V, o1, o2, o3, o4⟩ := (l3_own h3.out HG91.out).same (w' := w91.alloc (.cells #[.slice a91 L.length c91] 52)) (fun g _ hg => Below.heap_alloc _ _ _ (by have := HG91.out.size; omega))
          have O1 := Lib.hid o1
          have O2 := Lib.hid o2
          have O3 := Lib.hid o3
          have O4 := Lib.hid o4
          clear o1 o2 o3 o4
          refine wpAnyH_ready (rs := [9]) (by kernel_rfl) (by simp) (AllReadyH.cons rfl (fun K hK => ?_) AllReadyH.nil)
          go_simp
          refine hK.out _ _ ?_ (fun hHeld => ?_)
          · ((try dsimp only); (first | exact ⟨cell_eqb hHeld.1 (Below.heap_setCell _ _ _ _ (by simp; omega)), (World.cell?_of_block (Below.heap_setCell _ _ _ _ (by have := HXL.out; simp; omega))).trans hHeld.2⟩ | exact ⟨cell_inB hHeld.1 ((Below.refl _ _).alloc (Nat.le_refl _) _), cell_inB hHeld.2 ((Below.refl _ _).alloc (Nat.le_refl _) _)⟩ | exact HK92.out | exact HK91.out | exact hHeld | exact ⟨e1, e2⟩))
          clear hK K
          (try simp only [Act.put, List.getElem_toArray, List.getElem_cons_succ, List.getElem_cons_zero, List.setIfInBounds_toArray, List.set_cons_zero, List.set_cons_succ])
          refine wpAnyH_ready (rs := [10]) (by kernel_rfl) (by simp) (AllReadyH.cons rfl (fun K hK => ?_) AllReadyH.nil)
          ((refine step_append_all (by rfl) _ _ _ (by rfl) (w.heap.size + 3) 52 i0 (.slice none 0 0) 1 24 Tryz.underlying24 HI.out.1 HI.out.2.1 HI.out.2.2.1 HI.out.2.2.2 rfl (by decide) _ _ _ (by rfl) O1.out (some ⟨w91.heap.size, 0, none⟩) 1 1 [.slice a91 L.length c91] (by rfl) (by rfl) (fun j u hu => ⟨_, rfl, cell_one_new _ _ _ j u hu⟩) (one_slice _ _ _) (by unfold maxLen; omega) (by omega) (by simp; have := HG91.out.size; omega) ?_; intro v92 w92 hown92 hgrow92; have HF92 := Lib.hid (l3_step h3.out HG91.out HO91.out O1.out O2.out O3.out O4.out hown92 hgrow92); have HK92 := Lib.hid (And.intro ((hgrow92.cell_far ⟨w.heap.size, 1, none⟩ (by rw [World.size_alloc]; have := HG91.out.size; show w.heap.size < _; omega) (fun e => by have := (World.ownsRow.lt O1.out _ e.symm).1; have h0 : w.heap.size + 3 ≤ w.heap.size := this; omega)).trans (cell_inB HK91.out.1 ((Below.refl _ _).alloc (Nat.le_refl _) _))) ((hgrow92.cell_far (x.add i) (by rw [World.size_alloc]; have := HG91.out.size; have := HXL.out; have := h3.out.bel.size; omega) (fun e => by have := (World.ownsRow.lt O1.out _ e.symm).1; have := HXL.out; omega)).trans (cell_inB HK91.out.2 ((Below.refl _ _).alloc (Nat.le_refl _) _)))); obtain ⟨a92, c92, hv92⟩ := HF92.out.1; subst hv92; have f92 := HF92.out.2.1.1; have g92 := HF92.out.2.1.2; clear hown92 hgrow92))
          (try (go_wp2_with fail))
          refine hK.out _ _ ?_ (fun hHeld => ?_)
          · ((try dsimp only); (first | exact ⟨cell_eqb hHeld.1 (Below.heap_setCell _ _ _ _ (by simp; omega)), (World.cell?_of_block (Below.heap_setCell _ _ _ _ (by have := HXL.out; simp; omega))).trans hHeld.2⟩ | exact ⟨cell_inB hHeld.1 ((Below.refl _ _).alloc (Nat.le_refl _) _), cell_inB hHeld.2 ((Below.refl _ _).alloc (Nat.le_refl _) _)⟩ | exact HK92.out | exact HK91.out | exact hHeld | exact ⟨e1, e2⟩))
          clear hK K
          (try simp only [Act.put, List.getElem_toArray, List.getElem_cons_succ, List.getElem_cons_zero, List.setIfInBounds_toArray, List.set_cons_zero, List.set_cons_succ])
          refine wpAnyH_take (i := 11) (v := ?_) rfl (by kernel_rfl) (by kernel_rfl) (by kernel_rfl) (fun _ _ _ h => h) (Or.inl ⟨by rfl, ?_⟩) (by assumption) ?_
          rotate_left
          · (intro w hSw; (try dsimp only at hSw); go_simp; (try with_reducible rfl))
          (try simp only [Act.put, List.getElem_toArray, List.getElem_cons_succ, List.getElem_cons_zero, List.setIfInBounds_toArray, List.set_cons_zero, List.set_cons_succ])
          refine wpAnyH_ready (rs := [12]) (by kernel_rfl) (by simp) (AllReadyH.cons rfl (fun K hK => ?_) AllReadyH.nil)
          go_simp
          refine hK.out _ _ ?_ (fun hHeld => ?_)
          · ((try dsimp only); (first | exact ⟨cell_eqb hHeld.1 (Below.heap_setCell _ _ _ _ (by simp; omega)), (World.cell?_of_block (Below.heap_setCell _ _ _ _ (by have := HXL.out; simp; omega))).trans hHeld.2⟩ | exact ⟨cell_inB hHeld.1 ((Below.refl _ _).alloc (Nat.le_refl _) _), cell_inB hHeld.2 ((Below.refl _ _).alloc (Nat.le_refl _) _)⟩ | exact HK92.out | exact HK91.out | exact hHeld | exact ⟨e1, e2⟩))
          clear hK K
          (try simp only [Act.put, List.getElem_toArray, List.getElem_cons_succ, List.getElem_cons_zero, List.setIfInBounds_toArray, List.set_cons_zero, List.set_cons_succ])
          refine wpAnyH_done (by kernel_rfl) ?_ _
          refine NoPanic.normal ?_
          have HF := Lib.hid HF92.out.2.2
          clear hHeld f92 g92
          go_wp2_with fail
          go_roundw
          case rel => exact ⟨i + 1, _, by omega, by go_num, Lib.hid (by rw [HLT.out]; exact HF.out)⟩
          case measure => simp [intOf]; omega
        · ((refine step_append_all (by rfl) _ _ _ (by rfl) w2.heap.size 3 j0 (.int .i64 0) 1 8 Tryz.underlying52 HJ.out.1 HJ.out.2.1 HJ.out.2.2.1 HJ.out.2.2.2 rfl (by decide) _ _ _ (by rfl) (own_made w2.drew w2.heap.size 3 1 (Nat.le_refl _)) au L.length cu (intsV L) (by rfl) (by rw [intsV_length, Nat.mul_one]) (newsI HRI.out) (intsV_each _) (by unfold maxLen; omega) (by omega) (by simp) ?_; intro v91 w91 hown91 hgrow91; have HO91 : Hid (OwnI w91 w2.heap.size v91 L) := Lib.hid (by unfold OwnI; simpa using hown91); have HG91 : Hid (w2.grownBy w91 none) := Lib.hid (l3_grown (World.drew w2) rfl rfl rfl rfl rfl hgrow91); have HK91 := Lib.hid (And.intro ((HG91.out.cell_far ⟨w.heap.size, 1, none⟩ (by show w.heap.size < w2.heap.size; omega) (by simp)).trans e1) ((HG91.out.cell_far (x.add i) (Nat.lt_of_lt_of_le HXL.out h3.out.bel.size) (by simp)).trans e2)); obtain ⟨a91, c91, hv91, -⟩ := HO91.out.read; subst hv91; have d2 := (HG91.out.cell_far ⟨w.heap.size + 2, 1, none⟩ (by show w.heap.size + 2 < w2.heap.size; omega) (by simp)).trans d1; have d3 := cell_inB d2 ((Below.refl _ _).alloc (Nat.le_refl _) (.cells #[.slice a91 L.length c91] 52)); clear hown91 hgrow91))
          (try (go_wp2_with fail))
          refine hK.out _ _ ?_ (fun hHeld => ?_)
          · ((try dsimp only); (first | exact ⟨cell_eqb hHeld.1 (Below.heap_setCell _ _ _ _ (by simp; omega)), (World.cell?_of_block (Below.heap_setCell _ _ _ _ (by have := HXL.out; simp; omega))).trans hHeld.2⟩ | exact ⟨cell_inB hHeld.1 ((Below.refl _ _).alloc (Nat.le_refl _) _), cell_inB hHeld.2 ((Below.refl _ _).alloc (Nat.le_refl _) _)⟩ | exact HK92.out | exact HK91.out | exact hHeld | exact ⟨e1, e2⟩))
          clear hK K
          (try simp only [Act.put, List.getElem_toArray, List.getElem_cons_succ, List.getElem_cons_zero, List.setIfInBounds_toArray, List.set_cons_zero, List.set_cons_succ])
          obtain ⟨V, o1, o2, o3, o4⟩ := (l3_own h3.out HG91.out).same (w' := w91.alloc (.cells #[.slice a91 L.length c91] 52)) (fun g _ hg => Below.heap_alloc _ _ _ (by have := HG91.out.size; omega))
          have O1 := Lib.hid o1
          have O2 := Lib.hid o2
          have O3 := Lib.hid o3
          have O4 := Lib.hid o4
          clear o1 o2 o3 o4
          refine wpAnyH_ready (rs := [1, 9]) (by kernel_rfl) (by simp) (AllReadyH.cons rfl (fun K hK => ?_) (AllReadyH.cons rfl (fun K hK => ?_) AllReadyH.nil))
          · go_simp
            refine hK.out _ _ ?_ (fun hHeld => ?_)
            · ((try dsimp only); (first | exact ⟨cell_eqb hHeld.1 (Below.heap_setCell _ _ _ _ (by simp; omega)), (World.cell?_of_block (Below.heap_setCell _ _ _ _ (by have := HXL.out; simp; omega))).trans hHeld.2⟩ | exact ⟨cell_inB hHeld.1 ((Below.refl _ _).alloc (Nat.le_refl _) _), cell_inB hHeld.2 ((Below.refl _ _).alloc (Nat.le_refl _) _)⟩ | exact HK92.out | exact HK91.out | exact hHeld | exact ⟨e1, e2⟩))
            clear hK K
            (try simp only [Act.put, List.getElem_toArray, List.getElem_cons_succ, List.getElem_cons_zero, List.setIfInBounds_toArray, List.set_cons_zero, List.set_cons_succ])
            refine wpAnyH_ready (rs := [9]) (by kernel_rfl) (by simp) (AllReadyH.cons rfl (fun K hK => ?_) AllReadyH.nil)
            go_simp
            refine hK.out _ _ ?_ (fun hHeld => ?_)
            · ((try dsimp only); (first | exact ⟨cell_eqb hHeld.1 (Below.heap_setCell _ _ _ _ (by simp; omega)), (World.cell?_of_block (Below.heap_setCell _ _ _ _ (by have := HXL.out; simp; omega))).trans hHeld.2⟩ | exact ⟨cell_inB hHeld.1 ((Below.refl _ _).alloc (Nat.le_refl _) _), cell_inB hHeld.2 ((Below.refl _ _).alloc (Nat.le_refl _) _)⟩ | exact HK92.out | exact HK91.out | exact hHeld | exact ⟨e1, e2⟩))
            clear hK K
            (try simp only [Act.put, List.getElem_toArray, List.getElem_cons_succ, List.getElem_cons_zero, List.setIfInBounds_toArray, List.set_cons_zero, List.set_cons_succ])
            refine wpAnyH_ready (rs := [10]) (by kernel_rfl) (by simp) (AllReadyH.cons rfl (fun K hK => ?_) AllReadyH.nil)
            ((refine step_append_all (by rfl) _ _ _ (by rfl) (w.heap.size + 3) 52 i0 (.slice none 0 0) 1 24 Tryz.underlying24 HI.out.1 HI.out.2.1 HI.out.2.2.1 HI.out.2.2.2 rfl (by decide) _ _ _ (by rfl) O1.out (some ⟨w91.heap.size, 0, none⟩) 1 1 [.slice a91 L.length c91] (by rfl) (by rfl) (fun j u hu => ⟨_, rfl, cell_one_new _ _ _ j u hu⟩) (one_slice _ _ _) (by unfold maxLen; omega) (by omega) (by simp; have := HG91.out.size; omega) ?_; intro v92 w92 hown92 hgrow92; have HF92 := Lib.hid (l3_step h3.out HG91.out HO91.out O1.out O2.out O3.out O4.out hown92 hgrow92); have HK92 := Lib.hid (And.intro ((hgrow92.cell_far ⟨w.heap.size, 1, none⟩ (by rw [World.size_alloc]; have := HG91.out.size; show w.heap.size < _; omega) (fun e => by have := (World.ownsRow.lt O1.out _ e.symm).1; have h0 : w.heap.size + 3 ≤ w.heap.size := this; omega)).trans (cell_inB HK91.out.1 ((Below.refl _ _).alloc (Nat.le_refl _) _))) ((hgrow92.cell_far (x.add i) (by rw [World.size_alloc]; have := HG91.out.size; have := HXL.out; have := h3.out.bel.size; omega) (fun e => by have := (World.ownsRow.lt O1.out _ e.symm).1; have := HXL.out; omega)).trans (cell_inB HK91.out.2 ((Below.refl _ _).alloc (Nat.le_refl _) _)))); obtain ⟨a92, c92, hv92⟩ := HF92.out.1; subst hv92; have f92 := HF92.out.2.1.1; have g92 := HF92.out.2.1.2; clear hown92 hgrow92))
            (try (go_wp2_with fail))
            refine hK.out _ _ ?_ (fun hHeld => ?_)
            · ((try dsimp only); (first | exact ⟨cell_eqb hHeld.1 (Below.heap_setCell _ _ _ _ (by simp; omega)), (World.cell?_of_block (Below.heap_setCell _ _ _ _ (by have := HXL.out; simp; omega))).trans hHeld.2⟩ | exact ⟨cell_inB hHeld.1 ((Below.refl _ _).alloc (Nat.le_refl _) _), cell_inB hHeld.2 ((Below.refl _ _).alloc (Nat.le_refl _) _)⟩ | exact HK92.out | exact HK91.out | exact hHeld | exact ⟨e1, e2⟩))
            clear hK K
            (try simp only [Act.put, List.getElem_toArray, List.getElem_cons_succ, List.getElem_cons_zero, List.setIfInBounds_toArray, List.set_cons_zero, List.set_cons_succ])
            refine wpAnyH_take (i := 11) (v := ?_) rfl (by kernel_rfl) (by kernel_rfl) (by kernel_rfl) (fun _ _ _ h => h) (Or.inl ⟨by rfl, ?_⟩) (by assumption) ?_
            rotate_left
            · (intro w hSw; (try dsimp only at hSw); go_simp; (try with_reducible rfl))
            (try simp only [Act.put, List.getElem_toArray, List.getElem_cons_succ, List.getElem_cons_zero, List.setIfInBounds_toArray, List.set_cons_zero, List.set_cons_succ])
            refine wpAnyH_ready (rs := [12]) (by kernel_rfl) (by simp) (AllReadyH.cons rfl (fun K hK => ?_) AllReadyH.nil)
            go_simp
            refine hK.out _ _ ?_ (fun hHeld => ?_)
            · ((try dsimp only); (first | exact ⟨cell_eqb hHeld.1 (Below.heap_setCell _ _ _ _ (by simp; omega)), (World.cell?_of_block (Below.heap_setCell _ _ _ _ (by have := HXL.out; simp; omega))).trans hHeld.2⟩ | exact ⟨cell_inB hHeld.1 ((Below.refl _ _).alloc (Nat.le_refl _) _), cell_inB hHeld.2 ((Below.refl _ _).alloc (Nat.le_refl _) _)⟩ | exact HK92.out | exact HK91.out | exact hHeld | exact ⟨e1, e2⟩))
            clear hK K
            (try simp only [Act.put, List.getElem_toArray, List.getElem_cons_succ, List.getElem_cons_zero, List.setIfInBounds_toArray, List.set_cons_zero, List.set_cons_succ])
            refine wpAnyH_done (by kernel_rfl) ?_ _
            refine NoPanic.normal ?_
            have HF := Lib.hid HF92.out.2.2
            clear hHeld f92 g92
            go_wp2_with fail
            go_roundw
            case rel => exact ⟨i + 1, _, by omega, by go_num, Lib.hid (by rw [HLT.out]; exact HF.out)⟩
            case measure => simp [intOf]; omega
          · go_simp
            refine hK.out _ _ ?_ (fun hHeld => ?_)
            · ((try dsimp only); (first | exact ⟨cell_eqb hHeld.1 (Below.heap_setCell _ _ _ _ (by simp; omega)), (World.cell?_of_block (Below.heap_setCell _ _ _ _ (by have := HXL.out; simp; omega))).trans hHeld.2⟩ | exact ⟨cell_inB hHeld.1 ((Below.refl _ _).alloc (Nat.le_refl _) _), cell_inB hHeld.2 ((Below.refl _ _).alloc (Nat.le_refl _) _)⟩ | exact HK92.out | exact HK91.out | exact hHeld | exact ⟨e1, e2⟩))
            clear hK K
            (try simp only [Act.put, List.getElem_toArray, List.getElem_cons_succ, List.getElem_cons_zero, List.setIfInBounds_toArray, List.set_cons_zero, List.set_cons_succ])
            refine wpAnyH_ready (rs := [1]) (by kernel_rfl) (by simp) (AllReadyH.cons rfl (fun K hK => ?_) AllReadyH.nil)
            go_simp
            refine hK.out _ _ ?_ (fun hHeld => ?_)
            · ((try dsimp only); (first | exact ⟨cell_eqb hHeld.1 (Below.heap_setCell _ _ _ _ (by simp; omega)), (World.cell?_of_block (Below.heap_setCell _ _ _ _ (by have := HXL.out; simp; omega))).trans hHeld.2⟩ | exact ⟨cell_inB hHeld.1 ((Below.refl _ _).alloc (Nat.le_refl _) _), cell_inB hHeld.2 ((Below.refl _ _).alloc (Nat.le_refl _) _)⟩ | exact HK92.out | exact HK91.out | exact hHeld | exact ⟨e1, e2⟩))
            clear hK K
            (try simp only [Act.put, List.getElem_toArray, List.getElem_cons_succ, List.getElem_cons_zero, List.setIfInBounds_toArray, List.set_cons_zero, List.set_cons_succ])
            refine wpAnyH_ready (rs := [10]) (by kernel_rfl) (by simp) (AllReadyH.cons rfl (fun K hK => ?_) AllReadyH.nil)
            ((refine step_append_all (by rfl) _ _ _ (by rfl) (w.heap.size + 3) 52 i0 (.slice none 0 0) 1 24 Tryz.underlying24 HI.out.1 HI.out.2.1 HI.out.2.2.1 HI.out.2.2.2 rfl (by decide) _ _ _ (by rfl) O1.out (some ⟨w91.heap.size, 0, none⟩) 1 1 [.slice a91 L.length c91] (by rfl) (by rfl) (fun j u hu => ⟨_, rfl, cell_one_new _ _ _ j u hu⟩) (one_slice _ _ _) (by unfold maxLen; omega) (by omega) (by simp; have := HG91.out.size; omega) ?_; intro v92 w92 hown92 hgrow92; have HF92 := Lib.hid (l3_step h3.out HG91.out HO91.out O1.out O2.out O3.out O4.out hown92 hgrow92); have HK92 := Lib.hid (And.intro ((hgrow92.cell_far ⟨w.heap.size, 1, none⟩ (by rw [World.size_alloc]; have := HG91.out.size; show w.heap.size < _; omega) (fun e => by have := (World.ownsRow.lt O1.out _ e.symm).1; have h0 : w.heap.size + 3 ≤ w.heap.size := this; omega)).trans (cell_inB HK91.out.1 ((Below.refl _ _).alloc (Nat.le_refl _) _))) ((hgrow92.cell_far (x.add i) (by rw [World.size_alloc]; have := HG91.out.size; have := HXL.out; have := h3.out.bel.size; omega) (fun e => by have := (World.ownsRow.lt O1.out _ e.symm).1; have := HXL.out; omega)).trans (cell_inB HK91.out.2 ((Below.refl _ _).alloc (Nat.le_refl _) _)))); obtain ⟨a92, c92, hv92⟩ := HF92.out.1; subst hv92; have f92 := HF92.out.2.1.1; have g92 := HF92.out.2.1.2; clear hown92 hgrow92))
            (try (go_wp2_with fail))
            refine hK.out _ _ ?_ (fun hHeld => ?_)
            · ((try dsimp only); (first | exact ⟨cell_eqb hHeld.1 (Below.heap_setCell _ _ _ _ (by simp; omega)), (World.cell?_of_block (Below.heap_setCell _ _ _ _ (by have := HXL.out; simp; omega))).trans hHeld.2⟩ | exact ⟨cell_inB hHeld.1 ((Below.refl _ _).alloc (Nat.le_refl _) _), cell_inB hHeld.2 ((Below.refl _ _).alloc (Nat.le_refl _) _)⟩ | exact HK92.out | exact HK91.out | exact hHeld | exact ⟨e1, e2⟩))
            clear hK K
            (try simp only [Act.put, List.getElem_toArray, List.getElem_cons_succ, List.getElem_cons_zero, List.setIfInBounds_toArray, List.set_cons_zero, List.set_cons_succ])
            refine wpAnyH_take (i := 11) (v := ?_) rfl (by kernel_rfl) (by kernel_rfl) (by kernel_rfl) (fun _ _ _ h => h) (Or.inl ⟨by rfl, ?_⟩) (by assumption) ?_
            rotate_left
            · (intro w hSw; (try dsimp only at hSw); go_simp; (try with_reducible rfl))
            (try simp only [Act.put, List.getElem_toArray, List.getElem_cons_succ, List.getElem_cons_zero, List.setIfInBounds_toArray, List.set_cons_zero, List.set_cons_succ])
            refine wpAnyH_ready (rs := [12]) (by kernel_rfl) (by simp) (AllReadyH.cons rfl (fun K hK => ?_) AllReadyH.nil)
            go_simp
            refine hK.out _ _ ?_ (fun hHeld => ?_)
            · ((try dsimp only); (first | exact ⟨cell_eqb hHeld.1 (Below.heap_setCell _ _ _ _ (by simp; omega)), (World.cell?_of_block (Below.heap_setCell _ _ _ _ (by have := HXL.out; simp; omega))).trans hHeld.2⟩ | exact ⟨cell_inB hHeld.1 ((Below.refl _ _).alloc (Nat.le_refl _) _), cell_inB hHeld.2 ((Below.refl _ _).alloc (Nat.le_refl _) _)⟩ | exact HK92.out | exact HK91.out | exact hHeld | exact ⟨e1, e2⟩))
            clear hK K
            (try simp only [Act.put, List.getElem_toArray, List.getElem_cons_succ, List.getElem_cons_zero, List.setIfInBounds_toArray, List.set_cons_zero, List.set_cons_succ])
            refine wpAnyH_done (by kernel_rfl) ?_ _
            refine NoPanic.normal ?_
            have HF := Lib.hid HF92.out.2.2
            clear hHeld f92 g92
            go_wp2_with fail
            go_roundw
            case rel => exact ⟨i + 1, _, by omega, by go_num, Lib.hid (by rw [HLT.out]; exact HF.out)⟩
            case measure => simp [intOf]; omega
    · obtain rfl : i = ll.length := by omega
      rw [List.take_length] at h3
      obtain ⟨av, cv, rfl, -⟩ := h3.out.own.read
      have x0 : w2.cell? ⟨w.heap.size + 2, 0, none⟩ = some (.int .i64 c) := by rw [cell_of_row w2 (w.heap.size + 2) 0 _ _ _ h3.out.xb]; rfl
      have x1 : w2.cell? ⟨w.heap.size + 2, 1, none⟩ = some (.slice av ll.length cv) := by rw [cell_of_row w2 (w.heap.size + 2) 1 _ _ _ h3.out.xb]; rfl
      have d0 : w2.cell? ⟨w.heap.size + 1, 0, none⟩ = some (.int .i64 0) := by rw [cell_of_row w2 (w.heap.size + 1) 0 _ _ _ h3.out.rb]; rfl
      have d1 : w2.cell? ⟨w.heap.size + 1, 1, none⟩ = some (.slice none 0 0) := by rw [cell_of_row w2 (w.heap.size + 1) 1 _ _ _ h3.out.rb]; rfl
      have f0 := frozen_of_row w2 (w.heap.size + 1) 0 _ _ h3.out.rb
      have f1 := frozen_of_row w2 (w.heap.size + 1) 1 _ _ h3.out.rb
      have HO := Lib.hid ((h3.out.own.same (((Same.refl (w.heap.size + 3) w2.heap.size w2).setCell (p := ⟨w.heap.size + 1, 0, none⟩) (.inl (by simp)) (.int .i64 c)).setCell (p := ⟨w.heap.size + 1, 1, none⟩) (.inl (by simp)) (.slice av ll.length cv))).base (B' := w.heap.size) (C' := ((w2.setCell ⟨w.heap.size + 1, 0, none⟩ (.int .i64 c)).setCell ⟨w.heap.size + 1, 1, none⟩ (.slice av ll.length cv)).heap.size) (by omega) (by simp))
      have HB := Lib.hid ((h3.out.bel.setCell (p := ⟨w.heap.size + 1, 0, none⟩) (by simp) (.int .i64 c)).setCell (p := ⟨w.heap.size + 1, 1, none⟩) (by simp) (.slice av ll.length cv))
      clear hsz
      go_wp2_with fail
      exact bodyPost_ret (v := .agg #[.int .i64 c, .slice av ll.length cv]) (by simp [results, Tryz.results47, go_sem, d0, d1]) rfl ⟨_, rfl, HO.out, HB.out⟩
end
end Go.Proofs.YtjfllfancgmalaaGreat
