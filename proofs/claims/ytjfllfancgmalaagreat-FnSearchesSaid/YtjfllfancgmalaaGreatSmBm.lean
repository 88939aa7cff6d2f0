/- The model's l8Copy and NewSearch, by contract. Conditions: as stated. -/
import Derived.Test.YtjfllfancgmalaaGreatSmAm
import Derived.Test.YtjfllfancgmalaaGreatSc22
namespace Go.Proofs.YtjfllfancgmalaaGreat
open Go.RowKit

/-- A search in memory of the call's own. -/
def RetSW (c m at_ t : Int) (ll : List (List Int)) (F : List (Int × Int)) (w : World) (e : Ending) (w' : World) : Prop :=
  ∃ u g : Value, e = .returned (srcV c u m at_ g t) ∧ OwnSS w' w.heap.size w'.heap.size u ll ∧ OwnD w' w.heap.size g F ∧ Below w.heap.size w w'
theorem Below.drewL {w w' : World} (h : Below w.drew.heap.size w.drew w') : Below w.heap.size w w' := ⟨h.os, h.tape, h.output, h.size, h.block⟩
theorem keepSix {w0 w' : World} {b : Nat} {c m at_ t : Int} {v f : Value} (h : SBx w' b c v m at_ f t ∧ Below w0.heap.size w0 w') (p : Nat) (hp : b ≠ p) (hp2 : w0.heap.size ≤ p) (b0 b1 b2 b3 b4 b5 : Value) :
    SBx ((((((w'.setCell ⟨p, 0, none⟩ b0).setCell ⟨p, 1, none⟩ b1).setCell ⟨p, 2, none⟩ b2).setCell ⟨p, 3, none⟩ b3).setCell ⟨p, 4, none⟩ b4).setCell ⟨p, 5, none⟩ b5) b c v m at_ f t ∧ Below w0.heap.size w0 ((((((w'.setCell ⟨p, 0, none⟩ b0).setCell ⟨p, 1, none⟩ b1).setCell ⟨p, 2, none⟩ b2).setCell ⟨p, 3, none⟩ b3).setCell ⟨p, 4, none⟩ b4).setCell ⟨p, 5, none⟩ b5) := by
  have e : ((((((w'.setCell ⟨p, 0, none⟩ b0).setCell ⟨p, 1, none⟩ b1).setCell ⟨p, 2, none⟩ b2).setCell ⟨p, 3, none⟩ b3).setCell ⟨p, 4, none⟩ b4).setCell ⟨p, 5, none⟩ b5).heap[b]? = w'.heap[b]? := six_same (B := b) (C := b + 1) w' (p := p) b0 b1 b2 b3 b4 b5 (by omega) b (Nat.le_refl _) (by omega)
  obtain ⟨⟨h0, h1⟩, ⟨h2, h3⟩, h4, h5⟩ := h.1
  exact ⟨⟨⟨cell_eqb h0 e, cell_eqb h1 e⟩, ⟨cell_eqb h2 e, cell_eqb h3 e⟩, cell_eqb h4 e, cell_eqb h5 e⟩, six_below b0 b1 b2 b3 b4 b5 h.2 hp2⟩
theorem keepA {w0 w' w'' : World} {c m at_ t : Int} {v f : Value} {row : Option Nat} (h : SBx w' w0.heap.size c v m at_ f t ∧ Below w0.heap.size w0 w') (hs : (∀ k, k < w0.heap.size + 2 → w''.heap[k]? = w'.heap[k]?) ∧ w'.grownBy w'' row) : SBx w'' w0.heap.size c v m at_ f t ∧ Below w0.heap.size w0 w'' := by
  obtain ⟨⟨h0, h1⟩, ⟨h2, h3⟩, h4, h5⟩ := h.1
  have e := hs.1 w0.heap.size (by omega)
  exact ⟨⟨⟨cell_eqb h0 e, cell_eqb h1 e⟩, ⟨cell_eqb h2 e, cell_eqb h3 e⟩, cell_eqb h4 e, cell_eqb h5 e⟩, ⟨hs.2.os.trans h.2.os, hs.2.tape.trans h.2.tape, hs.2.output.trans h.2.output, Nat.le_trans h.2.size hs.2.size, fun k hk => (hs.1 k (by omega)).trans (h.2.block k hk)⟩⟩
theorem sea_fin2 {w w' : World} {C : Nat} {u g : Value} {ll : List (List Int)} {F : List (Int × Int)} (ho : OwnSS w' (w.heap.size + 2) C u ll) (hd : OwnD w' (w.heap.size + 2) g F) (hb : Below w.heap.size w w') (hC : C ≤ w'.heap.size) (b0 b1 b2 b3 b4 b5 : Value) :
    OwnSS ((((((w'.setCell ⟨w.heap.size + 1, 0, none⟩ b0).setCell ⟨w.heap.size + 1, 1, none⟩ b1).setCell ⟨w.heap.size + 1, 2, none⟩ b2).setCell ⟨w.heap.size + 1, 3, none⟩ b3).setCell ⟨w.heap.size + 1, 4, none⟩ b4).setCell ⟨w.heap.size + 1, 5, none⟩ b5) w.heap.size ((((((w'.setCell ⟨w.heap.size + 1, 0, none⟩ b0).setCell ⟨w.heap.size + 1, 1, none⟩ b1).setCell ⟨w.heap.size + 1, 2, none⟩ b2).setCell ⟨w.heap.size + 1, 3, none⟩ b3).setCell ⟨w.heap.size + 1, 4, none⟩ b4).setCell ⟨w.heap.size + 1, 5, none⟩ b5).heap.size u ll ∧
    OwnD ((((((w'.setCell ⟨w.heap.size + 1, 0, none⟩ b0).setCell ⟨w.heap.size + 1, 1, none⟩ b1).setCell ⟨w.heap.size + 1, 2, none⟩ b2).setCell ⟨w.heap.size + 1, 3, none⟩ b3).setCell ⟨w.heap.size + 1, 4, none⟩ b4).setCell ⟨w.heap.size + 1, 5, none⟩ b5) w.heap.size g F ∧
    Below w.heap.size w ((((((w'.setCell ⟨w.heap.size + 1, 0, none⟩ b0).setCell ⟨w.heap.size + 1, 1, none⟩ b1).setCell ⟨w.heap.size + 1, 2, none⟩ b2).setCell ⟨w.heap.size + 1, 3, none⟩ b3).setCell ⟨w.heap.size + 1, 4, none⟩ b4).setCell ⟨w.heap.size + 1, 5, none⟩ b5) := by
  have hs := fun (Y : Nat) => six_same (B := w.heap.size + 2) (C := Y) w' (p := w.heap.size + 1) b0 b1 b2 b3 b4 b5 (.inl (by omega))
  exact ⟨(ho.same (hs C)).base (by omega) (by simpa using hC), ((hd.range.same (hs w'.heap.size)).1).base (by omega), six_below _ _ _ _ _ _ hb (by omega)⟩
section
set_option maxRecDepth 20000
set_option maxHeartbeats 3200000
theorem l8Copy_any (c m at_ t : Int) (v f : Value) (ll : List (List Int)) (F : List (Int × Int)) (w : World) (hr : ReadSS w v ll) (hl : ll.length ≤ 1048576) (ht : ∀ i, i < ll.length → (ll.getD i []).length ≤ 1048576) (hf : ReadD w f F) (hF : F.length ≤ 1048576) :
    Calls Tryz.prog 31 #[srcV c v m at_ f t] w (RetSW c m at_ t ll F w) := by
  obtain ⟨i0, hi, hz0, hz1, hz2⟩ := info_parts infoDp
  have HI : Hid (_ ∧ _ ∧ _ ∧ _) := Lib.hid ⟨hi, hz0, hz1, hz2⟩
  clear hi hz0 hz1 hz2
  have HT := Lib.hid (fun w' (hb : Below w.heap.size w w') => l3Copy_any c v ll w' (hr.kept hb) hl ht)
  have HRF := Lib.hid (fun w' (hb : Below w.heap.size w w') => hf.kept hb)
  obtain ⟨a, cap, rfl, -⟩ := hr
  obtain ⟨af, capf, rfl, -⟩ := hf
  obtain ⟨hx, hy, hb⟩ := SBI.pair w (.int .i64 c) (.slice a ll.length cap) (.int .i64 m) (.int .i64 at_) (.slice af F.length capf) (.int .i64 t) (.int .i64 0) (.slice none 0 0) (.int .i64 0) (.int .i64 0) (.slice none 0 0) (.int .i64 0)
  have HX := Lib.hid hx
  have HY := Lib.hid hy
  have HB := Lib.hid hb
  obtain ⟨⟨c0, c1, c2, c3, c4, c5⟩, -⟩ := HX.out.cells
  unfold srcV
  clear hx hy hb ht
  go_enter Tryz.func31, Tryz.ntmps31
  go_wp2_with fail
  refine wp_region_noPanic ?_
  refine wp_region_held_drew (S := (fun w' => ((w'.cell? ⟨w.heap.size, 0, none⟩ = some (.int .i64 c) ∧ w'.cell? ⟨w.heap.size, 1, none⟩ = some (.slice a ll.length cap)) ∧ (w'.cell? ⟨w.heap.size, 2, none⟩ = some (.int .i64 m) ∧ w'.cell? ⟨w.heap.size, 3, none⟩ = some (.int .i64 at_)) ∧ w'.cell? ⟨w.heap.size, 4, none⟩ = some (.slice af F.length capf) ∧ w'.cell? ⟨w.heap.size, 5, none⟩ = some (.int .i64 t)) ∧ Below w.heap.size w w')) (by kernel_rfl) ?_ (fun hHeld => ?_)
  · ((try dsimp only); exact ⟨⟨⟨c0, c1⟩, ⟨c2, c3⟩, c4, c5⟩, HB.out.drew⟩)
  refine wpAnyH_take (i := 0) (v := ?_) rfl (by kernel_rfl) (by kernel_rfl) (by kernel_rfl) (fun _ _ _ h => h) (Or.inl ⟨by rfl, ?_⟩) (by assumption) ?_
  rotate_left
  · (intro w hSw; (try dsimp only at hSw); go_simp; (try with_reducible rfl))
  (try simp only [Act.put, List.getElem_toArray, List.getElem_cons_zero, List.setIfInBounds_toArray, List.set_cons_zero, List.set_cons_succ])
  refine wpAnyH_take (i := 1) (v := ?_) rfl (by kernel_rfl) (by kernel_rfl) (by kernel_rfl) (fun _ _ _ h => h) (Or.inl ⟨by rfl, ?_⟩) (by assumption) ?_
  rotate_left
  · (intro w hSw; (try dsimp only at hSw); go_simp; (try with_reducible rfl))
  (try simp only [Act.put, List.getElem_toArray, List.getElem_cons_succ, List.getElem_cons_zero, List.setIfInBounds_toArray, List.set_cons_zero, List.set_cons_succ])
  refine wpAnyH_take (i := 3) (v := ?_) rfl (by kernel_rfl) (by kernel_rfl) (by kernel_rfl) (fun _ _ _ h => h) (Or.inl ⟨by rfl, ?_⟩) (by assumption) ?_
  rotate_left
  · (intro w hSw; (try dsimp only at hSw); go_simp; (try with_reducible rfl))
  (try simp only [Act.put, List.getElem_toArray, List.getElem_cons_succ, List.getElem_cons_zero, List.setIfInBounds_toArray, List.set_cons_zero, List.set_cons_succ])
  refine wpAnyH_take (i := 4) (v := ?_) rfl (by kernel_rfl) (by kernel_rfl) (by kernel_rfl) (fun _ _ _ h => h) (Or.inl ⟨by rfl, ?_⟩) (by assumption) ?_
  rotate_left
  · (intro w hSw; (try dsimp only at hSw); go_simp; (try with_reducible rfl))
  (try simp only [Act.put, List.getElem_toArray, List.getElem_cons_succ, List.getElem_cons_zero, List.setIfInBounds_toArray, List.set_cons_zero, List.set_cons_succ])
  refine wpAnyH_take (i := 5) (v := ?_) rfl (by kernel_rfl) (by kernel_rfl) (by kernel_rfl) (fun _ _ _ h => h) (Or.inl ⟨by rfl, ?_⟩) (by assumption) ?_
  rotate_left
  · (intro w hSw; (try dsimp only at hSw); go_simp; (try with_reducible rfl))
  (try simp only [Act.put, List.getElem_toArray, List.getElem_cons_succ, List.getElem_cons_zero, List.setIfInBounds_toArray, List.set_cons_zero, List.set_cons_succ])
  refine wpAnyH_take (i := 6) (v := ?_) rfl (by kernel_rfl) (by kernel_rfl) (by kernel_rfl) (fun _ _ _ h => h) (Or.inl ⟨by rfl, ?_⟩) (by assumption) ?_
  rotate_left
  · (intro w hSw; (try dsimp only at hSw); go_simp; (try with_reducible rfl))
  (try simp only [Act.put, List.getElem_toArray, List.getElem_cons_succ, List.getElem_cons_zero, List.setIfInBounds_toArray, List.set_cons_zero, List.set_cons_succ])
  refine wpAnyH_take (i := 8) (v := ?_) rfl (by kernel_rfl) (by kernel_rfl) (by kernel_rfl) (fun _ _ _ h => h) (Or.inl ⟨by rfl, ?_⟩) (by assumption) ?_
  rotate_left
  · (intro w hSw; (try dsimp only at hSw); go_simp; (try with_reducible rfl))
  (try simp only [Act.put, List.getElem_toArray, List.getElem_cons_succ, List.getElem_cons_zero, List.setIfInBounds_toArray, List.set_cons_zero, List.set_cons_succ])
  refine wpAnyH_take (i := 9) (v := ?_) rfl (by kernel_rfl) (by kernel_rfl) (by kernel_rfl) (fun _ _ _ h => h) (Or.inl ⟨by rfl, ?_⟩) (by assumption) ?_
  rotate_left
  · (intro w hSw; (try dsimp only at hSw); go_simp; (try with_reducible rfl))
  (try simp only [Act.put, List.getElem_toArray, List.getElem_cons_succ, List.getElem_cons_zero, List.setIfInBounds_toArray, List.set_cons_zero, List.set_cons_succ])
  refine wpAnyH_take (i := 11) (v := ?_) rfl (by kernel_rfl) (by kernel_rfl) (by kernel_rfl) (fun _ _ _ h => h) (Or.inl ⟨by rfl, ?_⟩) (by assumption) ?_
  rotate_left
  · (intro w hSw; (try dsimp only at hSw); go_simp; (try with_reducible rfl))
  (try simp only [Act.put, List.getElem_toArray, List.getElem_cons_succ, List.getElem_cons_zero, List.setIfInBounds_toArray, List.set_cons_zero, List.set_cons_succ])
  refine wpAnyH_take (i := 12) (v := ?_) rfl (by kernel_rfl) (by kernel_rfl) (by kernel_rfl) (fun _ _ _ h => h) (Or.inl ⟨by rfl, ?_⟩) (by assumption) ?_
  rotate_left
  · (intro w hSw; (try dsimp only at hSw); go_simp; (try with_reducible rfl))
  (try simp only [Act.put, List.getElem_toArray, List.getElem_cons_succ, List.getElem_cons_zero, List.setIfInBounds_toArray, List.set_cons_zero, List.set_cons_succ])
  refine wpAnyH_ready (rs := [2, 7]) (by kernel_rfl) (by simp) (AllReadyH.cons rfl (fun K hK => ?_) (AllReadyH.cons rfl (fun K hK => ?_) AllReadyH.nil))
  · (first | (go_at_call 47; refine (HT.out _ hHeld.2).mono ?_; rintro e w91 ⟨u, rfl, ou, b91⟩; have B91 := Lib.hid b91; have OU := Lib.hid ou; clear b91 ou; obtain ⟨au, capu, hu, -⟩ := OU.out.read; subst hu; have OZ0 : Hid (w.heap.size + 2 ≤ w91.heap.size) := Lib.hid (by have := B91.out.size; simp at this; omega); have HY1 := Lib.hid (HY.out.kept (Below.drewL B91.out))) | (go_simp; (go_at_call 47; refine (HT.out _ hHeld.2).mono ?_; rintro e w91 ⟨u, rfl, ou, b91⟩; have B91 := Lib.hid b91; have OU := Lib.hid ou; clear b91 ou; obtain ⟨au, capu, hu, -⟩ := OU.out.read; subst hu; have OZ0 : Hid (w.heap.size + 2 ≤ w91.heap.size) := Lib.hid (by have := B91.out.size; simp at this; omega); have HY1 := Lib.hid (HY.out.kept (Below.drewL B91.out)))))
    (try (go_wp2_with fail))
    refine hK.out _ _ ?_ (fun hHeld => ?_)
    · ((try dsimp only); exact keepS hHeld B91.out)
    clear hK K
    (try simp only [Act.put, List.getElem_toArray, List.getElem_cons_succ, List.getElem_cons_zero, List.setIfInBounds_toArray, List.set_cons_zero, List.set_cons_succ])
    have OE := Lib.hid (own_made w91 (w.heap.size + 2) 38 2 OZ0.out)
    have OZ : Hid (w.heap.size + 2 ≤ (w91.alloc (.cells #[] 38)).heap.size) := Lib.hid (by rw [World.size_alloc]; have := OZ0.out; omega)
    refine wpAnyH_ready (rs := [7]) (by kernel_rfl) (by simp) (AllReadyH.cons rfl (fun K hK => ?_) AllReadyH.nil)
    go_simp
    refine hK.out _ _ ?_ (fun hHeld => ?_)
    · ((try dsimp only); exact keepS hHeld ((Below.refl _ _).alloc (Nat.le_refl _) _))
    clear hK K
    (try simp only [Act.put, List.getElem_toArray, List.getElem_cons_succ, List.getElem_cons_zero, List.setIfInBounds_toArray, List.set_cons_zero, List.set_cons_succ])
    refine wpAnyH_ready (rs := [10]) (by kernel_rfl) (by simp) (AllReadyH.cons rfl (fun K hK => ?_) AllReadyH.nil)
    (refine step_append_all (by rfl) _ _ _ (by rfl) (w.heap.size + 2) 38 i0 (.agg #[.int .i64 0, .int .i64 0]) 2 16 Tryz.underlying27 HI.out.1 HI.out.2.1 HI.out.2.2.1 HI.out.2.2.2 rfl (by decide) _ _ _ (by rfl) OE.out af F.length capf (depsV F) (by rfl) (by rw [depsV_len]) (newsD (HRF.out _ hHeld.2)) (depsV_one _) (by unfold maxLen; omega) (by omega) OZ.out ?_; intro v92 w92 hown92 hgrow92; have OG : Hid (OwnD w92 (w.heap.size + 2) v92 F) := Lib.hid (by unfold OwnD; simpa using hown92); have GR := Lib.hid hgrow92; obtain ⟨a92, c92, hv92⟩ := OG.out.shape; subst hv92; have HBX : Hid (∀ k, k < w.heap.size + 2 → w92.heap[k]? = _) := Lib.hid (fun k hk => hgrow92.block k (Nat.lt_of_lt_of_le hk OZ.out) (fun e => by have := (World.ownsRow.lt OE.out _ e.symm).1; omega)); clear hown92 hgrow92; have HSS : Hid (OwnSS w92 (w.heap.size + 2) w91.heap.size (.slice au ll.length capu) ll) := Lib.hid ((OU.out.same (fun k _ hk => (GR.out.block k (by rw [World.size_alloc]; omega) (fun e => by cases e; exact absurd hk (Nat.lt_irrefl _))).trans (Below.heap_alloc _ _ _ (by omega)))).base (by simp) (Nat.le_refl _)); have HDD := Lib.hid OG.out; have HCC : Hid (w91.heap.size ≤ w92.heap.size) := Lib.hid (Nat.le_trans (by simp) GR.out.size); have HYF : Hid (SBI w92 (w.heap.size + 1) _ _ _ _ _ _) := Lib.hid ((HY1.out.kept ((Below.refl w91.heap.size w91).alloc (Nat.le_refl _) (.cells #[] 38))).eqb (HBX.out _ (by omega))); have HBB : Hid (Below w.heap.size w w92) := Lib.hid ((keepA hHeld ⟨HBX.out, GR.out⟩).2); obtain ⟨⟨d0, d1, d2, d3, d4, d5⟩, g0, g1, g2, g3, g4, g5⟩ := HYF.out.cells)
    (try (go_wp2_with fail))
    refine hK.out _ _ ?_ (fun hHeld => ?_)
    · ((try dsimp only); exact keepA hHeld ⟨HBX.out, GR.out⟩)
    clear hK K
    (try simp only [Act.put, List.getElem_toArray, List.getElem_cons_succ, List.getElem_cons_zero, List.setIfInBounds_toArray, List.set_cons_zero, List.set_cons_succ])
    refine wpAnyH_take (i := 13) (v := ?_) rfl (by kernel_rfl) (by kernel_rfl) (by kernel_rfl) (fun _ _ _ h => h) (Or.inl ⟨by rfl, ?_⟩) (by assumption) ?_
    rotate_left
    · (intro w hSw; (try dsimp only at hSw); go_simp; (try with_reducible rfl))
    (try simp only [Act.put, List.getElem_toArray, List.getElem_cons_succ, List.getElem_cons_zero, List.setIfInBounds_toArray, List.set_cons_zero, List.set_cons_succ])
    refine wpAnyH_ready (rs := [14]) (by kernel_rfl) (by simp) (AllReadyH.cons rfl (fun K hK => ?_) AllReadyH.nil)
    go_simp
    refine hK.out _ _ ?_ (fun hHeld => ?_)
    · ((try dsimp only); exact keepSix hHeld (w.heap.size + 1) (by omega) (by omega) _ _ _ _ _ _)
    clear hK K
    (try simp only [Act.put, List.getElem_toArray, List.getElem_cons_succ, List.getElem_cons_zero, List.setIfInBounds_toArray, List.set_cons_zero, List.set_cons_succ])
    refine wpAnyH_done (by kernel_rfl) ?_ _
    refine NoPanic.normal ?_
    have HFN := Lib.hid (sea_fin2 HSS.out HDD.out HBB.out HCC.out (.int .i64 c) (.slice au ll.length capu) (.int .i64 m) (.int .i64 at_) (.slice a92 F.length c92) (.int .i64 t))
    clear c0 c1 c2 c3 c4 c5 hHeld
    go_wp2_with fail
    exact bodyPost_ret (v := srcV c (.slice au ll.length capu) m at_ (.slice a92 F.length c92) t) (by simp [srcV, results, Tryz.results31, go_sem, d0, d1, d2, d3, d4, d5]) rfl ⟨_, _, rfl, HFN.out⟩
  · go_simp
    refine hK.out _ _ ?_ (fun hHeld => ?_)
    · ((try dsimp only); exact keepS hHeld ((Below.refl _ _).alloc (Nat.le_refl _) _))
    clear hK K
    (try simp only [Act.put, List.getElem_toArray, List.getElem_cons_succ, List.getElem_cons_zero, List.setIfInBounds_toArray, List.set_cons_zero, List.set_cons_succ])
    have OZ0 : Hid (w.heap.size + 2 ≤ (World.drew ((w.alloc (.cells #[.int .i64 c, .slice a ll.length cap, .int .i64 m, .int .i64 at_, .slice af F.length capf, .int .i64 t] 29)).alloc (.cells #[.int .i64 0, .slice none 0 0, .int .i64 0, .int .i64 0, .slice none 0 0, .int .i64 0] 29))).heap.size) := Lib.hid (by simp)
    have OE0 : Hid (((World.drew ((w.alloc (.cells #[.int .i64 c, .slice a ll.length cap, .int .i64 m, .int .i64 at_, .slice af F.length capf, .int .i64 t] 29)).alloc (.cells #[.int .i64 0, .slice none 0 0, .int .i64 0, .int .i64 0, .slice none 0 0, .int .i64 0] 29))).alloc (.cells #[] 38)).ownsRow (w.heap.size + 2) 38 2 (.slice (some ⟨w.heap.size + 1 + 1, 0, none⟩) 0 0) 0 []) := Lib.hid (by have h := own_made (World.drew ((w.alloc (.cells #[.int .i64 c, .slice a ll.length cap, .int .i64 m, .int .i64 at_, .slice af F.length capf, .int .i64 t] 29)).alloc (.cells #[.int .i64 0, .slice none 0 0, .int .i64 0, .int .i64 0, .slice none 0 0, .int .i64 0] 29))) (w.heap.size + 2) 38 2 OZ0.out; rw [show (World.drew ((w.alloc (.cells #[.int .i64 c, .slice a ll.length cap, .int .i64 m, .int .i64 at_, .slice af F.length capf, .int .i64 t] 29)).alloc (.cells #[.int .i64 0, .slice none 0 0, .int .i64 0, .int .i64 0, .slice none 0 0, .int .i64 0] 29))).heap.size = w.heap.size + 1 + 1 from by simp] at h; exact h)
    have HY1 := Lib.hid (HY.out.kept (Below.drewL ((Below.refl _ _).alloc (Nat.le_refl _) (.cells #[] 38))))
    refine wpAnyH_ready (rs := [2]) (by kernel_rfl) (by simp) (AllReadyH.cons rfl (fun K hK => ?_) AllReadyH.nil)
    (first | (go_at_call 47; refine (HT.out _ hHeld.2).mono ?_; rintro e w91 ⟨u, rfl, ou, b91⟩; have B91 := Lib.hid b91; have OU := Lib.hid ou; clear b91 ou; obtain ⟨au, capu, hu, -⟩ := OU.out.read; subst hu; have OE := Lib.hid (ownsRow_below OE0.out B91.out); have OZ : Hid (w.heap.size + 2 ≤ w91.heap.size) := Lib.hid (by have := B91.out.size; simp at this; omega); have HY2 := Lib.hid (HY1.out.kept B91.out)) | (go_simp; (go_at_call 47; refine (HT.out _ hHeld.2).mono ?_; rintro e w91 ⟨u, rfl, ou, b91⟩; have B91 := Lib.hid b91; have OU := Lib.hid ou; clear b91 ou; obtain ⟨au, capu, hu, -⟩ := OU.out.read; subst hu; have OE := Lib.hid (ownsRow_below OE0.out B91.out); have OZ : Hid (w.heap.size + 2 ≤ w91.heap.size) := Lib.hid (by have := B91.out.size; simp at this; omega); have HY2 := Lib.hid (HY1.out.kept B91.out))))
    (try (go_wp2_with fail))
    refine hK.out _ _ ?_ (fun hHeld => ?_)
    · ((try dsimp only); exact keepS hHeld B91.out)
    clear hK K
    (try simp only [Act.put, List.getElem_toArray, List.getElem_cons_succ, List.getElem_cons_zero, List.setIfInBounds_toArray, List.set_cons_zero, List.set_cons_succ])
    refine wpAnyH_ready (rs := [10]) (by kernel_rfl) (by simp) (AllReadyH.cons rfl (fun K hK => ?_) AllReadyH.nil)
    (refine step_append_all (by rfl) _ _ _ (by rfl) (w.heap.size + 2) 38 i0 (.agg #[.int .i64 0, .int .i64 0]) 2 16 Tryz.underlying27 HI.out.1 HI.out.2.1 HI.out.2.2.1 HI.out.2.2.2 rfl (by decide) _ _ _ (by rfl) OE.out af F.length capf (depsV F) (by rfl) (by rw [depsV_len]) (newsD (HRF.out _ hHeld.2)) (depsV_one _) (by unfold maxLen; omega) (by omega) OZ.out ?_; intro v92 w92 hown92 hgrow92; have OG : Hid (OwnD w92 (w.heap.size + 2) v92 F) := Lib.hid (by unfold OwnD; simpa using hown92); have GR := Lib.hid hgrow92; obtain ⟨a92, c92, hv92⟩ := OG.out.shape; subst hv92; have HBX : Hid (∀ k, k < w.heap.size + 2 → w92.heap[k]? = _) := Lib.hid (fun k hk => hgrow92.block k (Nat.lt_of_lt_of_le hk OZ.out) (fun e => by have := (World.ownsRow.lt OE.out _ e.symm).1; omega)); clear hown92 hgrow92; have HSS : Hid (OwnSS w92 (w.heap.size + 2) w91.heap.size (.slice au ll.length capu) ll) := Lib.hid ((OU.out.same (fun k hk1 hk => GR.out.block k hk (fun e => by have e2 : k = w.heap.size + 1 + 1 := Option.some.inj e; simp at hk1; omega))).base (by simp) (Nat.le_refl _)); have HDD := Lib.hid OG.out; have HCC : Hid (w91.heap.size ≤ w92.heap.size) := Lib.hid (Nat.le_trans (by simp) GR.out.size); have HYF : Hid (SBI w92 (w.heap.size + 1) _ _ _ _ _ _) := Lib.hid (HY2.out.eqb (HBX.out _ (by omega))); have HBB : Hid (Below w.heap.size w w92) := Lib.hid ((keepA hHeld ⟨HBX.out, GR.out⟩).2); obtain ⟨⟨d0, d1, d2, d3, d4, d5⟩, g0, g1, g2, g3, g4, g5⟩ := HYF.out.cells)
    (try (go_wp2_with fail))
    refine hK.out _ _ ?_ (fun hHeld => ?_)
    · ((try dsimp only); exact keepA hHeld ⟨HBX.out, GR.out⟩)
    clear hK K
    (try simp only [Act.put, List.getElem_toArray, List.getElem_cons_succ, List.getElem_cons_zero, List.setIfInBounds_toArray, List.set_cons_zero, List.set_cons_succ])
    refine wpAnyH_take (i := 13) (v := ?_) rfl (by kernel_rfl) (by kernel_rfl) (by kernel_rfl) (fun _ _ _ h => h) (Or.inl ⟨by rfl, ?_⟩) (by assumption) ?_
    rotate_left
    · (intro w hSw; (try dsimp only at hSw); go_simp; (try with_reducible rfl))
    (try simp only [Act.put, List.getElem_toArray, List.getElem_cons_succ, List.getElem_cons_zero, List.setIfInBounds_toArray, List.set_cons_zero, List.set_cons_succ])
    refine wpAnyH_ready (rs := [14]) (by kernel_rfl) (by simp) (AllReadyH.cons rfl (fun K hK => ?_) AllReadyH.nil)
    go_simp
    refine hK.out _ _ ?_ (fun hHeld => ?_)
    · ((try dsimp only); exact keepSix hHeld (w.heap.size + 1) (by omega) (by omega) _ _ _ _ _ _)
    clear hK K
    (try simp only [Act.put, List.getElem_toArray, List.getElem_cons_succ, List.getElem_cons_zero, List.setIfInBounds_toArray, List.set_cons_zero, List.set_cons_succ])
    refine wpAnyH_done (by kernel_rfl) ?_ _
    refine NoPanic.normal ?_
    have HFN := Lib.hid (sea_fin2 HSS.out HDD.out HBB.out HCC.out (.int .i64 c) (.slice au ll.length capu) (.int .i64 m) (.int .i64 at_) (.slice a92 F.length c92) (.int .i64 t))
    clear c0 c1 c2 c3 c4 c5 hHeld
    go_wp2_with fail
    exact bodyPost_ret (v := srcV c (.slice au ll.length capu) m at_ (.slice a92 F.length c92) t) (by simp [srcV, results, Tryz.results31, go_sem, d0, d1, d2, d3, d4, d5]) rfl ⟨_, _, rfl, HFN.out⟩
end
section
set_option maxRecDepth 20000
set_option maxHeartbeats 1600000
theorem newSearch8_any (c m : Int) (v : Value) (ll : List (List Int)) (w : World) (hr : ReadSS w v ll) (hl : ll.length ≤ 1048576) (ht : ∀ i, i < ll.length → (ll.getD i []).length ≤ 1048576) :
    Calls Tryz.prog 22 #[.agg #[.int .i64 c, v], .int .i64 m] w (RetSeaB (nsC c ll m) (nsM c ll m) 0 0 (nsL c ll m) [] (fineT c ll m) w) := by
  have HF := Lib.hid (fun w' (hb : Below w.heap.size w w') => l4Fine_any c m v ll w' (hr.kept hb) hl ht)
  have HT := Lib.hid (fun w' (hb : Below w.heap.size w w') => l3Copy_any c v ll w' (hr.kept hb) hl ht)
  obtain ⟨a, cap, rfl, -⟩ := hr
  have hb1 := (Below.refl w.heap.size w).alloc (Nat.le_refl _) (.cells #[.int .i64 c, .slice a ll.length cap] 26)
  have h12 := (Below.refl (w.alloc (.cells #[.int .i64 c, .slice a ll.length cap] 26)).heap.size _).alloc (Nat.le_refl _) (.cells #[.int .i64 0, .slice none 0 0, .int .i64 0, .int .i64 0, .slice none 0 0, .int .i64 0] 29)
  have HB := Lib.hid (hb1.trans (h12.mono hb1.size))
  have hy := SBI.new (w.alloc (.cells #[.int .i64 c, .slice a ll.length cap] 26)) (.int .i64 0) (.slice none 0 0) (.int .i64 0) (.int .i64 0) (.slice none 0 0) (.int .i64 0)
  rw [World.size_alloc] at hy
  have HY := Lib.hid hy
  have c0 := cell_inB (zero2 w 26 (.int .i64 c) (.slice a ll.length cap)).1 h12
  have c1 := cell_inB (zero2 w 26 (.int .i64 c) (.slice a ll.length cap)).2 h12
  have C0 := Lib.hid c0
  have C1 := Lib.hid c1
  clear hb1 h12 hy ht
  cases hf : fineT c ll m with
  | false =>
    have H1 : Hid (nsC c ll m = 0) := Lib.hid (by unfold nsC; rw [hf]; rfl)
    have H2 : Hid (nsM c ll m = 0) := Lib.hid (by unfold nsM; rw [hf]; rfl)
    have H3 : Hid (nsL c ll m = []) := Lib.hid (by unfold nsL; rw [hf]; rfl)
    rw [hf] at HF
    rw [H1.out, H2.out, H3.out]
    clear hf H1 H2 H3
    go_enter Tryz.func22, Tryz.ntmps22
    go_wp2_with fail
    refine (HF.out _ HB.out).mono ?_
    rintro e w1 ⟨rfl, b1⟩
    have hb2 := HB.out.trans (b1.mono HB.out.size)
    have hy1 := HY.out.kept b1
    have hlt := hy1.lt
    obtain ⟨⟨d0, d1, d2, d3, d4, d5⟩, g0, g1, g2, g3, g4, g5⟩ := hy1.cells
    have HB5 := Lib.hid (six_below (p := w.heap.size + 1) (.int .i64 0) (.slice none 0 0) (.int .i64 0) (.int .i64 0) (.slice none 0 0) (.int .i64 0) hb2 (by simp))
    clear b1 hb2 hy1 c0 c1
    go_wp2_with fail
    exact bodyPost_ret (v := .tuple #[srcV 0 (.slice none 0 0) 0 0 (.slice none 0 0) 0, .bool false]) (by simp [srcV, results, Tryz.results22, go_sem, d0, d1, d2, d3, d4, d5]) rfl ⟨_, _, w1.heap.size, rfl, OwnSS.nil _ _ _, OwnD.nil _ _, by omega, by simp, HB5.out⟩
  | true =>
    have H1 : Hid (nsC c ll m = c) := Lib.hid (by unfold nsC; rw [hf]; rfl)
    have H2 : Hid (nsM c ll m = m) := Lib.hid (by unfold nsM; rw [hf]; rfl)
    have H3 : Hid (nsL c ll m = ll) := Lib.hid (by unfold nsL; rw [hf]; rfl)
    rw [hf] at HF
    rw [H1.out, H2.out, H3.out]
    clear hf H1 H2 H3
    go_enter Tryz.func22, Tryz.ntmps22
    go_wp2_with fail
    refine (HF.out _ HB.out).mono ?_
    rintro e w1 ⟨rfl, b1⟩
    have HB2 := Lib.hid (HB.out.trans (b1.mono HB.out.size))
    have HY1 := Lib.hid (HY.out.kept b1)
    have e0 := cell_inB C0.out b1
    have e1 := cell_inB C1.out b1
    clear b1 c0 c1
    go_wp2_with fail
    refine (HT.out _ HB2.out).mono ?_
    rintro e w2 ⟨u, rfl, ou, b2⟩
    have hb3 := HB2.out.trans (b2.mono HB2.out.size)
    have hy2 := HY1.out.kept b2
    have hlt := HY1.out.lt
    obtain ⟨au, capu, rfl, -⟩ := ou.read
    obtain ⟨⟨d0, d1, d2, d3, d4, d5⟩, g0, g1, g2, g3, g4, g5⟩ := hy2.cells
    have HB5 := Lib.hid (six_below (p := w.heap.size + 1) (.int .i64 c) (.slice au ll.length capu) (.int .i64 m) (.int .i64 0) (.slice none 0 0) (.int .i64 0) hb3 (by simp))
    have HOU := Lib.hid ((ou.same (six_same w2 (p := w.heap.size + 1) (.int .i64 c) (.slice au ll.length capu) (.int .i64 m) (.int .i64 0) (.slice none 0 0) (.int .i64 0) (.inl hlt))).base (B' := w.heap.size) (C' := w2.heap.size) HB2.out.size (Nat.le_refl _))
    have HS3 := Lib.hid hb3.size
    clear b2 hb3 hy2 e0 e1 ou
    go_wp2_with fail
    exact bodyPost_ret (v := .tuple #[srcV c (.slice au ll.length capu) m 0 (.slice none 0 0) 0, .bool true]) (by simp [srcV, results, Tryz.results22, go_sem, d0, d1, d2, d3, d4, d5]) rfl ⟨_, _, w2.heap.size, rfl, HOU.out, OwnD.nil _ _, HS3.out, by simp, HB5.out⟩
end
end Go.Proofs.YtjfllfancgmalaaGreat
