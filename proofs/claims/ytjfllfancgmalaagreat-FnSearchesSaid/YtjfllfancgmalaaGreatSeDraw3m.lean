/- The draws of chapter 8's law, by contract. Conditions: the code is a readable slice of at most 1048576 bytes. -/
import Derived.Test.YtjfllfancgmalaaGreatSeDraw2m
import Derived.Test.YtjfllfancgmalaaGreatSc34
namespace Go.Proofs.YtjfllfancgmalaaGreat
open Go.RowKit

/-- The state of a draw: the result's box, the search's box T, its table, what it found, the cursor. -/
structure D8 (W : World) (v : Value) (n c : Nat) (w : World) (B T : Nat) (cc m at_ t : Int) (u g : Value) (ll : List (List Int)) (F : List (Int × Int)) (a0 a1 a2 a3 a4 a5 : Value) (x : World) : Prop where
  z : SBI x w.heap.size a0 a1 a2 a3 a4 a5
  b : SBI x T (.int .i64 cc) u (.int .i64 m) (.int .i64 at_) g (.int .i64 t)
  s : OwnSS x B x.heap.size u ll
  d : OwnD x B g F
  bl : Below w.heap.size w x
  cr : Cur W v n c x
  e1 : w.heap.size < c
  e2 : c < B
  e3 : B ≤ T
  e4 : W.heap.size ≤ w.heap.size
section
variable {W w x y : World} {v : Value} {n c B T : Nat} {cc m at_ t : Int} {u g a0 a1 a2 a3 a4 a5 : Value} {ll : List (List Int)} {F : List (Int × Int)}
theorem D8.grown (h : D8 W v n c w B T cc m at_ t u g ll F a0 a1 a2 a3 a4 a5 x) (hg : x.grownBy y (some c)) (hc : Cur W v n c y) : D8 W v n c w B T cc m at_ t u g ll F a0 a1 a2 a3 a4 a5 y :=
  ⟨h.z.eqb (hg.block _ h.z.lt (by have := h.e1; simp; omega)), h.b.eqb (hg.block _ h.b.lt (by have := h.e2; have := h.e3; simp; omega)),
   (h.s.same (same_grown hg (Nat.le_refl _) h.e2)).base (Nat.le_refl _) hg.size,
   h.d.same (fun q hq => hg.block q (h.d.lt q hq).2 (by have := (h.d.lt q hq).1; have := h.e2; simp; omega)), h.bl.grown hg h.bl.size (fun k e => by cases e; exact Nat.le_of_lt h.e1), hc, h.e1, h.e2, h.e3, h.e4⟩
theorem D8.still (h : D8 W v n c w B T cc m at_ t u g ll F a0 a1 a2 a3 a4 a5 x) (hb : Below x.heap.size x y) : D8 W v n c w B T cc m at_ t u g ll F a0 a1 a2 a3 a4 a5 y :=
  h.grown ⟨hb.os, hb.tape, hb.output, hb.size, fun j hj _ => hb.block j hj⟩ (h.cr.kept (grown_belowN hb) (by simp) (by simp))
/-- The result's box is written. -/
theorem D8.put0 (h : D8 W v n c w B T cc m at_ t u g ll F a0 a1 a2 a3 a4 a5 x) (b0 b1 b2 b3 b4 b5 : Value) :
    D8 W v n c w B T cc m at_ t u g ll F b0 b1 b2 b3 b4 b5 ((((((x.setCell ⟨w.heap.size, 0, none⟩ b0).setCell ⟨w.heap.size, 1, none⟩ b1).setCell ⟨w.heap.size, 2, none⟩ b2).setCell ⟨w.heap.size, 3, none⟩ b3).setCell ⟨w.heap.size, 4, none⟩ b4).setCell ⟨w.heap.size, 5, none⟩ b5) := by
  have h1 := h.e1
  have h2 := h.e2
  have h3 := h.e3
  have h4 := h.e4
  have hs := fun (Y : Nat) => six_same (B := B) (C := Y) x (p := w.heap.size) b0 b1 b2 b3 b4 b5 (.inl (by omega))
  have cs : ∀ {b : World} (o : Nat) (k : Value), Cur W v n c b → Cur W v n c (b.setCell ⟨w.heap.size, o, none⟩ k) := fun o k hc => hc.set (p := ⟨w.heap.size, o, none⟩) h4 (by show w.heap.size ≠ c; omega) k
  have bs : ∀ {b : World} (o : Nat) (k : Value), Below w.heap.size w b → Below w.heap.size w (b.setCell ⟨w.heap.size, o, none⟩ k) := fun o k hb => hb.setCell (p := ⟨w.heap.size, o, none⟩) (Nat.le_refl _) k
  exact ⟨h.z.six, h.b.eqb (six_off _ _ _ _ _ _ _ _ (by omega)), (h.s.same (hs x.heap.size)).base (Nat.le_refl _) (by simp), (h.d.range.same (hs x.heap.size)).1, bs 5 _ (bs 4 _ (bs 3 _ (bs 2 _ (bs 1 _ (bs 0 _ h.bl))))), cs 5 _ (cs 4 _ (cs 3 _ (cs 2 _ (cs 1 _ (cs 0 _ h.cr))))), h1, h2, h3, h4⟩
end
theorem pk5 (y : World) (L : Nat) (x1 x2 x3 x4 x5 : Int) (t : TypeId) (h : y.heap[L]? = some (.cells #[.int .i64 x1, .int .i64 x2, .int .i64 x3, .int .i64 x4, .int .i64 x5] t (0, 0))) (h1 : -1 ≤ x1 ∧ x1 ≤ 200) (h2 : -1 ≤ x2 ∧ x2 ≤ 200) (h3 : -1 ≤ x3 ∧ x3 ≤ 200) (h4 : -1 ≤ x4 ∧ x4 ≤ 200) (h5 : -1 ≤ x5 ∧ x5 ≤ 200) :
    ∀ i, i < 5 → ∃ k : Int, -1 ≤ k ∧ k ≤ 200 ∧ y.cell? ⟨L, i, none⟩ = some (.int .i64 k) := by
  intro i hi
  rw [cell_of_row y L i _ _ _ h]
  rcases (show i = 0 ∨ i = 1 ∨ i = 2 ∨ i = 3 ∨ i = 4 by omega) with rfl | rfl | rfl | rfl | rfl
  · exact ⟨_, h1.1, h1.2, rfl⟩
  · exact ⟨_, h2.1, h2.2, rfl⟩
  · exact ⟨_, h3.1, h3.2, rfl⟩
  · exact ⟨_, h4.1, h4.2, rfl⟩
  · exact ⟨_, h5.1, h5.2, rfl⟩
theorem rsF_few (c : Int) (ll : List (List Int)) (m at_ : Int) (F : List (Int × Int)) (t b : Int) (hF : F.length ≤ 200) : (rsF c ll m at_ F t b).length ≤ 200 := by
  by_cases hs : isSB c ll m at_ F t = true
  · have h := rsF_small c ll m at_ [] t b (Nat.zero_le _)
    obtain ⟨C, K, n, rfl, rfl, rfl, hC1, hC5, hK, hN, hf, hrep⟩ := isSB_all hs
    have h1 := (repN_len C ll m (rnK (C : Int) ll m (K : Int) (n : Int) b)).1
    have h2 := (goN_le (C := C) (ll := ll) (m := m) (t0 := (n : Int)) (E := ((C * 2 ^ C : Nat) : Int)) (b := b) (C * 2 ^ C - K) K).2
    have h3 : rnK (C : Int) ll m (K : Int) (n : Int) b = goN C ll m (n : Int) ((C * 2 ^ C : Nat) : Int) b (C * 2 ^ C - K) K := rfl
    unfold rsF
    rw [if_pos hs, show ((C : Int)).toNat = C from rfl]
    omega
  · unfold rsF
    rw [if_neg hs]
    exact hF
/-- What the draws return: a search, perhaps with a number. -/
def DrawSI (w : World) (e : Ending) (w' : World) : Prop :=
  ∃ (cc m at_ t : Int) (u g : Value) (ll : List (List Int)) (F : List (Int × Int)) (q : Int), -1 ≤ q ∧ q ≤ 200 ∧ e = .returned (.tuple #[srcV cc u m at_ g t, .int .i64 q]) ∧ ll.length ≤ 20 ∧ (∀ r ∈ ll, r.length ≤ 10) ∧ F.length ≤ 200 ∧ ReadSS w' u ll ∧ ReadD w' g F ∧ Below w.heap.size w w'
def DrawSea (w : World) (e : Ending) (w' : World) : Prop :=
  ∃ (cc m at_ t : Int) (u g : Value) (ll : List (List Int)) (F : List (Int × Int)), e = .returned (srcV cc u m at_ g t) ∧ ll.length ≤ 20 ∧ (∀ r ∈ ll, r.length ≤ 10) ∧ F.length ≤ 200 ∧ ReadSS w' u ll ∧ ReadD w' g F ∧ Below w.heap.size w w'
def DrawTI (w : World) (e : Ending) (w' : World) : Prop :=
  ∃ (cc : Int) (u : Value) (ll : List (List Int)) (q : Int), -1 ≤ q ∧ q ≤ 2 ∧ e = .returned (.tuple #[.agg #[.int .i64 cc, u], .int .i64 q]) ∧ ll.length ≤ 20 ∧ (∀ r ∈ ll, r.length ≤ 10) ∧ ReadSS w' u ll ∧ Below w.heap.size w w'
section
set_option maxRecDepth 20000
set_option maxHeartbeats 3200000
theorem drawRunSearch_any (W : World) (v : Value) (n : Nat) (hn : n ≤ 1048576) (hcode : CodeAt W v n) (w : World) (hb : Below W.heap.size W w) :
    Calls Tryz.prog 5 #[v] w (DrawSI w) := by
  have hz0 := SBI.new w (.int .i64 0) (.slice none 0 0) (.int .i64 0) (.int .i64 0) (.slice none 0 0) (.int .i64 0)
  have hg0 : w.grownBy (w.alloc (.cells #[.int .i64 0, .slice none 0 0, .int .i64 0, .int .i64 0, .slice none 0 0, .int .i64 0] 29)) none := World.grownBy_alloc w _ _
  have hbs := hb.size
  have H1 := Lib.hid (new_any W v n hn hcode _ (hb.alloc hb.size (.cells #[.int .i64 0, .slice none 0 0, .int .i64 0, .int .i64 0, .slice none 0 0, .int .i64 0] 29)))
  have H2 := Lib.hid (search8_any W v n hn hcode)
  have HPI := Lib.hid (pick_any W v n hn hcode)
  have HON := Lib.hid (once_any W v n hn hcode)
  obtain ⟨a, cap, rfl⟩ := code_slice hcode
  go_enter Tryz.func5, Tryz.ntmps5
  go_wp2_with fail
  refine H1.out.mono ?_
  rintro e w1 ⟨c, hc, rfl, g1, hc1⟩
  go_wp2_with fail
  refine (H2.out c w1 hc1).mono ?_
  rintro e w2 ⟨cc, m, at_, t, u, g, ll, F, rfl, hll, hlr, hF, hss, hdd, g2, hc2⟩
  have s1 := g1.size
  have s2 := g2.size
  have hcw := hc1.lt
  obtain ⟨au, cu, rfl, -⟩ := hss.read
  obtain ⟨ag, cg, rfl⟩ := hdd.shape
  unfold srcV
  have HS : Hid (D8 W (.slice a n cap) n c w w1.heap.size w2.heap.size cc m at_ t (.slice au ll.length cu) (.slice ag F.length cg) ll F (.int .i64 0) (.slice none 0 0) (.int .i64 0) (.int .i64 0) (.slice none 0 0) (.int .i64 0) (w2.alloc (.cells #[.int .i64 cc, .slice au ll.length cu, .int .i64 m, .int .i64 at_, .slice ag F.length cg, .int .i64 t] 29))) := Lib.hid (by
    have hal := (Below.refl w2.heap.size w2).alloc (Nat.le_refl _) (.cells #[.int .i64 cc, .slice au ll.length cu, .int .i64 m, .int .i64 at_, .slice ag F.length cg, .int .i64 t] 29)
    have hc' : w.heap.size + 1 ≤ c := by simpa using hc
    have s1' : w.heap.size + 1 ≤ w1.heap.size := by simpa using s1
    refine ⟨(((hz0.eqb (g1.block _ (by simp) (by simp))).eqb (g2.block _ (by omega) (by simp; omega)))).kept hal, SBI.new w2 _ _ _ _ _ _, (hss.same (Below.keeps hal (Nat.le_refl _))).base (Nat.le_refl _) hal.size, hdd.below hal (fun q hq => (hdd.lt q hq).2), ?_, hc2.kept (World.grownBy_alloc w2 _ none) (by simp) (by simp), by omega, hcw, s2, hbs⟩
    exact (((Below.refl w.heap.size w).grown (grown_above (grown_trans hg0 g1) g2 (fun k e => by cases e; omega)) (Nat.le_refl _) (by simp))).trans (hal.mono (by omega)))
  have HL : Hid (ll.length ≤ 20 ∧ (∀ r ∈ ll, r.length ≤ 10) ∧ F.length ≤ 200) := Lib.hid ⟨hll, hlr, hF⟩
  clear hz0 hg0 g1 g2 hc2 hss hdd hc1 hc hll hlr hF s1 s2 hcw hbs
  go_upto_region 3 with fail
  obtain ⟨T, hT⟩ : ∃ T, T = w2.heap.size := ⟨_, rfl⟩
  obtain ⟨w3, hw3⟩ : ∃ w3, w3 = w2.alloc (.cells #[.int .i64 cc, .slice au ll.length cu, .int .i64 m, .int .i64 at_, .slice ag F.length cg, .int .i64 t] 29) := ⟨_, rfl⟩
  rw [← hw3] at HS ⊢
  rw [← hT] at HS ⊢
  clear hT hw3
  have HD := Lib.hid (HS.out.still (Below.refl _ _).drew)
  refine wp_region_noPanic ?_
  refine wp_region_held_drew (S := (fun w' => w'.cell? ⟨T, 0, none⟩ = some (.int .i64 cc) ∧ w'.cell? ⟨T, 1, none⟩ = some (.slice au ll.length cu) ∧ w'.cell? ⟨T, 2, none⟩ = some (.int .i64 m) ∧ w'.cell? ⟨T, 3, none⟩ = some (.int .i64 at_) ∧ w'.cell? ⟨T, 4, none⟩ = some (.slice ag F.length cg) ∧ w'.cell? ⟨T, 5, none⟩ = some (.int .i64 t))) (by kernel_rfl) ?_ (fun hHeld => ?_)
  · ((try dsimp only); exact HD.out.b.cells.1)
  refine wpAnyH_take (i := 0) (v := ?_) rfl (by kernel_rfl) (by kernel_rfl) (by kernel_rfl) (fun _ _ _ h => h) (Or.inl ⟨by rfl, ?_⟩) (by assumption) ?_
  rotate_left
  · (intro w hSw; (try dsimp only at hSw); go_simp; (try with_reducible rfl))
  (try simp only [Act.put, List.getElem_toArray, List.getElem_cons_zero, List.setIfInBounds_toArray, List.set_cons_zero, List.set_cons_succ])
  refine wpAnyH_take (i := 1) (v := ?_) rfl (by kernel_rfl) (by kernel_rfl) (by kernel_rfl) (fun _ _ _ h => h) (Or.inl ⟨by rfl, ?_⟩) (by assumption) ?_
  rotate_left
  · (intro w hSw; (try dsimp only at hSw); go_simp; (try with_reducible rfl))
  (try simp only [Act.put, List.getElem_toArray, List.getElem_cons_succ, List.getElem_cons_zero, List.setIfInBounds_toArray, List.set_cons_zero, List.set_cons_succ])
  refine wpAnyH_ready (rs := [2]) (by kernel_rfl) (by simp) (AllReadyH.cons rfl (fun K hK => ?_) AllReadyH.nil)
  go_simp
  have HA := Lib.hid (HD.out.still ((Below.refl _ _).alloc (Nat.le_refl _) (.cells #[.int .i64 (-1), .int .i64 0, .int .i64 1, .int .i64 5, .int .i64 200] 3)))
  refine hK.out _ _ ?_ (fun hHeld => ?_)
  · ((try dsimp only); exact HA.out.b.cells.1)
  clear hK K
  (try simp only [Act.put, List.getElem_toArray, List.getElem_cons_succ, List.getElem_cons_zero, List.setIfInBounds_toArray, List.set_cons_zero, List.set_cons_succ])
  refine wpAnyH_ready (rs := [3]) (by kernel_rfl) (by simp) (AllReadyH.cons rfl (fun K hK => ?_) AllReadyH.nil)
  (first | (go_at_call 26; refine (HPI.out c _ HA.out.cr w3.heap.size 5 (-1) 200 (by omega) (by omega) (by have := HS.out.e2; have := HS.out.e3; have := HS.out.b.lt; omega) (by simp) (pk5 _ _ _ _ _ _ _ _ (heap_alloc_new _ _) (by omega) (by omega) (by omega) (by omega) (by omega))).mono ?_; rintro e w5 ⟨y, y0, y1, rfl, g5, hc5⟩; have H5 := Lib.hid (HA.out.grown g5 hc5)) | (go_simp; go_at_call 26; refine (HPI.out c _ HA.out.cr w3.heap.size 5 (-1) 200 (by omega) (by omega) (by have := HS.out.e2; have := HS.out.e3; have := HS.out.b.lt; omega) (by simp) (pk5 _ _ _ _ _ _ _ _ (heap_alloc_new _ _) (by omega) (by omega) (by omega) (by omega) (by omega))).mono ?_; rintro e w5 ⟨y, y0, y1, rfl, g5, hc5⟩; have H5 := Lib.hid (HA.out.grown g5 hc5)))
  (try (go_wp2_with fail))
  refine hK.out _ _ ?_ (fun hHeld => ?_)
  · ((try dsimp only); exact H5.out.b.cells.1)
  clear hK K
  (try simp only [Act.put, List.getElem_toArray, List.getElem_cons_succ, List.getElem_cons_zero, List.setIfInBounds_toArray, List.set_cons_zero, List.set_cons_succ])
  obtain ⟨⟨d0, d1, d2, d3, d4, d5⟩, f0, f1, f2, f3, f4, f5⟩ := H5.out.z.cells
  have HF := Lib.hid (H5.out.put0 (.int .i64 cc) (.slice au ll.length cu) (.int .i64 m) (.int .i64 at_) (.slice ag F.length cg) (.int .i64 t))
  refine wpAnyH_ready (rs := [4]) (by kernel_rfl) (by simp) (AllReadyH.cons rfl (fun K hK => ?_) AllReadyH.nil)
  go_simp
  refine hK.out _ _ ?_ (fun hHeld => ?_)
  · ((try dsimp only); exact HF.out.b.cells.1)
  clear hK K
  (try simp only [Act.put, List.getElem_toArray, List.getElem_cons_succ, List.getElem_cons_zero, List.setIfInBounds_toArray, List.set_cons_zero, List.set_cons_succ])
  refine wpAnyH_take (i := 5) (v := ?_) rfl (by kernel_rfl) (by kernel_rfl) (by kernel_rfl) (fun _ _ _ h => h) (Or.inl ⟨by rfl, ?_⟩) (by assumption) ?_
  rotate_left
  · (intro w hSw; (try dsimp only at hSw); go_simp; (try with_reducible rfl))
  (try simp only [Act.put, List.getElem_toArray, List.getElem_cons_succ, List.getElem_cons_zero, List.setIfInBounds_toArray, List.set_cons_zero, List.set_cons_succ])
  clear d0 d1 d2 d3 d4 d5 f0 f1 f2 f3 f4 f5
  refine wpAnyH_done (by kernel_rfl) ?_ _
  refine NoPanic.normal ?_
  clear hHeld
  obtain ⟨⟨r0, r1, r2, r3, r4, r5⟩, -⟩ := HF.out.z.cells
  have HR := Lib.hid (And.intro r0 (And.intro r1 (And.intro r2 (And.intro r3 (And.intro r4 r5)))))
  clear r0 r1 r2 r3 r4 r5
  go_wp2_with fail
  exact bodyPost_ret (v := .tuple #[srcV cc (.slice au ll.length cu) m at_ (.slice ag F.length cg) t, .int .i64 y]) (by simp [srcV, results, Tryz.results5, go_sem, HR.out.1, HR.out.2.1, HR.out.2.2.1, HR.out.2.2.2.1, HR.out.2.2.2.2.1, HR.out.2.2.2.2.2]) rfl ⟨_, _, _, _, _, _, ll, F, y, y0, y1, rfl, HL.out.1, HL.out.2.1, HL.out.2.2, HF.out.s.read, HF.out.d.read, HF.out.bl⟩
theorem drawIsSearched_any (W : World) (v : Value) (n : Nat) (hn : n ≤ 1048576) (hcode : CodeAt W v n) (w : World) (hb : Below W.heap.size W w) :
    Calls Tryz.prog 19 #[v] w (DrawSea w) := by
  have hz0 := SBI.new w (.int .i64 0) (.slice none 0 0) (.int .i64 0) (.int .i64 0) (.slice none 0 0) (.int .i64 0)
  have hg0 : w.grownBy (w.alloc (.cells #[.int .i64 0, .slice none 0 0, .int .i64 0, .int .i64 0, .slice none 0 0, .int .i64 0] 29)) none := World.grownBy_alloc w _ _
  have hbs := hb.size
  have H1 := Lib.hid (new_any W v n hn hcode _ (hb.alloc hb.size (.cells #[.int .i64 0, .slice none 0 0, .int .i64 0, .int .i64 0, .slice none 0 0, .int .i64 0] 29)))
  have H2 := Lib.hid (search8_any W v n hn hcode)
  have HON := Lib.hid (once_any W v n hn hcode)
  obtain ⟨a, cap, rfl⟩ := code_slice hcode
  go_enter Tryz.func19, Tryz.ntmps19
  go_wp2_with fail
  refine H1.out.mono ?_
  rintro e w1 ⟨c, hc, rfl, g1, hc1⟩
  go_wp2_with fail
  refine (H2.out c w1 hc1).mono ?_
  rintro e w2 ⟨cc, m, at_, t, u, g, ll, F, rfl, hll, hlr, hF, hss, hdd, g2, hc2⟩
  have s1 := g1.size
  have s2 := g2.size
  have hcw := hc1.lt
  obtain ⟨au, cu, rfl, -⟩ := hss.read
  obtain ⟨ag, cg, rfl⟩ := hdd.shape
  unfold srcV
  have HS : Hid (D8 W (.slice a n cap) n c w w1.heap.size w2.heap.size cc m at_ t (.slice au ll.length cu) (.slice ag F.length cg) ll F (.int .i64 0) (.slice none 0 0) (.int .i64 0) (.int .i64 0) (.slice none 0 0) (.int .i64 0) (w2.alloc (.cells #[.int .i64 cc, .slice au ll.length cu, .int .i64 m, .int .i64 at_, .slice ag F.length cg, .int .i64 t] 29))) := Lib.hid (by
    have hal := (Below.refl w2.heap.size w2).alloc (Nat.le_refl _) (.cells #[.int .i64 cc, .slice au ll.length cu, .int .i64 m, .int .i64 at_, .slice ag F.length cg, .int .i64 t] 29)
    have hc' : w.heap.size + 1 ≤ c := by simpa using hc
    have s1' : w.heap.size + 1 ≤ w1.heap.size := by simpa using s1
    refine ⟨(((hz0.eqb (g1.block _ (by simp) (by simp))).eqb (g2.block _ (by omega) (by simp; omega)))).kept hal, SBI.new w2 _ _ _ _ _ _, (hss.same (Below.keeps hal (Nat.le_refl _))).base (Nat.le_refl _) hal.size, hdd.below hal (fun q hq => (hdd.lt q hq).2), ?_, hc2.kept (World.grownBy_alloc w2 _ none) (by simp) (by simp), by omega, hcw, s2, hbs⟩
    exact (((Below.refl w.heap.size w).grown (grown_above (grown_trans hg0 g1) g2 (fun k e => by cases e; omega)) (Nat.le_refl _) (by simp))).trans (hal.mono (by omega)))
  have HL : Hid (ll.length ≤ 20 ∧ (∀ r ∈ ll, r.length ≤ 10) ∧ F.length ≤ 200) := Lib.hid ⟨hll, hlr, hF⟩
  clear hz0 hg0 g1 g2 hc2 hss hdd hc1 hc hll hlr hF s1 s2 hcw hbs
  go_upto_region 3 with fail
  obtain ⟨T, hT⟩ : ∃ T, T = w2.heap.size := ⟨_, rfl⟩
  obtain ⟨w3, hw3⟩ : ∃ w3, w3 = w2.alloc (.cells #[.int .i64 cc, .slice au ll.length cu, .int .i64 m, .int .i64 at_, .slice ag F.length cg, .int .i64 t] 29) := ⟨_, rfl⟩
  rw [← hw3] at HS ⊢
  rw [← hT] at HS ⊢
  clear hT hw3
  go_wp2_with fail
  refine (HON.out c _ HS.out.cr 2 (by omega) (by omega)).mono ?_
  rintro e w4 ⟨bq, rfl, g4, hc4⟩
  have HS4 := Lib.hid (HS.out.grown g4 hc4)
  clear g4 hc4 HS
  cases bq with
  | true =>
    have HRN := Lib.hid (runSearch8_any cc m at_ t 200 _ _ ll F w4 HS4.out.s.read (by have := HL.out.1; omega) (fun i hi => by
      have := HL.out.2.1 (ll.getD i []) (by rw [List.getD_eq_getElem?_getD, List.getElem?_eq_getElem hi]; exact List.getElem_mem hi)
      omega) HS4.out.d.read (by have := HL.out.2.2; omega))
    obtain ⟨⟨d0, d1, d2, d3, d4, d5⟩, f0, f1, f2, f3, f4, f5⟩ := HS4.out.b.cells
    go_wp2_with fail
    refine HRN.out.mono ?_
    rintro e w8 ⟨u8, g8, rfl, ou8, og8, b8⟩
    have HS8 := Lib.hid (HS4.out.still b8)
    have r1 := ou8.read
    have r2 := og8.read
    obtain ⟨au8, cu8, rfl, -⟩ := ou8.read
    obtain ⟨ag8, cg8, rfl⟩ := og8.shape
    unfold srcV
    have HW4 : Hid (w.heap.size < w4.heap.size) := Lib.hid HS4.out.z.lt
    have HX := Lib.hid (HS8.out.put0 (.int .i64 cc) (.slice au8 ll.length cu8) (.int .i64 m) (.int .i64 (rsA cc ll m at_ F t 200)) (.slice ag8 (rsF cc ll m at_ F t 200).length cg8) (.int .i64 (rsT cc ll m at_ F t 200)))
    have HR1 := Lib.hid (ou8.same (six_same (B := w4.heap.size) (C := w8.heap.size) w8 (p := w.heap.size) (.int .i64 cc) (.slice au8 ll.length cu8) (.int .i64 m) (.int .i64 (rsA cc ll m at_ F t 200)) (.slice ag8 (rsF cc ll m at_ F t 200).length cg8) (.int .i64 (rsT cc ll m at_ F t 200)) (.inl HW4.out)))
    have HR2 := Lib.hid (og8.range.same (six_same (B := w4.heap.size) (C := w8.heap.size) w8 (p := w.heap.size) (.int .i64 cc) (.slice au8 ll.length cu8) (.int .i64 m) (.int .i64 (rsA cc ll m at_ F t 200)) (.slice ag8 (rsF cc ll m at_ F t 200).length cg8) (.int .i64 (rsT cc ll m at_ F t 200)) (.inl HW4.out)))
    clear d0 d1 d2 d3 d4 d5 f0 f1 f2 f3 f4 f5 ou8 og8 r1 r2 b8
    obtain ⟨⟨d0, d1, d2, d3, d4, d5⟩, f0, f1, f2, f3, f4, f5⟩ := HS8.out.z.cells
    obtain ⟨⟨r0, r1, r2, r3, r4, r5⟩, -⟩ := HX.out.z.cells
    have HR := Lib.hid (And.intro r0 (And.intro r1 (And.intro r2 (And.intro r3 (And.intro r4 r5)))))
    clear r0 r1 r2 r3 r4 r5
    go_wp2_with fail
    exact bodyPost_ret (v := srcV cc (.slice au8 ll.length cu8) m (rsA cc ll m at_ F t 200) (.slice ag8 (rsF cc ll m at_ F t 200).length cg8) (rsT cc ll m at_ F t 200)) (by simp [srcV, results, Tryz.results19, go_sem, HR.out.1, HR.out.2.1, HR.out.2.2.1, HR.out.2.2.2.1, HR.out.2.2.2.2.1, HR.out.2.2.2.2.2]) rfl ⟨_, _, _, _, _, _, ll, _, rfl, HL.out.1, HL.out.2.1, rsF_few cc ll m at_ F t 200 HL.out.2.2, HR1.out.read, HR2.out.1.read, HX.out.bl⟩
  | false =>
    obtain ⟨⟨c0, c1, c2, c3, c4, c5⟩, -⟩ := HS4.out.b.cells
    obtain ⟨⟨d0, d1, d2, d3, d4, d5⟩, f0, f1, f2, f3, f4, f5⟩ := HS4.out.z.cells
    have HX := Lib.hid (HS4.out.put0 (.int .i64 cc) (.slice au ll.length cu) (.int .i64 m) (.int .i64 at_) (.slice ag F.length cg) (.int .i64 t))
    obtain ⟨⟨r0, r1, r2, r3, r4, r5⟩, -⟩ := HX.out.z.cells
    have HR := Lib.hid (And.intro r0 (And.intro r1 (And.intro r2 (And.intro r3 (And.intro r4 r5)))))
    clear r0 r1 r2 r3 r4 r5
    go_wp2_with fail
    exact bodyPost_ret (v := srcV cc (.slice au ll.length cu) m at_ (.slice ag F.length cg) t) (by simp [srcV, results, Tryz.results19, go_sem, HR.out.1, HR.out.2.1, HR.out.2.2.1, HR.out.2.2.2.1, HR.out.2.2.2.2.1, HR.out.2.2.2.2.2]) rfl ⟨_, _, _, _, _, _, ll, F, rfl, HL.out.1, HL.out.2.1, HL.out.2.2, HX.out.s.read, HX.out.d.read, HX.out.bl⟩
theorem drawNewSearch_any (W : World) (v : Value) (n : Nat) (hn : n ≤ 1048576) (hcode : CodeAt W v n) (w : World) (hb : Below W.heap.size W w) :
    Calls Tryz.prog 20 #[v] w (DrawTI w) := by
  have hg0 : w.grownBy (w.alloc (.cells #[.int .i64 0, .slice none 0 0] 26)) none := World.grownBy_alloc w _ _
  have hz0 : BoxIs (w.alloc (.cells #[.int .i64 0, .slice none 0 0] 26)) w.heap.size 0 (.slice none 0 0) := heap_alloc_new w _
  have hs0 : w.heap.size + 1 ≤ (w.alloc (.cells #[.int .i64 0, .slice none 0 0] 26)).heap.size := by simp
  have H1 := Lib.hid (new_any W v n hn hcode _ (hb.alloc hb.size (.cells #[.int .i64 0, .slice none 0 0] 26)))
  have H2 := Lib.hid (draw4_any W v n hn hcode)
  obtain ⟨a, cap, rfl⟩ := code_slice hcode
  go_enter Tryz.func20, Tryz.ntmps20
  go_wp2_with fail
  refine H1.out.mono ?_
  rintro e w1 ⟨c, hc, rfl, g1, hc1⟩
  go_wp2_with fail
  refine (H2.out c w1 hc1).mono ?_
  rintro e w2 ⟨cc, u, ll, md, md0, md1, rfl, hll, hlr, hss, g2, hc2⟩
  have s1 := g1.size
  have s2 := g2.size
  have hz := (hz0.grown g1 (by simp)).grown g2 (by simp; omega)
  have hg := grown_above (grown_trans hg0 g1) g2 (fun g e => by simp at e; omega)
  obtain ⟨au, cu, rfl, -⟩ := hss.read
  replace hz := hz.grown (World.grownBy_alloc w2 (.cells #[.int .i64 cc, .slice au ll.length cu] 26) none) (by simp)
  replace hg := grown_trans hg (World.grownBy_alloc w2 (.cells #[.int .i64 cc, .slice au ll.length cu] 26) none)
  replace hss := hss.same (w' := w2.alloc (.cells #[.int .i64 cc, .slice au ll.length cu] 26)) (fun g _ hg => Below.heap_alloc _ _ _ hg)
  have HF := Lib.hid (FinT.mk (cc := cc) hz (hss.base (by omega) (Nat.le_refl _)) (by simp) hg)
  obtain ⟨⟨d0, d1⟩, f0, f1⟩ := hz.cells
  obtain ⟨⟨r0, r1⟩, -, -⟩ := HF.out.1.cells
  have HR := Lib.hid (And.intro r0 r1)
  clear r0 r1 hz hg hss hz0 hg0 hs0 g1 g2 hc1 hc2
  go_wp2_with fail
  exact bodyPost_ret (v := .tuple #[.agg #[.int .i64 cc, .slice au ll.length cu], .int .i64 md]) (by simp [results, Tryz.results20, go_sem, HR.out.1, HR.out.2]) rfl ⟨_, _, ll, md, by omega, by omega, rfl, hll, hlr, HF.out.2.1.read, (Below.refl _ w).grown HF.out.2.2 (Nat.le_refl _) (by simp)⟩
end
end Go.Proofs.YtjfllfancgmalaaGreat
