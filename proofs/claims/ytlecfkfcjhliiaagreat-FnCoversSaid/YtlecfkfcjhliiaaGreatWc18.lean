/- Texts of this claim, merged: DepDraw2, CovDraw, ParA. Conditions: as stated. -/
import Derived.Test.YtlecfkfcjhliiaaGreatWc17
import Derived.Test.YtlecfkfcjhliiaaGreatWc11
import Derived.Test.YtlecfkfcjhliiaaGreatWc12
namespace Go.Proofs.YtlecfkfcjhliiaaGreat
open Go.RowKit

def DrawTD (w : World) (e : Ending) (w' : World) : Prop :=
  ∃ (cc : Int) (u : Value) (ll : List (List Int)) (m l r : Int), -1 ≤ m ∧ m ≤ 2 ∧ -1 ≤ l ∧ l ≤ 33 ∧ -1 ≤ r ∧ r ≤ 5 ∧ e = .returned (.tuple #[.agg #[.int .i64 cc, u], .int .i64 m, .agg #[.int .i64 l, .int .i64 r]]) ∧ ll.length ≤ 20 ∧ (∀ r ∈ ll, r.length ≤ 10) ∧ OwnSS w' w.heap.size w'.heap.size u ll ∧ Below w.heap.size w w'
/-- The state: both cells of the result, the table's own cell, the table, the growth, the cursor. -/
structure TdSt (W : World) (v : Value) (n c : Nat) (w : World) (T B : Nat) (cc : Int) (u : Value) (ll : List (List Int)) (cz : Int) (uz : Value) (lz rz : Int) (x : World) : Prop where
  z : BoxIs x w.heap.size cz uz
  d : DBox x (w.heap.size + 1) lz rz
  b : BoxIs x T cc u
  s : OwnSS x B T u ll
  g : w.grownBy x none
  e1 : w.heap.size + 1 < c
  e2 : c < B
  e3 : B ≤ T
  e4 : W.heap.size ≤ w.heap.size
  cur : Cur W v n c x
theorem TdSt.grown {W w x y : World} {v u uz : Value} {n c T B : Nat} {cc cz lz rz : Int} {ll : List (List Int)} (h : TdSt W v n c w T B cc u ll cz uz lz rz x) (hg : x.grownBy y (some c)) (hc : Cur W v n c y) : TdSt W v n c w T B cc u ll cz uz lz rz y :=
  ⟨h.z.grown hg (by have := h.e1; simp; omega), h.d.grown hg (by have := h.e1; simp; omega), h.b.grown hg (by have := h.e2; have := h.e3; simp; omega), h.s.same (same_grown hg (Nat.le_of_lt h.b.lt) h.e2),
   grown_above h.g hg (fun g e => by have := h.e1; simp at e; omega), h.e1, h.e2, h.e3, h.e4, hc⟩
theorem TdSt.still {W w x y : World} {v u uz : Value} {n c T B : Nat} {cc cz lz rz : Int} {ll : List (List Int)} (h : TdSt W v n c w T B cc u ll cz uz lz rz x) (hg : x.grownBy y none) : TdSt W v n c w T B cc u ll cz uz lz rz y :=
  h.grown ⟨hg.os, hg.tape, hg.output, hg.size, fun j hj _ => hg.block j hj (by simp)⟩ (h.cur.kept hg (by simp) (by simp))
theorem TdSt.put0 {W w x : World} {v u uz u' : Value} {n c T B : Nat} {cc cz lz rz c' : Int} {ll : List (List Int)} (h : TdSt W v n c w T B cc u ll cz uz lz rz x) : TdSt W v n c w T B cc u ll c' u' lz rz ((x.setCell ⟨w.heap.size, 0, none⟩ (.int .i64 c')).setCell ⟨w.heap.size, 1, none⟩ u') := by
  have h1 := h.e1
  have h2 := h.e2
  have h3 := h.e3
  have h4 := h.e4
  exact ⟨(h.z.set0 (cc' := c')).set (rv' := u'),
    (h.d.grown (grown_cell x ⟨w.heap.size, 0, none⟩ (.int .i64 c')) (by simp)).grown (grown_cell _ ⟨w.heap.size, 1, none⟩ u') (by simp),
    (h.b.grown (grown_cell x ⟨w.heap.size, 0, none⟩ (.int .i64 c')) (by simp; omega)).grown (grown_cell _ ⟨w.heap.size, 1, none⟩ u') (by simp; omega),
    h.s.same (((Same.refl _ _ _).setCell (p := ⟨w.heap.size, 0, none⟩) (.inl (by show w.heap.size < _; omega)) (.int .i64 c')).setCell (p := ⟨w.heap.size, 1, none⟩) (.inl (by show w.heap.size < _; omega)) u'),
    grown_set (grown_set h.g (p := ⟨w.heap.size, 0, none⟩) (Nat.le_refl _) _) (p := ⟨w.heap.size, 1, none⟩) (Nat.le_refl _) _, h1, h2, h3, h4,
    (h.cur.set (p := ⟨w.heap.size, 0, none⟩) (by show W.heap.size ≤ w.heap.size; omega) (by show w.heap.size ≠ c; omega) (.int .i64 c')).set (p := ⟨w.heap.size, 1, none⟩) (by show W.heap.size ≤ w.heap.size; omega) (by show w.heap.size ≠ c; omega) u'⟩
theorem TdSt.putd {W w x : World} {v u uz : Value} {n c T B : Nat} {cc cz lz rz l r : Int} {ll : List (List Int)} (h : TdSt W v n c w T B cc u ll cz uz lz rz x) : TdSt W v n c w T B cc u ll cz uz l r ((x.setCell ⟨w.heap.size + 1, 0, none⟩ (.int .i64 l)).setCell ⟨w.heap.size + 1, 1, none⟩ (.int .i64 r)) := by
  have h1 := h.e1
  have h2 := h.e2
  have h3 := h.e3
  have h4 := h.e4
  exact ⟨(h.z.grown (grown_cell x ⟨w.heap.size + 1, 0, none⟩ (.int .i64 l)) (by simp)).grown (grown_cell _ ⟨w.heap.size + 1, 1, none⟩ (.int .i64 r)) (by simp),
    h.d.set0.set1,
    (h.b.grown (grown_cell x ⟨w.heap.size + 1, 0, none⟩ (.int .i64 l)) (by simp; omega)).grown (grown_cell _ ⟨w.heap.size + 1, 1, none⟩ (.int .i64 r)) (by simp; omega),
    h.s.same (((Same.refl _ _ _).setCell (p := ⟨w.heap.size + 1, 0, none⟩) (.inl (by show w.heap.size + 1 < _; omega)) (.int .i64 l)).setCell (p := ⟨w.heap.size + 1, 1, none⟩) (.inl (by show w.heap.size + 1 < _; omega)) (.int .i64 r)),
    grown_set (grown_set h.g (p := ⟨w.heap.size + 1, 0, none⟩) (Nat.le_succ _) _) (p := ⟨w.heap.size + 1, 1, none⟩) (Nat.le_succ _) _, h1, h2, h3, h4,
    (h.cur.set (p := ⟨w.heap.size + 1, 0, none⟩) (by show W.heap.size ≤ w.heap.size + 1; omega) (by show w.heap.size + 1 ≠ c; omega) (.int .i64 l)).set (p := ⟨w.heap.size + 1, 1, none⟩) (by show W.heap.size ≤ w.heap.size + 1; omega) (by show w.heap.size + 1 ≠ c; omega) (.int .i64 r)⟩
end Go.Proofs.YtlecfkfcjhliiaaGreat
namespace Go.Proofs.YtlecfkfcjhliiaaGreat
open Go.RowKit

def DrawTN (w : World) (e : Ending) (w' : World) : Prop :=
  ∃ (cc : Int) (u : Value) (ll : List (List Int)) (m q : Int), -1 ≤ m ∧ m ≤ 2 ∧ -2 ≤ q ∧ q ≤ 33 ∧ e = .returned (.tuple #[.agg #[.int .i64 cc, u], .int .i64 m, .int .i64 q]) ∧ ll.length ≤ 20 ∧ (∀ r ∈ ll, r.length ≤ 10) ∧ OwnSS w' w.heap.size w'.heap.size u ll ∧ Below w.heap.size w w'
/-- The state: the table's cell of the result, the table's own cell, the table, the growth, the cursor. -/
structure TmSt (W : World) (v : Value) (n c : Nat) (w : World) (T B : Nat) (cc : Int) (u : Value) (ll : List (List Int)) (cz : Int) (uz : Value) (x : World) : Prop where
  z : BoxIs x w.heap.size cz uz
  b : BoxIs x T cc u
  s : OwnSS x B T u ll
  g : w.grownBy x none
  e1 : w.heap.size < c
  e2 : c < B
  e3 : B ≤ T
  e4 : W.heap.size ≤ w.heap.size
  cur : Cur W v n c x
theorem TmSt.grown {W w x y : World} {v u uz : Value} {n c T B : Nat} {cc cz : Int} {ll : List (List Int)} (h : TmSt W v n c w T B cc u ll cz uz x) (hg : x.grownBy y (some c)) (hc : Cur W v n c y) : TmSt W v n c w T B cc u ll cz uz y :=
  ⟨h.z.grown hg (by have := h.e1; simp; omega), h.b.grown hg (by have := h.e2; have := h.e3; simp; omega), h.s.same (same_grown hg (Nat.le_of_lt h.b.lt) h.e2),
   grown_above h.g hg (fun g e => by have := h.e1; simp at e; omega), h.e1, h.e2, h.e3, h.e4, hc⟩
theorem TmSt.still {W w x y : World} {v u uz : Value} {n c T B : Nat} {cc cz : Int} {ll : List (List Int)} (h : TmSt W v n c w T B cc u ll cz uz x) (hg : x.grownBy y none) : TmSt W v n c w T B cc u ll cz uz y :=
  h.grown ⟨hg.os, hg.tape, hg.output, hg.size, fun j hj _ => hg.block j hj (by simp)⟩ (h.cur.kept hg (by simp) (by simp))
theorem TmSt.put0 {W w x : World} {v u uz u' : Value} {n c T B : Nat} {cc cz c' : Int} {ll : List (List Int)} (h : TmSt W v n c w T B cc u ll cz uz x) : TmSt W v n c w T B cc u ll c' u' ((x.setCell ⟨w.heap.size, 0, none⟩ (.int .i64 c')).setCell ⟨w.heap.size, 1, none⟩ u') := by
  have h1 := h.e1
  have h2 := h.e2
  have h3 := h.e3
  have h4 := h.e4
  exact ⟨(h.z.set0 (cc' := c')).set (rv' := u'),
    (h.b.grown (grown_cell x ⟨w.heap.size, 0, none⟩ (.int .i64 c')) (by simp; omega)).grown (grown_cell _ ⟨w.heap.size, 1, none⟩ u') (by simp; omega),
    h.s.same (((Same.refl _ _ _).setCell (p := ⟨w.heap.size, 0, none⟩) (.inl (by show w.heap.size < _; omega)) (.int .i64 c')).setCell (p := ⟨w.heap.size, 1, none⟩) (.inl (by show w.heap.size < _; omega)) u'),
    grown_set (grown_set h.g (p := ⟨w.heap.size, 0, none⟩) (Nat.le_refl _) _) (p := ⟨w.heap.size, 1, none⟩) (Nat.le_refl _) _, h1, h2, h3, h4,
    (h.cur.set (p := ⟨w.heap.size, 0, none⟩) (by show W.heap.size ≤ w.heap.size; omega) (by show w.heap.size ≠ c; omega) (.int .i64 c')).set (p := ⟨w.heap.size, 1, none⟩) (by show W.heap.size ≤ w.heap.size; omega) (by show w.heap.size ≠ c; omega) u'⟩
set_option maxHeartbeats 3200000 in
set_option maxRecDepth 20000 in
theorem drawViolatedBorder_any (W : World) (v : Value) (n : Nat) (hn : n ≤ 1048576) (hcode : CodeAt W v n) (w : World) (hb : Below W.heap.size W w) :
    Calls Tryz.prog 5 #[v] w (DrawTN w) := by
  have hg0 : Hid (w.grownBy (w.alloc (.cells #[.int .i64 0, .slice none 0 0] 26)) none) := Lib.hid (World.grownBy_alloc w _ _)
  have hz0 : Hid (BoxIs (w.alloc (.cells #[.int .i64 0, .slice none 0 0] 26)) w.heap.size 0 (.slice none 0 0)) := Lib.hid (heap_alloc_new w _)
  have hbs := hb.size
  have H1 := Lib.hid (new_any W v n hn hcode _ (hb.alloc hb.size (.cells #[.int .i64 0, .slice none 0 0] 26)))
  have H2 := Lib.hid (draw4_any W v n hn hcode)
  have H3 := Lib.hid (below_any W v n hn hcode)
  obtain ⟨a, cap, rfl⟩ := code_slice hcode
  go_enter Tryz.func5, Tryz.ntmps5
  go_wp2_with fail
  refine H1.out.mono ?_
  rintro e w1 ⟨c, hc, rfl, g1, hc1⟩
  go_wp2_with fail
  refine (H2.out c w1 hc1).mono ?_
  rintro e w2 ⟨cc, u, ll, md, md0, md1, rfl, hll, hlr, hss, g2, hc2⟩
  have s2 := g2.size
  have hcw := hc1.lt
  have hc' : w.heap.size < c := by simp at hc; omega
  obtain ⟨au, cu, rfl, -⟩ := hss.read
  have HS : Hid (TmSt W (.slice a n cap) n c w w2.heap.size w1.heap.size cc (.slice au ll.length cu) ll 0 (.slice none 0 0) (w2.alloc (.cells #[.int .i64 cc, .slice au ll.length cu] 26))) := Lib.hid
    ⟨((hz0.out.grown g1 (by simp)).grown g2 (by simp; omega)).grown (World.grownBy_alloc w2 _ none) (by simp),
     heap_alloc_new w2 _, hss.same (fun g _ hg => Below.heap_alloc _ _ _ hg),
     grown_trans (grown_above (grown_trans hg0.out g1) g2 (fun g e => by simp at e; omega)) (World.grownBy_alloc w2 _ none), hc', hcw, s2, hbs, hc2.kept (World.grownBy_alloc w2 _ none) (by simp) (by simp)⟩
  clear hz0 hg0 g1 g2 hc2 hss hc1 hc
  go_wp2_with fail
  obtain ⟨T, hT⟩ : ∃ T, T = w2.heap.size := ⟨_, rfl⟩
  obtain ⟨w3, hw3⟩ : ∃ w3, w3 = w2.alloc (.cells #[.int .i64 cc, .slice au ll.length cu] 26) := ⟨_, rfl⟩
  rw [← hw3] at HS ⊢
  rw [← hT] at HS s2 ⊢
  clear hw3 hT
  have HD : Hid (TmSt W (.slice a n cap) n c w T w1.heap.size cc (.slice au ll.length cu) ll 0 (.slice none 0 0) w3.drew) := Lib.hid (HS.out.still ⟨rfl, rfl, rfl, Nat.le_refl _, fun _ _ _ => rfl⟩)
  have HP := Lib.hid (HD.out.put0 (c' := cc) (u' := .slice au ll.length cu))
  obtain ⟨⟨c0, c1⟩, f0, f1⟩ := HD.out.b.cells
  obtain ⟨⟨d0, d1⟩, e0, e1⟩ := HD.out.z.cells
  obtain ⟨⟨m0, m1⟩, q0, q1⟩ := HS.out.b.cells
  obtain ⟨⟨k0, k1⟩, i0, i1⟩ := HS.out.z.cells
  clear HS
  go_region_law (go_simp; go_at_call 23; first
    | (refine (H3.out c _ HD.out.cur 6 (by omega) (by omega)).mono ?_; rintro e w5 ⟨x, x0, x1, rfl, g5, hc5⟩; have S5 := Lib.hid (HD.out.grown g5 hc5); have HF := Lib.hid (S5.out.put0 (c' := cc) (u' := .slice au ll.length cu)); obtain ⟨⟨a0, a1⟩, b0, b1⟩ := S5.out.z.cells; obtain ⟨⟨n0, n1⟩, -, -⟩ := S5.out.b.cells)
    | (refine (H3.out c _ HP.out.cur 6 (by omega) (by omega)).mono ?_; rintro e w5 ⟨x, x0, x1, rfl, g5, hc5⟩; have HF := Lib.hid (HP.out.grown g5 hc5)))
  all_goals
    obtain ⟨⟨r0, r1⟩, -, -⟩ := HF.out.z.cells
    have HR := Lib.hid (And.intro r0 r1)
    clear r0 r1
    have hwx : IntKind.i64.wrap (x - 1) = x - 1 := by rw [IntKind.wrap_i64]; omega
    go_wp2_with fail
    exact bodyPost_ret (v := .tuple #[.agg #[.int .i64 cc, .slice au ll.length cu], .int .i64 md, .int .i64 (x - 1)]) (by simp [results, Tryz.results5, go_sem, HR.out.1, HR.out.2, hwx]) rfl ⟨_, _, ll, md, _, md0, md1, by omega, by omega, rfl, hll, hlr, HF.out.s.base (by have := HF.out.e1; have := HF.out.e2; omega) (Nat.le_of_lt HF.out.b.lt), (Below.refl _ w).grown HF.out.g (Nat.le_refl _) (by simp)⟩
set_option maxHeartbeats 3200000 in
set_option maxRecDepth 20000 in
theorem drawApproximateDeps_any (W : World) (v : Value) (n : Nat) (hn : n ≤ 1048576) (hcode : CodeAt W v n) (w : World) (hb : Below W.heap.size W w) :
    Calls Tryz.prog 16 #[v] w (DrawTN w) := by
  have hg0 : Hid (w.grownBy (w.alloc (.cells #[.int .i64 0, .slice none 0 0] 26)) none) := Lib.hid (World.grownBy_alloc w _ _)
  have hz0 : Hid (BoxIs (w.alloc (.cells #[.int .i64 0, .slice none 0 0] 26)) w.heap.size 0 (.slice none 0 0)) := Lib.hid (heap_alloc_new w _)
  have hbs := hb.size
  have H1 := Lib.hid (new_any W v n hn hcode _ (hb.alloc hb.size (.cells #[.int .i64 0, .slice none 0 0] 26)))
  have H2 := Lib.hid (draw4_any W v n hn hcode)
  have H3 := Lib.hid (below_any W v n hn hcode)
  obtain ⟨a, cap, rfl⟩ := code_slice hcode
  go_enter Tryz.func16, Tryz.ntmps16
  go_wp2_with fail
  refine H1.out.mono ?_
  rintro e w1 ⟨c, hc, rfl, g1, hc1⟩
  go_wp2_with fail
  refine (H2.out c w1 hc1).mono ?_
  rintro e w2 ⟨cc, u, ll, md, md0, md1, rfl, hll, hlr, hss, g2, hc2⟩
  have s2 := g2.size
  have hcw := hc1.lt
  have hc' : w.heap.size < c := by simp at hc; omega
  obtain ⟨au, cu, rfl, -⟩ := hss.read
  have HS : Hid (TmSt W (.slice a n cap) n c w w2.heap.size w1.heap.size cc (.slice au ll.length cu) ll 0 (.slice none 0 0) (w2.alloc (.cells #[.int .i64 cc, .slice au ll.length cu] 26))) := Lib.hid
    ⟨((hz0.out.grown g1 (by simp)).grown g2 (by simp; omega)).grown (World.grownBy_alloc w2 _ none) (by simp),
     heap_alloc_new w2 _, hss.same (fun g _ hg => Below.heap_alloc _ _ _ hg),
     grown_trans (grown_above (grown_trans hg0.out g1) g2 (fun g e => by simp at e; omega)) (World.grownBy_alloc w2 _ none), hc', hcw, s2, hbs, hc2.kept (World.grownBy_alloc w2 _ none) (by simp) (by simp)⟩
  clear hz0 hg0 g1 g2 hc2 hss hc1 hc
  go_wp2_with fail
  obtain ⟨T, hT⟩ : ∃ T, T = w2.heap.size := ⟨_, rfl⟩
  obtain ⟨w3, hw3⟩ : ∃ w3, w3 = w2.alloc (.cells #[.int .i64 cc, .slice au ll.length cu] 26) := ⟨_, rfl⟩
  rw [← hw3] at HS ⊢
  rw [← hT] at HS s2 ⊢
  clear hw3 hT
  have HD : Hid (TmSt W (.slice a n cap) n c w T w1.heap.size cc (.slice au ll.length cu) ll 0 (.slice none 0 0) w3.drew) := Lib.hid (HS.out.still ⟨rfl, rfl, rfl, Nat.le_refl _, fun _ _ _ => rfl⟩)
  have HP := Lib.hid (HD.out.put0 (c' := cc) (u' := .slice au ll.length cu))
  obtain ⟨⟨c0, c1⟩, f0, f1⟩ := HD.out.b.cells
  obtain ⟨⟨d0, d1⟩, e0, e1⟩ := HD.out.z.cells
  obtain ⟨⟨m0, m1⟩, q0, q1⟩ := HS.out.b.cells
  obtain ⟨⟨k0, k1⟩, i0, i1⟩ := HS.out.z.cells
  clear HS
  go_region_law (go_simp; go_at_call 23; first
    | (refine (H3.out c _ S5u.out.cur 2 (by omega) (by omega)).mono ?_; rintro e w6 ⟨y, y0, y1, rfl, g6, hc6⟩; have S5 := Lib.hid (S5u.out.grown g6 hc6); have HF := Lib.hid (S5.out.put0 (c' := cc) (u' := .slice au ll.length cu)); obtain ⟨⟨a0, a1⟩, b0, b1⟩ := S5.out.z.cells; obtain ⟨⟨n0, n1⟩, -, -⟩ := S5.out.b.cells)
    | (refine (H3.out c _ S6.out.cur 2 (by omega) (by omega)).mono ?_; rintro e w6 ⟨y, y0, y1, rfl, g6, hc6⟩; have HF := Lib.hid (S6.out.grown g6 hc6))
    | (refine (H3.out c _ S5s.out.cur 2 (by omega) (by omega)).mono ?_; rintro e w6 ⟨y, y0, y1, rfl, g6, hc6⟩; have HF := Lib.hid (S5s.out.grown g6 hc6))
    | (refine (H3.out c _ HD.out.cur 4 (by omega) (by omega)).mono ?_; rintro e w5 ⟨x, x0, x1, rfl, g5, hc5⟩; have S5u := Lib.hid (HD.out.grown g5 hc5); have S6 := Lib.hid (S5u.out.put0 (c' := cc) (u' := .slice au ll.length cu)); obtain ⟨⟨a2, a3⟩, b2, b3⟩ := S5u.out.z.cells; obtain ⟨⟨n2, n3⟩, -, -⟩ := S5u.out.b.cells)
    | (refine (H3.out c _ HP.out.cur 4 (by omega) (by omega)).mono ?_; rintro e w5 ⟨x, x0, x1, rfl, g5, hc5⟩; have S5s := Lib.hid (HP.out.grown g5 hc5)))
  all_goals
    obtain ⟨⟨r0, r1⟩, -, -⟩ := HF.out.z.cells
    have HR := Lib.hid (And.intro r0 r1)
    clear r0 r1
    have hwx : IntKind.i64.wrap (x - y) = x - y := by rw [IntKind.wrap_i64]; omega
    go_wp2_with fail
    exact bodyPost_ret (v := .tuple #[.agg #[.int .i64 cc, .slice au ll.length cu], .int .i64 md, .int .i64 (x - y)]) (by simp [results, Tryz.results16, go_sem, HR.out.1, HR.out.2, hwx]) rfl ⟨_, _, ll, md, _, md0, md1, by omega, by omega, rfl, hll, hlr, HF.out.s.base (by have := HF.out.e1; have := HF.out.e2; omega) (Nat.le_of_lt HF.out.b.lt), (Below.refl _ w).grown HF.out.g (Nat.le_refl _) (by simp)⟩
end Go.Proofs.YtlecfkfcjhliiaaGreat
namespace Go.Proofs.YtlecfkfcjhliiaaGreat
open Go.RowKit

/-- The place of the first class that has this row, or -1. -/
def clsI : List (List Int) → Int → Int
  | [], _ => -1
  | r :: t, x => if x ∈ r then 0 else if clsI t x < 0 then -1 else clsI t x + 1
theorem clsI_ge : ∀ (ll : List (List Int)) (x : Int), -1 ≤ clsI ll x ∧ clsI ll x < ll.length
  | [], _ => by simp [clsI]
  | r :: t, x => by
    have := clsI_ge t x
    unfold clsI
    split
    · simp
    · split <;> simp <;> omega
theorem clsI_hit : ∀ (ll : List (List Int)) (x : Int) (k : Nat), k < ll.length → (∀ i, i < k → x ∉ ll.getD i []) → x ∈ ll.getD k [] → clsI ll x = (k : Int)
  | [], _, k, h, _, _ => absurd h (Nat.not_lt_zero _)
  | r :: t, x, 0, _, _, h => by
    have h' : x ∈ r := h
    unfold clsI; rw [if_pos h']; rfl
  | r :: t, x, k + 1, h1, h2, h3 => by
    have h4 : x ∉ r := h2 0 (by omega)
    have ih := clsI_hit t x k (by simp at h1; omega) (fun i hi => by have := h2 (i + 1) (by omega); simpa using this) (by simpa using h3)
    unfold clsI; rw [if_neg h4, ih, if_neg (by omega)]; simp
theorem clsI_none : ∀ (ll : List (List Int)) (x : Int), (∀ i, i < ll.length → x ∉ ll.getD i []) → clsI ll x = -1
  | [], _, _ => rfl
  | r :: t, x, h => by
    have h4 : x ∉ r := h 0 (by simp)
    have ih := clsI_none t x (fun i hi => by have := h (i + 1) (by simp; omega); simpa using this)
    unfold clsI; rw [if_neg h4, ih]; rfl
/-- The rows less one of each of the first k classes. -/
def errTo (ll : List (List Int)) : Nat → Int
  | 0 => 0
  | k + 1 => errTo ll k + max 0 (((ll.getD k []).length : Int) - 1)
theorem errTo_bd (ll : List (List Int)) (h : ∀ i, i < ll.length → (ll.getD i []).length ≤ 1048576) : ∀ k, k ≤ ll.length → 0 ≤ errTo ll k ∧ errTo ll k ≤ 1048576 * k
  | 0, _ => by simp [errTo]
  | k + 1, hk => by
    have ih := errTo_bd ll h k (by omega)
    have := h k (by omega)
    unfold errTo
    omega
/-- A row lies in the class of q that f lies in; a class lies within one class of q. -/
def inQ (q : List (List Int)) (f x : Int) : Bool := decide (0 ≤ clsI q x ∧ clsI q x = clsI q f)
def finR (q : List (List Int)) (r : List Int) : Bool := !q.isEmpty && r.all (inQ q (r.getD 0 0))
def finB (p q : List (List Int)) : Bool := p.all (finR q)
end Go.Proofs.YtlecfkfcjhliiaaGreat
