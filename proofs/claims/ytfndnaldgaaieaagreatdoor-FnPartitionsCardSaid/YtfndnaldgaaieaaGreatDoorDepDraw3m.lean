/- The draws of the laws of chapter 6. Conditions: the code is a readable slice of at most 1048576 bytes. -/
import Derived.Test.YtfndnaldgaaieaaGreatDoorSi12
namespace Go.Proofs.YtfndnaldgaaieaaGreatDoor
open Go.RowKit

/-- The state at a return: both cells of the result, the table, what lies below is kept. -/
structure RsSt (w : World) (C : Nat) (u : Value) (ll : List (List Int)) (cz : Int) (uz : Value) (lz rz : Int) (x : World) : Prop where
  z : BoxIs x w.heap.size cz uz
  d : DBox x (w.heap.size + 1) lz rz
  s : OwnSS x (w.heap.size + 2) C u ll
  b : Below w.heap.size w x
  e : C ≤ x.heap.size
theorem RsSt.still {w x y : World} {C : Nat} {u uz : Value} {cz lz rz : Int} {ll : List (List Int)} (h : RsSt w C u ll cz uz lz rz x) (hg : x.grownBy y none) : RsSt w C u ll cz uz lz rz y :=
  ⟨h.z.grown hg (by simp), h.d.grown hg (by simp), h.s.same (fun k a b => hg.block k (by have := h.e; omega) (by simp)), h.b.grown hg h.b.size (by simp), Nat.le_trans h.e hg.size⟩
theorem RsSt.put0 {w x : World} {C : Nat} {u uz u' : Value} {cz c' lz rz : Int} {ll : List (List Int)} (h : RsSt w C u ll cz uz lz rz x) : RsSt w C u ll c' u' lz rz ((x.setCell ⟨w.heap.size, 0, none⟩ (.int .i64 c')).setCell ⟨w.heap.size, 1, none⟩ u') :=
  ⟨(h.z.set0 (cc' := c')).set (rv' := u'),
    (h.d.grown (grown_cell x ⟨w.heap.size, 0, none⟩ (.int .i64 c')) (by simp)).grown (grown_cell _ ⟨w.heap.size, 1, none⟩ u') (by simp),
    h.s.same (((Same.refl _ _ _).setCell (p := ⟨w.heap.size, 0, none⟩) (.inl (by show w.heap.size < _; omega)) (.int .i64 c')).setCell (p := ⟨w.heap.size, 1, none⟩) (.inl (by show w.heap.size < _; omega)) u'),
    (h.b.setCell (p := ⟨w.heap.size, 0, none⟩) (Nat.le_refl _) _).setCell (p := ⟨w.heap.size, 1, none⟩) (Nat.le_refl _) _, by have := h.e; simpa using this⟩
theorem RsSt.putd {w x : World} {C : Nat} {u uz : Value} {cz l r lz rz : Int} {ll : List (List Int)} (h : RsSt w C u ll cz uz lz rz x) : RsSt w C u ll cz uz l r ((x.setCell ⟨w.heap.size + 1, 0, none⟩ (.int .i64 l)).setCell ⟨w.heap.size + 1, 1, none⟩ (.int .i64 r)) :=
  ⟨(h.z.grown (grown_cell x ⟨w.heap.size + 1, 0, none⟩ (.int .i64 l)) (by simp)).grown (grown_cell _ ⟨w.heap.size + 1, 1, none⟩ (.int .i64 r)) (by simp),
    h.d.set0.set1,
    h.s.same (((Same.refl _ _ _).setCell (p := ⟨w.heap.size + 1, 0, none⟩) (.inl (by show w.heap.size + 1 < _; omega)) (.int .i64 l)).setCell (p := ⟨w.heap.size + 1, 1, none⟩) (.inl (by show w.heap.size + 1 < _; omega)) (.int .i64 r)),
    (h.b.setCell (p := ⟨w.heap.size + 1, 0, none⟩) (Nat.le_succ _) _).setCell (p := ⟨w.heap.size + 1, 1, none⟩) (Nat.le_succ _) _, by have := h.e; simpa using this⟩
set_option maxHeartbeats 3200000 in
set_option maxRecDepth 20000 in
theorem drawHoldsDep_any (W : World) (v : Value) (n : Nat) (hn : n ≤ 1048576) (hcode : CodeAt W v n) (w : World) (hb : Below W.heap.size W w) :
    Calls Tryz.prog 5 #[v] w (DrawTD w) := by
  have hz0 : Hid (BoxIs ((w.alloc (.cells #[.int .i64 0, .slice none 0 0] 26)).alloc (.cells #[.int .i64 0, .int .i64 0] 28)) w.heap.size 0 (.slice none 0 0)) := Lib.hid (BoxIs.grown (heap_alloc_new w _) (World.grownBy_alloc _ _ none) (by simp))
  have hd0 : Hid (DBox ((w.alloc (.cells #[.int .i64 0, .slice none 0 0] 26)).alloc (.cells #[.int .i64 0, .int .i64 0] 28)) (w.heap.size + 1) 0 0) := Lib.hid (by have := heap_alloc_new (w.alloc (.cells #[.int .i64 0, .slice none 0 0] 26)) (.cells #[.int .i64 0, .int .i64 0] 28); rwa [World.size_alloc] at this)
  have hbs := hb.size
  have HB0 := Lib.hid ((hb.alloc hb.size (.cells #[.int .i64 0, .slice none 0 0] 26)).alloc (by simp; omega) (.cells #[.int .i64 0, .int .i64 0] 28))
  have HW0 := Lib.hid (((Below.refl w.heap.size w).alloc (Nat.le_refl _) (.cells #[.int .i64 0, .slice none 0 0] 26)).alloc (by simp) (.cells #[.int .i64 0, .int .i64 0] 28))
  have H1 := Lib.hid (draw6_any W v n hn hcode _ HB0.out)
  go_enter Tryz.func5, Tryz.ntmps5
  go_wp2_with fail
  refine H1.out.mono ?_
  rintro e w1 ⟨cc, u, ll, md, x, y, md0, md1, x0, x1, y0, y1, rfl, hll, hlr, hss, hbe⟩
  obtain ⟨au, cu, rfl, -⟩ := hss.read
  have HS : Hid (RsSt w w1.heap.size (.slice au ll.length cu) ll 0 (.slice none 0 0) 0 0 w1) := Lib.hid
    ⟨hz0.out.kept hbe (by simp; omega), (hbe.block _ (by simp)).trans hd0.out, hss.base (by simp) (Nat.le_refl _), HW0.out.trans (hbe.mono (by simp; omega)), Nat.le_refl _⟩
  have HB2 : Hid (BoxIs ((w1.alloc (.cells #[.int .i64 cc, .slice au ll.length cu] 26)).alloc (.cells #[.int .i64 x, .int .i64 y] 28)) w1.heap.size cc (.slice au ll.length cu)) := Lib.hid (BoxIs.grown (heap_alloc_new w1 _) (World.grownBy_alloc _ _ none) (by simp))
  have HE2 : Hid (DBox ((w1.alloc (.cells #[.int .i64 cc, .slice au ll.length cu] 26)).alloc (.cells #[.int .i64 x, .int .i64 y] 28)) (w1.heap.size + 1) x y) := Lib.hid (by have := heap_alloc_new (w1.alloc (.cells #[.int .i64 cc, .slice au ll.length cu] 26)) (.cells #[.int .i64 x, .int .i64 y] 28); rwa [World.size_alloc] at this)
  have HS2 := Lib.hid ((HS.out.still (World.grownBy_alloc w1 (.cells #[.int .i64 cc, .slice au ll.length cu] 26) none)).still (World.grownBy_alloc (w1.alloc (.cells #[.int .i64 cc, .slice au ll.length cu] 26)) (.cells #[.int .i64 x, .int .i64 y] 28) none))
  have hsz := HS.out.z.lt
  have hsd := HS.out.d.lt
  clear hss hbe HS H1 hz0 hd0 HB0 HW0
  go_wp2_with fail
  obtain ⟨w3, hw3⟩ : ∃ w3, w3 = (w1.alloc (.cells #[.int .i64 cc, .slice au ll.length cu] 26)).alloc (.cells #[.int .i64 x, .int .i64 y] 28) := ⟨_, rfl⟩
  obtain ⟨T, hT⟩ : ∃ T, T = w1.heap.size := ⟨_, rfl⟩
  rw [← hw3] at HS2 HB2 HE2 ⊢
  rw [← hT] at HS2 HB2 HE2 hsz hsd ⊢
  clear hw3 hT
  have gd : w3.grownBy w3.drew none := ⟨rfl, rfl, rfl, Nat.le_refl _, fun _ _ _ => rfl⟩
  have HSD := Lib.hid (HS2.out.still gd)
  have HBD := Lib.hid (HB2.out.grown gd (by simp))
  have HED := Lib.hid (HE2.out.grown gd (by simp))
  have HS3 := Lib.hid (HSD.out.put0 (c' := cc) (u' := .slice au ll.length cu))
  have HE3 := Lib.hid ((HED.out.grown (grown_cell w3.drew ⟨w.heap.size, 0, none⟩ (.int .i64 cc)) (by simp; omega)).grown (grown_cell _ ⟨w.heap.size, 1, none⟩ (.slice au ll.length cu)) (by simp; omega))
  have HF := Lib.hid (HS3.out.putd (l := x) (r := y))
  obtain ⟨⟨c0, c1⟩, f0, f1⟩ := HSD.out.z.cells
  obtain ⟨⟨d0, d1⟩, g0, g1⟩ := HS3.out.d.cells
  obtain ⟨⟨k0, k1⟩, -, -⟩ := HBD.out.cells
  obtain ⟨⟨m0, m1⟩, -, -⟩ := HED.out.cells
  obtain ⟨⟨o0, o1⟩, -, -⟩ := HE3.out.cells
  obtain ⟨⟨p0, p1⟩, q0, q1⟩ := HS2.out.z.cells
  obtain ⟨⟨s0, s1⟩, t0, t1⟩ := HS2.out.d.cells
  obtain ⟨⟨a0, a1⟩, -, -⟩ := HB2.out.cells
  obtain ⟨⟨b0, b1⟩, -, -⟩ := HE2.out.cells
  obtain ⟨⟨r0, r1⟩, -, -⟩ := HF.out.z.cells
  obtain ⟨⟨r2, r3⟩, -, -⟩ := HF.out.d.cells
  have HR := Lib.hid (And.intro (And.intro r0 r1) (And.intro r2 r3))
  clear r0 r1 r2 r3 gd
  go_region_law (fail)
  all_goals go_wp2_with fail
  all_goals exact bodyPost_ret (v := .tuple #[.agg #[.int .i64 cc, .slice au ll.length cu], .int .i64 md, .agg #[.int .i64 x, .int .i64 y]]) (by simp [results, Tryz.results5, go_sem, p0, p1, s0, s1]) rfl ⟨_, _, ll, md, x, y, md0, md1, by omega, by omega, by omega, by omega, rfl, hll, hlr, HF.out.s.base (by omega) HF.out.e, HF.out.b⟩
end Go.Proofs.YtfndnaldgaaieaaGreatDoor
