/- The draws of chapter 4's law: a table, a mode and a column; three numbers. Conditions: the code is a readable slice of at most 1048576 bytes. -/
import Derived.Test.YtchdceglcjjggaaAgrDraw2
namespace Go.Proofs.Ytchdceglcjjggaa
open Go.RowKit

def DrawTab2 (w : World) (e : Ending) (w' : World) : Prop :=
  ∃ (cc : Int) (u : Value) (ll : List (List Int)) (m q : Int), -1 ≤ m ∧ m ≤ 2 ∧ -1 ≤ q ∧ q ≤ 33 ∧ e = .returned (.tuple #[.agg #[.int .i64 cc, u], .int .i64 m, .int .i64 q]) ∧ ll.length ≤ 20 ∧ (∀ r ∈ ll, r.length ≤ 10) ∧ OwnSS w' w.heap.size w'.heap.size u ll ∧ Below w.heap.size w w'
set_option maxHeartbeats 3200000 in
set_option maxRecDepth 20000 in
theorem drawDifferenceSets_any (W : World) (v : Value) (n : Nat) (hn : n ≤ 1048576) (hcode : CodeAt W v n) (w : World) (hb : Below W.heap.size W w) :
    Calls Try.prog 12 #[v] w (DrawTab2 w) := by
  have hg0 : w.grownBy (w.alloc (.cells #[.int .i64 0, .slice none 0 0] 26)) none := World.grownBy_alloc w _ _
  have hz0 : BoxIs (w.alloc (.cells #[.int .i64 0, .slice none 0 0] 26)) w.heap.size 0 (.slice none 0 0) := heap_alloc_new w _
  have hs0 : w.heap.size + 1 ≤ (w.alloc (.cells #[.int .i64 0, .slice none 0 0] 26)).heap.size := by simp
  have hbs := hb.size
  have H1 := Lib.hid (new_any W v n hn hcode _ (hb.alloc hb.size (.cells #[.int .i64 0, .slice none 0 0] 26)))
  have H2 := Lib.hid (draw4_any W v n hn hcode)
  have H3 := Lib.hid (below_any W v n hn hcode)
  obtain ⟨a, cap, rfl⟩ := code_slice hcode
  go_enter Try.func12, Try.ntmps12
  go_wp2_with fail
  refine H1.out.mono ?_
  rintro e w1 ⟨c, hc, rfl, g1, hc1⟩
  go_wp2_with fail
  refine (H2.out c w1 hc1).mono ?_
  rintro e w2 ⟨cc, u, ll, md, md0, md1, rfl, hll, hlr, hss, g2, hc2⟩
  have s1 := g1.size
  have s2 := g2.size
  have hc1' := hc1.lt
  have hz := (hz0.grown g1 (by simp)).grown g2 (by simp; omega)
  have hg := grown_above (grown_trans hg0 g1) g2 (fun g e => by simp at e; omega)
  obtain ⟨au, cu, rfl, -⟩ := hss.read
  have hbx : BoxIs (w2.alloc (.cells #[.int .i64 cc, .slice au ll.length cu] 26)) w2.heap.size cc (.slice au ll.length cu) := heap_alloc_new w2 _
  replace hz := hz.grown (World.grownBy_alloc w2 (.cells #[.int .i64 cc, .slice au ll.length cu] 26) none) (by simp)
  replace hg := grown_trans hg (World.grownBy_alloc w2 (.cells #[.int .i64 cc, .slice au ll.length cu] 26) none)
  replace hss := hss.same (w' := w2.alloc (.cells #[.int .i64 cc, .slice au ll.length cu] 26)) (fun g _ hg => Below.heap_alloc _ _ _ hg)
  have hcur := hc2.kept (World.grownBy_alloc w2 (.cells #[.int .i64 cc, .slice au ll.length cu] 26) none) (by simp) (by simp)
  have s3 : w2.heap.size + 1 ≤ (w2.alloc (.cells #[.int .i64 cc, .slice au ll.length cu] 26)).heap.size := by simp
  go_wp2_with fail
  obtain ⟨T, hT⟩ : ∃ T, T = w2.heap.size := ⟨_, rfl⟩
  obtain ⟨w3, hw3⟩ : ∃ w3, w3 = w2.alloc (.cells #[.int .i64 cc, .slice au ll.length cu] 26) := ⟨_, rfl⟩
  rw [← hw3] at hbx hz hg hss hcur s3 ⊢
  rw [← hT] at hbx hss s2 s3 ⊢
  clear hw3 hT
  have HBX : Hid (BoxIs w3.drew T cc (.slice au ll.length cu)) := Lib.hid hbx
  have HZ : Hid (BoxIs w3.drew w.heap.size 0 (.slice none 0 0)) := Lib.hid hz
  have HSS : Hid (OwnSS w3.drew w1.heap.size T (.slice au ll.length cu) ll) := Lib.hid (hss.same (fun _ _ _ => rfl))
  have HG : Hid (w.grownBy w3.drew none) := Lib.hid ⟨hg.os, hg.tape, hg.output, hg.size, hg.block⟩
  have HC : Hid (Cur W (.slice a n cap) n c w3.drew) := Lib.hid (hcur.kept (row := none) ⟨rfl, rfl, rfl, Nat.le_refl _, fun _ _ _ => rfl⟩ (by simp) (by simp))
  have sd : w3.drew.heap.size = w3.heap.size := rfl
  have HCS := Lib.hid ((HC.out.set (p := ⟨w.heap.size, 0, none⟩) (by show W.heap.size ≤ w.heap.size; omega) (by show w.heap.size ≠ c; omega) (.int .i64 cc)).set (p := ⟨w.heap.size, 1, none⟩) (by show W.heap.size ≤ w.heap.size; omega) (by show w.heap.size ≠ c; omega) (.slice au ll.length cu))
  have HFS := Lib.hid (FinT.mk (cc := cc) HZ.out (HSS.out.base (by omega) (Nat.le_refl _)) (by omega) HG.out)
  have HSX := Lib.hid (HSS.out.same (((Same.refl _ _ _).setCell (p := ⟨w.heap.size, 0, none⟩) (.inl (by show w.heap.size < _; omega)) (.int .i64 cc)).setCell (p := ⟨w.heap.size, 1, none⟩) (.inl (by show w.heap.size < _; omega)) (.slice au ll.length cu)))
  obtain ⟨⟨c0, c1⟩, f0, f1⟩ := HBX.out.cells
  obtain ⟨⟨d0, d1⟩, e0, e1⟩ := HZ.out.cells
  obtain ⟨⟨k0, k1⟩, -, -⟩ := hbx.cells
  obtain ⟨⟨m0, m1⟩, q0, q1⟩ := hz.cells
  clear hbx hz hg hss hcur hz0 hg0 hc2 g1 g2 hc1
  go_region_law (go_simp; go_at_call 42; first
    | (refine (H3.out c _ HC.out 6 (by omega) (by omega)).mono ?_; rintro e w5 ⟨x, x0, x1, rfl, g5, hc5⟩; have s5 := g5.size; have hz5 := HZ.out.grown g5 (by simp; omega); have HF := Lib.hid (FinT.mk (cc := cc) hz5 ((HSS.out.same (same_grown g5 (by omega) (by omega))).base (by omega) (Nat.le_refl _)) (by omega) (grown_above HG.out g5 (fun g e => by simp at e; omega))); obtain ⟨⟨b0, b1⟩, h0, h1⟩ := (HBX.out.grown g5 (by simp; omega)).cells; obtain ⟨⟨n0, n1⟩, o0, o1⟩ := hz5.cells)
    | (refine (H3.out c _ HCS.out 6 (by omega) (by omega)).mono ?_; rintro e w5 ⟨x, x0, x1, rfl, g5, hc5⟩; have HF := Lib.hid (HFS.out.go g5 HSX.out (by omega) (by omega) (by simp; omega) (by omega))))
  all_goals
    obtain ⟨⟨r0, r1⟩, -, -⟩ := HF.out.1.cells
    have HR := Lib.hid (And.intro r0 r1)
    clear r0 r1
    have hwx : IntKind.i64.wrap (x - 1) = x - 1 := by rw [IntKind.wrap_i64]; omega
    go_wp2_with fail
    exact bodyPost_ret (v := .tuple #[.agg #[.int .i64 cc, .slice au ll.length cu], .int .i64 md, .int .i64 (x - 1)]) (by simp [results, Try.results12, go_sem, HR.out.1, HR.out.2, hwx]) rfl ⟨_, _, ll, md, _, by omega, by omega, by omega, by omega, rfl, hll, hlr, HF.out.2.1, (Below.refl _ w).grown HF.out.2.2 (Nat.le_refl _) (by simp)⟩
def ThreeIn (w : World) (e : Ending) (w' : World) : Prop := ∃ x y z : Int, e = .returned (.tuple #[.int .i64 x, .int .i64 y, .int .i64 z]) ∧ Below w.heap.size w w'
theorem drawEqualCells_any (W : World) (v : Value) (n : Nat) (hn : n ≤ 1048576) (hcode : CodeAt W v n) (w : World) (hb : Below W.heap.size W w) :
    Calls Try.prog 24 #[v] w (ThreeIn w) := by
  have H1 := Lib.hid (new_any W v n hn hcode w hb)
  have H2 := Lib.hid (below_any W v n hn hcode)
  obtain ⟨a, cap, rfl⟩ := code_slice hcode
  go_enter Try.func24, Try.ntmps24
  go_wp2_with fail
  refine H1.out.mono ?_
  rintro e w1 ⟨c, hc, rfl, g1, hc1⟩
  go_wp2_with fail
  refine (H2.out c w1 hc1 4 (by omega) (by omega)).mono ?_
  rintro e w2 ⟨x, x0, x1, rfl, g2, hc2⟩
  have hx : IntKind.i64.wrap (x - 1) = x - 1 := by rw [IntKind.wrap_i64]; omega
  go_wp2_with fail
  refine (H2.out c w2 hc2 4 (by omega) (by omega)).mono ?_
  rintro e w3 ⟨y, y0, y1, rfl, g3, hc3⟩
  have hy : IntKind.i64.wrap (y - 1) = y - 1 := by rw [IntKind.wrap_i64]; omega
  go_wp2_with fail
  refine (H2.out c w3 hc3 4 (by omega) (by omega)).mono ?_
  rintro e w4 ⟨z, z0, z1, rfl, g4, hc4⟩
  have hz : IntKind.i64.wrap (z - 1) = z - 1 := by rw [IntKind.wrap_i64]; omega
  go_wp2_with fail
  go_ret3
  exact ⟨_, _, _, rfl, below_of_grown g1 (grown_trans (grown_trans g2 g3) g4) hc⟩
end Go.Proofs.Ytchdceglcjjggaa
