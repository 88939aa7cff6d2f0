/- What the draws of chapter 4 return: a table and a mode, and a column; three numbers. Conditions: the code is a readable slice of at most 1048576 bytes. -/
import Derived.Test.YtnbjcelfdppkcadGreatXz26
namespace Go.Proofs.YtnbjcelfdppkcadGreat
open Go.RowKit

def CurTabInt (lo hi : Int) (W : World) (v : Value) (n c : Nat) (w : World) (e : Ending) (w' : World) : Prop :=
  ∃ (cc : Int) (u : Value) (ll : List (List Int)) (q : Int), lo ≤ q ∧ q ≤ hi ∧ e = .returned (.tuple #[.agg #[.int .i64 cc, u], .int .i64 q]) ∧ ll.length ≤ 20 ∧ (∀ r ∈ ll, r.length ≤ 10) ∧ OwnSS w' w.heap.size w'.heap.size u ll ∧ w.grownBy w' (some c) ∧ Cur W v n c w'
theorem pick2 (w : World) (C : Array Value) (hC : C = #[.int .i64 (-1), .int .i64 2]) (t : TypeId) :
    ∀ i, i < 2 → ∃ y : Int, -1 ≤ y ∧ y ≤ 2 ∧ (w.alloc (.cells C t)).cell? ⟨w.heap.size, i, none⟩ = some (.int .i64 y) := by
  intro i hi
  have e : (w.alloc (.cells C t)).cell? ⟨w.heap.size, i, none⟩ = C[i]? := World.cell?_alloc_mark w C t (0, 0) i
  rw [e, hC]
  rcases (show i = 0 ∨ i = 1 by omega) with rfl | rfl
  all_goals (refine ⟨_, ?_, ?_, rfl⟩ <;> decide)
/-- The state of the draw of a table: the result's cell, the table's own cell, the table, the growth, the cursor. -/
structure TabSt (W : World) (v : Value) (n c : Nat) (w : World) (T : Nat) (cc : Int) (u : Value) (ll : List (List Int)) (x : World) : Prop where
  z : BoxIs x w.heap.size 0 (.slice none 0 0)
  b : BoxIs x T cc u
  s : OwnSS x (w.heap.size + 1) x.heap.size u ll
  g : w.grownBy x (some c)
  c : Cur W v n c x
  t : w.heap.size < T
theorem TabSt.grown {W w x y : World} {v u : Value} {n c T : Nat} {cc : Int} {ll : List (List Int)} (h : TabSt W v n c w T cc u ll x) (hg : x.grownBy y (some c)) (hc : Cur W v n c y) (hcw : c < w.heap.size) : TabSt W v n c w T cc u ll y :=
  ⟨h.z.grown hg (by simp; omega), h.b.grown hg (by have := h.t; simp; omega), (h.s.same (same_grown hg (Nat.le_refl _) (by omega))).base (Nat.le_refl _) hg.size, grown_trans h.g hg, hc, h.t⟩
theorem TabSt.alloc {W w x : World} {v u : Value} {n c T : Nat} {cc : Int} {ll : List (List Int)} (h : TabSt W v n c w T cc u ll x) (o : Obj) (hcw : c < w.heap.size) : TabSt W v n c w T cc u ll (x.alloc o) :=
  h.grown (World.grownBy_alloc x o _) (h.c.kept (World.grownBy_alloc x o none) (by simp) (by simp)) hcw
/-- The answer: the table laid into the result's cell. -/
theorem TabSt.fin {W w x : World} {v u : Value} {n c T : Nat} {cc : Int} {ll : List (List Int)} (h : TabSt W v n c w T cc u ll x) (hcw : c < w.heap.size) (hW : W.heap.size ≤ c) :
    (((x.setCell ⟨w.heap.size, 0, none⟩ (.int .i64 cc)).setCell ⟨w.heap.size, 1, none⟩ u).cell? ⟨w.heap.size, 0, none⟩ = some (.int .i64 cc) ∧ ((x.setCell ⟨w.heap.size, 0, none⟩ (.int .i64 cc)).setCell ⟨w.heap.size, 1, none⟩ u).cell? ⟨w.heap.size, 1, none⟩ = some u) ∧
    OwnSS ((x.setCell ⟨w.heap.size, 0, none⟩ (.int .i64 cc)).setCell ⟨w.heap.size, 1, none⟩ u) w.heap.size ((x.setCell ⟨w.heap.size, 0, none⟩ (.int .i64 cc)).setCell ⟨w.heap.size, 1, none⟩ u).heap.size u ll ∧
    w.grownBy ((x.setCell ⟨w.heap.size, 0, none⟩ (.int .i64 cc)).setCell ⟨w.heap.size, 1, none⟩ u) (some c) ∧ Cur W v n c ((x.setCell ⟨w.heap.size, 0, none⟩ (.int .i64 cc)).setCell ⟨w.heap.size, 1, none⟩ u) :=
  ⟨((h.z.set0 (cc' := cc)).set (rv' := u)).cells.1,
   (h.s.same (((Same.refl _ _ _).setCell (p := ⟨w.heap.size, 0, none⟩) (.inl (by show w.heap.size < _; omega)) (.int .i64 cc)).setCell (p := ⟨w.heap.size, 1, none⟩) (.inl (by show w.heap.size < _; omega)) u)).base (by omega) (by simp),
   grown_set (grown_set h.g (p := ⟨w.heap.size, 0, none⟩) (Nat.le_refl _) _) (p := ⟨w.heap.size, 1, none⟩) (Nat.le_refl _) _,
   (h.c.set (p := ⟨w.heap.size, 0, none⟩) (by show W.heap.size ≤ w.heap.size; omega) (by show w.heap.size ≠ c; omega) (.int .i64 cc)).set (p := ⟨w.heap.size, 1, none⟩) (by show W.heap.size ≤ w.heap.size; omega) (by show w.heap.size ≠ c; omega) u⟩
/-- Another table takes the place of the drawn one. -/
theorem TabSt.other {W w x y : World} {v u u' : Value} {n c T : Nat} {cc cc' : Int} {ll ll' : List (List Int)} (h : TabSt W v n c w T cc u ll x) (hg : x.grownBy y (some c)) (hc : Cur W v n c y) (hs : OwnSS y x.heap.size y.heap.size u' ll') (hcw : c < w.heap.size) (hW : W.heap.size ≤ c) :
    TabSt W v n c w T cc' u' ll' ((y.setCell ⟨T, 0, none⟩ (.int .i64 cc')).setCell ⟨T, 1, none⟩ u') := by
  have hT := h.t
  have hb := h.b.lt
  have hx := h.g.size
  have hy := hg.size
  have hby := h.b.grown hg (by simp; omega)
  have hzy := h.z.grown hg (by simp; omega)
  exact ⟨(hzy.grown (grown_cell y ⟨T, 0, none⟩ (.int .i64 cc')) (by simp; omega)).grown (grown_cell _ ⟨T, 1, none⟩ u') (by simp; omega),
    (hby.set0 (cc' := cc')).set (rv' := u'),
    (hs.same (((Same.refl _ _ _).setCell (p := ⟨T, 0, none⟩) (.inl (by show T < _; omega)) (.int .i64 cc')).setCell (p := ⟨T, 1, none⟩) (.inl (by show T < _; omega)) u')).base (by omega) (by simp),
    grown_set (grown_set (grown_trans h.g hg) (p := ⟨T, 0, none⟩) (by show w.heap.size ≤ T; omega) _) (p := ⟨T, 1, none⟩) (by show w.heap.size ≤ T; omega) _,
    (hc.set (p := ⟨T, 0, none⟩) (by show W.heap.size ≤ T; omega) (by show T ≠ c; omega) (.int .i64 cc')).set (p := ⟨T, 1, none⟩) (by show W.heap.size ≤ T; omega) (by show T ≠ c; omega) u', hT⟩
set_option maxHeartbeats 3200000 in
set_option maxRecDepth 20000 in
theorem draw4_any (W : World) (v : Value) (n : Nat) (hn : n ≤ 1048576) (hcode : CodeAt W v n) (c : Nat) (w : World) (hcur : Cur W v n c w) :
    Calls Tryz.prog 35 #[.pointer (some ⟨c, 0, none⟩)] w (CurTabInt (-1) 2 W v n c w) := by
  have HT := Lib.hid (table_any W v n hn hcode c)
  have HA := Lib.hid (anyTable_any W v n hn hcode c)
  have HB := Lib.hid (below_any W v n hn hcode c)
  have HO := Lib.hid (once_any W v n hn hcode c)
  have HP := Lib.hid (pick_any W v n hn hcode c)
  have HCW := Lib.hid hcur.lt
  have HWC : Hid (W.heap.size ≤ c) := Lib.hid (by obtain ⟨_, _, h, _⟩ := hcur; exact h)
  have hcur0 := hcur.kept (World.grownBy_alloc w (.cells #[.int .i64 0, .slice none 0 0] 29) none) (by simp) (by simp)
  have hg0 : w.grownBy (w.alloc (.cells #[.int .i64 0, .slice none 0 0] 29)) (some c) := World.grownBy_alloc w _ _
  have hz0 : BoxIs (w.alloc (.cells #[.int .i64 0, .slice none 0 0] 29)) w.heap.size 0 (.slice none 0 0) := heap_alloc_new w _
  go_enter Tryz.func35, Tryz.ntmps35
  go_wp2_with fail
  refine (HT.out _ hcur0).mono ?_
  rintro e w2 ⟨cc, u, ll, rfl, hll, hlr, hss, g2, hc2⟩
  have s2 := g2.size
  simp only [World.size_alloc] at s2
  obtain ⟨au, cu, rfl, -⟩ := hss.read
  have HST : Hid (TabSt W v n c w w2.heap.size cc (.slice au ll.length cu) ll (w2.alloc (.cells #[.int .i64 cc, .slice au ll.length cu] 29))) := Lib.hid
    ⟨(hz0.grown g2 (by have := HCW.out; simp; omega)).grown (World.grownBy_alloc w2 _ none) (by simp), heap_alloc_new w2 _,
     (hss.same (fun g _ hg => Below.heap_alloc _ _ _ hg)).base (by simp) (by simp), grown_trans (grown_trans hg0 g2) (World.grownBy_alloc w2 _ _),
     hc2.kept (World.grownBy_alloc w2 _ none) (by simp) (by simp), by omega⟩
  have HLL : Hid (ll.length ≤ 20) := Lib.hid (by omega)
  have HLR := Lib.hid hlr
  have sT : w.heap.size < w2.heap.size := by omega
  clear hz0 hg0 g2 hc2 hss hcur0 hcur hll hlr s2
  go_wp2_with fail
  refine (HO.out _ HST.out.c 14 (by omega) (by omega)).mono ?_
  rintro e w3 ⟨bq, rfl, g3, hc3⟩
  have HS3 := Lib.hid (HST.out.grown g3 hc3 HCW.out)
  obtain ⟨T, hT⟩ : ∃ T, T = w2.heap.size := ⟨_, rfl⟩
  rw [← hT] at HS3 sT ⊢
  clear hT g3 hc3 HST
  cases bq with
  | true =>
    go_wp2_with fail
    refine (HA.out _ HS3.out.c).mono ?_
    rintro e w4 ⟨cc', u', ll', rfl, hll', hlr', hss', g4, hc4⟩
    obtain ⟨au', cu', rfl, -⟩ := hss'.read
    have hcl := HCW.out
    obtain ⟨⟨c0, c1⟩, f0, f1⟩ := (HS3.out.b.grown g4 (by simp; omega)).cells
    have HS4 := Lib.hid (HS3.out.other g4 hc4 hss' (cc' := cc') HCW.out HWC.out)
    have HLL' := Lib.hid hll'
    have HLR' := Lib.hid hlr'
    clear g4 hc4 hss' hll' hlr' HS3
    go_wp2_with fail
    refine (HB.out _ HS4.out.c 2 (by omega) (by omega)).mono ?_
    rintro e w5 ⟨md, m0, m1, rfl, g5, hc5⟩
    have HS5 := Lib.hid (HS4.out.grown g5 hc5 HCW.out)
    clear g5 hc5 HS4
    go_wp2_with fail
    refine (HO.out _ HS5.out.c 20 (by omega) (by omega)).mono ?_
    rintro e w6 ⟨bm, rfl, g6, hc6⟩
    have HS6 := Lib.hid (HS5.out.grown g6 hc6 HCW.out)
    clear g6 hc6 HS5
    cases bm with
    | true =>
      have HAL := Lib.hid (fun o => HS6.out.alloc o HCW.out)
      have hcl := HCW.out
      have s6 := HS6.out.g.size
      go_wp2_with fail
      refine (HP.out _ (HAL.out _).c w6.heap.size 2 (-1) 2 (by omega) (by omega) (by omega) (by simp) (pick2 w6 _ rfl _)).mono ?_
      rintro e w7 ⟨y, y0, y1, rfl, g7, hc7⟩
      have HS7 := Lib.hid ((HAL.out _).grown g7 hc7 HCW.out)
      clear g7 hc7 HAL HS6
      obtain ⟨⟨c0, c1⟩, f0, f1⟩ := HS7.out.b.cells
      obtain ⟨⟨d0, d1⟩, e0, e1⟩ := HS7.out.z.cells
      have HF := Lib.hid (HS7.out.fin HCW.out HWC.out)
      go_wp2_with fail
      exact bodyPost_ret (v := .tuple #[.agg #[.int .i64 cc', .slice au' ll'.length cu'], .int .i64 y]) (by simp [results, Tryz.results35, go_sem, HF.out.1.1, HF.out.1.2]) rfl ⟨_, _, ll', _, y0, y1, rfl, HLL'.out, HLR'.out, HF.out.2.1, HF.out.2.2.1, HF.out.2.2.2⟩
    | false =>
      obtain ⟨⟨c0, c1⟩, f0, f1⟩ := HS6.out.b.cells
      obtain ⟨⟨d0, d1⟩, e0, e1⟩ := HS6.out.z.cells
      have HF := Lib.hid (HS6.out.fin HCW.out HWC.out)
      go_wp2_with fail
      exact bodyPost_ret (v := .tuple #[.agg #[.int .i64 cc', .slice au' ll'.length cu'], .int .i64 md]) (by simp [results, Tryz.results35, go_sem, HF.out.1.1, HF.out.1.2]) rfl ⟨_, _, ll', _, by omega, by omega, rfl, HLL'.out, HLR'.out, HF.out.2.1, HF.out.2.2.1, HF.out.2.2.2⟩
  | false =>
    have HS4 := HS3
    clear HS3
    go_wp2_with fail
    refine (HB.out _ HS4.out.c 2 (by omega) (by omega)).mono ?_
    rintro e w5 ⟨md, m0, m1, rfl, g5, hc5⟩
    have HS5 := Lib.hid (HS4.out.grown g5 hc5 HCW.out)
    clear g5 hc5 HS4
    go_wp2_with fail
    refine (HO.out _ HS5.out.c 20 (by omega) (by omega)).mono ?_
    rintro e w6 ⟨bm, rfl, g6, hc6⟩
    have HS6 := Lib.hid (HS5.out.grown g6 hc6 HCW.out)
    clear g6 hc6 HS5
    cases bm with
    | true =>
      have HAL := Lib.hid (fun o => HS6.out.alloc o HCW.out)
      have hcl := HCW.out
      have s6 := HS6.out.g.size
      go_wp2_with fail
      refine (HP.out _ (HAL.out _).c w6.heap.size 2 (-1) 2 (by omega) (by omega) (by omega) (by simp) (pick2 w6 _ rfl _)).mono ?_
      rintro e w7 ⟨y, y0, y1, rfl, g7, hc7⟩
      have HS7 := Lib.hid ((HAL.out _).grown g7 hc7 HCW.out)
      clear g7 hc7 HAL HS6
      obtain ⟨⟨c0, c1⟩, f0, f1⟩ := HS7.out.b.cells
      obtain ⟨⟨d0, d1⟩, e0, e1⟩ := HS7.out.z.cells
      have HF := Lib.hid (HS7.out.fin HCW.out HWC.out)
      go_wp2_with fail
      exact bodyPost_ret (v := .tuple #[.agg #[.int .i64 cc, .slice au ll.length cu], .int .i64 y]) (by simp [results, Tryz.results35, go_sem, HF.out.1.1, HF.out.1.2]) rfl ⟨_, _, ll, _, y0, y1, rfl, HLL.out, HLR.out, HF.out.2.1, HF.out.2.2.1, HF.out.2.2.2⟩
    | false =>
      obtain ⟨⟨c0, c1⟩, f0, f1⟩ := HS6.out.b.cells
      obtain ⟨⟨d0, d1⟩, e0, e1⟩ := HS6.out.z.cells
      have HF := Lib.hid (HS6.out.fin HCW.out HWC.out)
      go_wp2_with fail
      exact bodyPost_ret (v := .tuple #[.agg #[.int .i64 cc, .slice au ll.length cu], .int .i64 md]) (by simp [results, Tryz.results35, go_sem, HF.out.1.1, HF.out.1.2]) rfl ⟨_, _, ll, _, by omega, by omega, rfl, HLL.out, HLR.out, HF.out.2.1, HF.out.2.2.1, HF.out.2.2.2⟩
end Go.Proofs.YtnbjcelfdppkcadGreat
