/- Texts of this claim, merged: AgrDraw, AgrDraw2, AgrDraw3, AgrA. Conditions: as stated. -/
import Derived.Test.YtlecfkfcjhliiaaGreatWc4
import Derived.Test.YtlecfkfcjhliiaaGreatWc2
import Derived.Test.YtlecfkfcjhliiaaGreatWc10
import Derived.Test.YtlecfkfcjhliiaaGreatWc5
namespace Go.Proofs.YtlecfkfcjhliiaaGreat
open Go.RowKit

def CurList (most : Nat) (W : World) (v : Value) (n c : Nat) (w : World) (e : Ending) (w' : World) : Prop :=
  ∃ (u : Value) (l : List Int), e = .returned u ∧ l.length ≤ most ∧ (∀ x ∈ l, -1 ≤ x ∧ x ≤ 33) ∧ OwnI w' w.heap.size u l ∧ w.grownBy w' (some c) ∧ Cur W v n c w'
def DrawnList (w : World) (e : Ending) (w' : World) : Prop := ∃ (u : Value) (l : List Int), e = .returned u ∧ l.length ≤ 7 ∧ (∀ x ∈ l, -1 ≤ x ∧ x ≤ 33) ∧ OwnI w' w.heap.size u l ∧ Below w.heap.size w w'
end Go.Proofs.YtlecfkfcjhliiaaGreat
namespace Go.Proofs.YtlecfkfcjhliiaaGreat
open Go.RowKit

def CurTabInt (lo hi : Int) (W : World) (v : Value) (n c : Nat) (w : World) (e : Ending) (w' : World) : Prop :=
  ∃ (cc : Int) (u : Value) (ll : List (List Int)) (q : Int), lo ≤ q ∧ q ≤ hi ∧ e = .returned (.tuple #[.agg #[.int .i64 cc, u], .int .i64 q]) ∧ ll.length ≤ 20 ∧ (∀ r ∈ ll, r.length ≤ 10) ∧ OwnSS w' w.heap.size w'.heap.size u ll ∧ w.grownBy w' (some c) ∧ Cur W v n c w'
theorem pick2 (w : World) (C : Array Value) (hC : C = #[.int .i64 (-1), .int .i64 2]) (t : TypeId) :
    ∀ i, i < 2 → ∃ y : Int, -1 ≤ y ∧ y ≤ 2 ∧ (w.alloc (.cells C t)).cell? ⟨w.heap.size, i, none⟩ = some (.int .i64 y) := by
  intro i hi
  have e : (w.alloc (.cells C t)).cell? ⟨w.heap.size, i, none⟩ = C[i]? := World.cell?_alloc_mark w C t (0, 0) i
  rw [e, hC]
  rcases (show i = 0 ∨ i = 1 by omega) with rfl | rfl
  all_goals (refine ⟨_, ?_, ?_, rfl⟩ <;> decide)
/-- The state of the draw of a table: the result's cell, the table's own cell, the table, the growth, the cursor. -/
structure TabSt (W : World) (v : Value) (n c : Nat) (w : World) (T : Nat) (cc : Int) (u : Value) (ll : List (List Int)) (x : World) : Prop where
  z : BoxIs x w.heap.size 0 (.slice none 0 0)
  b : BoxIs x T cc u
  s : OwnSS x (w.heap.size + 1) x.heap.size u ll
  g : w.grownBy x (some c)
  c : Cur W v n c x
  t : w.heap.size < T
theorem TabSt.grown {W w x y : World} {v u : Value} {n c T : Nat} {cc : Int} {ll : List (List Int)} (h : TabSt W v n c w T cc u ll x) (hg : x.grownBy y (some c)) (hc : Cur W v n c y) (hcw : c < w.heap.size) : TabSt W v n c w T cc u ll y :=
  ⟨h.z.grown hg (by simp; omega), h.b.grown hg (by have := h.t; simp; omega), (h.s.same (same_grown hg (Nat.le_refl _) (by omega))).base (Nat.le_refl _) hg.size, grown_trans h.g hg, hc, h.t⟩
theorem TabSt.alloc {W w x : World} {v u : Value} {n c T : Nat} {cc : Int} {ll : List (List Int)} (h : TabSt W v n c w T cc u ll x) (o : Obj) (hcw : c < w.heap.size) : TabSt W v n c w T cc u ll (x.alloc o) :=
  h.grown (World.grownBy_alloc x o _) (h.c.kept (World.grownBy_alloc x o none) (by simp) (by simp)) hcw
/-- The answer: the table laid into the result's cell. -/
theorem TabSt.fin {W w x : World} {v u : Value} {n c T : Nat} {cc : Int} {ll : List (List Int)} (h : TabSt W v n c w T cc u ll x) (hcw : c < w.heap.size) (hW : W.heap.size ≤ c) :
    (((x.setCell ⟨w.heap.size, 0, none⟩ (.int .i64 cc)).setCell ⟨w.heap.size, 1, none⟩ u).cell? ⟨w.heap.size, 0, none⟩ = some (.int .i64 cc) ∧ ((x.setCell ⟨w.heap.size, 0, none⟩ (.int .i64 cc)).setCell ⟨w.heap.size, 1, none⟩ u).cell? ⟨w.heap.size, 1, none⟩ = some u) ∧
    OwnSS ((x.setCell ⟨w.heap.size, 0, none⟩ (.int .i64 cc)).setCell ⟨w.heap.size, 1, none⟩ u) w.heap.size ((x.setCell ⟨w.heap.size, 0, none⟩ (.int .i64 cc)).setCell ⟨w.heap.size, 1, none⟩ u).heap.size u ll ∧
    w.grownBy ((x.setCell ⟨w.heap.size, 0, none⟩ (.int .i64 cc)).setCell ⟨w.heap.size, 1, none⟩ u) (some c) ∧ Cur W v n c ((x.setCell ⟨w.heap.size, 0, none⟩ (.int .i64 cc)).setCell ⟨w.heap.size, 1, none⟩ u) :=
  ⟨((h.z.set0 (cc' := cc)).set (rv' := u)).cells.1,
   (h.s.same (((Same.refl _ _ _).setCell (p := ⟨w.heap.size, 0, none⟩) (.inl (by show w.heap.size < _; omega)) (.int .i64 cc)).setCell (p := ⟨w.heap.size, 1, none⟩) (.inl (by show w.heap.size < _; omega)) u)).base (by omega) (by simp),
   grown_set (grown_set h.g (p := ⟨w.heap.size, 0, none⟩) (Nat.le_refl _) _) (p := ⟨w.heap.size, 1, none⟩) (Nat.le_refl _) _,
   (h.c.set (p := ⟨w.heap.size, 0, none⟩) (by show W.heap.size ≤ w.heap.size; omega) (by show w.heap.size ≠ c; omega) (.int .i64 cc)).set (p := ⟨w.heap.size, 1, none⟩) (by show W.heap.size ≤ w.heap.size; omega) (by show w.heap.size ≠ c; omega) u⟩
/-- Another table takes the place of the drawn one. -/
theorem TabSt.other {W w x y : World} {v u u' : Value} {n c T : Nat} {cc cc' : Int} {ll ll' : List (List Int)} (h : TabSt W v n c w T cc u ll x) (hg : x.grownBy y (some c)) (hc : Cur W v n c y) (hs : OwnSS y x.heap.size y.heap.size u' ll') (hcw : c < w.heap.size) (hW : W.heap.size ≤ c) :
    TabSt W v n c w T cc' u' ll' ((y.setCell ⟨T, 0, none⟩ (.int .i64 cc')).setCell ⟨T, 1, none⟩ u') := by
  have hT := h.t
  have hb := h.b.lt
  have hx := h.g.size
  have hy := hg.size
  have hby := h.b.grown hg (by simp; omega)
  have hzy := h.z.grown hg (by simp; omega)
  exact ⟨(hzy.grown (grown_cell y ⟨T, 0, none⟩ (.int .i64 cc')) (by simp; omega)).grown (grown_cell _ ⟨T, 1, none⟩ u') (by simp; omega),
    (hby.set0 (cc' := cc')).set (rv' := u'),
    (hs.same (((Same.refl _ _ _).setCell (p := ⟨T, 0, none⟩) (.inl (by show T < _; omega)) (.int .i64 cc')).setCell (p := ⟨T, 1, none⟩) (.inl (by show T < _; omega)) u')).base (by omega) (by simp),
    grown_set (grown_set (grown_trans h.g hg) (p := ⟨T, 0, none⟩) (by show w.heap.size ≤ T; omega) _) (p := ⟨T, 1, none⟩) (by show w.heap.size ≤ T; omega) _,
    (hc.set (p := ⟨T, 0, none⟩) (by show W.heap.size ≤ T; omega) (by show T ≠ c; omega) (.int .i64 cc')).set (p := ⟨T, 1, none⟩) (by show W.heap.size ≤ T; omega) (by show T ≠ c; omega) u', hT⟩
set_option maxHeartbeats 3200000 in
set_option maxRecDepth 20000 in
theorem draw4_any (W : World) (v : Value) (n : Nat) (hn : n ≤ 1048576) (hcode : CodeAt W v n) (c : Nat) (w : World) (hcur : Cur W v n c w) :
    Calls Tryz.prog 22 #[.pointer (some ⟨c, 0, none⟩)] w (CurTabInt (-1) 2 W v n c w) := by
  have HT := Lib.hid (table_any W v n hn hcode c)
  have HA := Lib.hid (anyTable_any W v n hn hcode c)
  have HB := Lib.hid (below_any W v n hn hcode c)
  have HO := Lib.hid (once_any W v n hn hcode c)
  have HP := Lib.hid (pick_any W v n hn hcode c)
  have HCW := Lib.hid hcur.lt
  have HWC : Hid (W.heap.size ≤ c) := Lib.hid (by obtain ⟨_, _, h, _⟩ := hcur; exact h)
  have hcur0 := hcur.kept (World.grownBy_alloc w (.cells #[.int .i64 0, .slice none 0 0] 26) none) (by simp) (by simp)
  have hg0 : w.grownBy (w.alloc (.cells #[.int .i64 0, .slice none 0 0] 26)) (some c) := World.grownBy_alloc w _ _
  have hz0 : BoxIs (w.alloc (.cells #[.int .i64 0, .slice none 0 0] 26)) w.heap.size 0 (.slice none 0 0) := heap_alloc_new w _
  go_enter Tryz.func22, Tryz.ntmps22
  go_wp2_with fail
  refine (HT.out _ hcur0).mono ?_
  rintro e w2 ⟨cc, u, ll, rfl, hll, hlr, hss, g2, hc2⟩
  have s2 := g2.size
  simp only [World.size_alloc] at s2
  obtain ⟨au, cu, rfl, -⟩ := hss.read
  have HST : Hid (TabSt W v n c w w2.heap.size cc (.slice au ll.length cu) ll (w2.alloc (.cells #[.int .i64 cc, .slice au ll.length cu] 26))) := Lib.hid
    ⟨(hz0.grown g2 (by have := HCW.out; simp; omega)).grown (World.grownBy_alloc w2 _ none) (by simp), heap_alloc_new w2 _,
     (hss.same (fun g _ hg => Below.heap_alloc _ _ _ hg)).base (by simp) (by simp), grown_trans (grown_trans hg0 g2) (World.grownBy_alloc w2 _ _),
     hc2.kept (World.grownBy_alloc w2 _ none) (by simp) (by simp), by omega⟩
  have HLL : Hid (ll.length ≤ 20) := Lib.hid (by omega)
  have HLR := Lib.hid hlr
  have sT : w.heap.size < w2.heap.size := by omega
  clear hz0 hg0 g2 hc2 hss hcur0 hcur hll hlr s2
  go_wp2_with fail
  refine (HO.out _ HST.out.c 14 (by omega) (by omega)).mono ?_
  rintro e w3 ⟨bq, rfl, g3, hc3⟩
  have HS3 := Lib.hid (HST.out.grown g3 hc3 HCW.out)
  obtain ⟨T, hT⟩ : ∃ T, T = w2.heap.size := ⟨_, rfl⟩
  rw [← hT] at HS3 sT ⊢
  clear hT g3 hc3 HST
  cases bq with
  | true =>
    go_wp2_with fail
    refine (HA.out _ HS3.out.c).mono ?_
    rintro e w4 ⟨cc', u', ll', rfl, hll', hlr', hss', g4, hc4⟩
    obtain ⟨au', cu', rfl, -⟩ := hss'.read
    have hcl := HCW.out
    obtain ⟨⟨c0, c1⟩, f0, f1⟩ := (HS3.out.b.grown g4 (by simp; omega)).cells
    have HS4 := Lib.hid (HS3.out.other g4 hc4 hss' (cc' := cc') HCW.out HWC.out)
    have HLL' := Lib.hid hll'
    have HLR' := Lib.hid hlr'
    clear g4 hc4 hss' hll' hlr' HS3
    go_wp2_with fail
    refine (HB.out _ HS4.out.c 2 (by omega) (by omega)).mono ?_
    rintro e w5 ⟨md, m0, m1, rfl, g5, hc5⟩
    have HS5 := Lib.hid (HS4.out.grown g5 hc5 HCW.out)
    clear g5 hc5 HS4
    go_wp2_with fail
    refine (HO.out _ HS5.out.c 20 (by omega) (by omega)).mono ?_
    rintro e w6 ⟨bm, rfl, g6, hc6⟩
    have HS6 := Lib.hid (HS5.out.grown g6 hc6 HCW.out)
    clear g6 hc6 HS5
    cases bm with
    | true =>
      have HAL := Lib.hid (fun o => HS6.out.alloc o HCW.out)
      have hcl := HCW.out
      have s6 := HS6.out.g.size
      go_wp2_with fail
      refine (HP.out _ (HAL.out _).c w6.heap.size 2 (-1) 2 (by omega) (by omega) (by omega) (by simp) (pick2 w6 _ rfl _)).mono ?_
      rintro e w7 ⟨y, y0, y1, rfl, g7, hc7⟩
      have HS7 := Lib.hid ((HAL.out _).grown g7 hc7 HCW.out)
      clear g7 hc7 HAL HS6
      obtain ⟨⟨c0, c1⟩, f0, f1⟩ := HS7.out.b.cells
      obtain ⟨⟨d0, d1⟩, e0, e1⟩ := HS7.out.z.cells
      have HF := Lib.hid (HS7.out.fin HCW.out HWC.out)
      go_wp2_with fail
      exact bodyPost_ret (v := .tuple #[.agg #[.int .i64 cc', .slice au' ll'.length cu'], .int .i64 y]) (by simp [results, Tryz.results22, go_sem, HF.out.1.1, HF.out.1.2]) rfl ⟨_, _, ll', _, y0, y1, rfl, HLL'.out, HLR'.out, HF.out.2.1, HF.out.2.2.1, HF.out.2.2.2⟩
    | false =>
      obtain ⟨⟨c0, c1⟩, f0, f1⟩ := HS6.out.b.cells
      obtain ⟨⟨d0, d1⟩, e0, e1⟩ := HS6.out.z.cells
      have HF := Lib.hid (HS6.out.fin HCW.out HWC.out)
      go_wp2_with fail
      exact bodyPost_ret (v := .tuple #[.agg #[.int .i64 cc', .slice au' ll'.length cu'], .int .i64 md]) (by simp [results, Tryz.results22, go_sem, HF.out.1.1, HF.out.1.2]) rfl ⟨_, _, ll', _, by omega, by omega, rfl, HLL'.out, HLR'.out, HF.out.2.1, HF.out.2.2.1, HF.out.2.2.2⟩
  | false =>
    have HS4 := HS3
    clear HS3
    go_wp2_with fail
    refine (HB.out _ HS4.out.c 2 (by omega) (by omega)).mono ?_
    rintro e w5 ⟨md, m0, m1, rfl, g5, hc5⟩
    have HS5 := Lib.hid (HS4.out.grown g5 hc5 HCW.out)
    clear g5 hc5 HS4
    go_wp2_with fail
    refine (HO.out _ HS5.out.c 20 (by omega) (by omega)).mono ?_
    rintro e w6 ⟨bm, rfl, g6, hc6⟩
    have HS6 := Lib.hid (HS5.out.grown g6 hc6 HCW.out)
    clear g6 hc6 HS5
    cases bm with
    | true =>
      have HAL := Lib.hid (fun o => HS6.out.alloc o HCW.out)
      have hcl := HCW.out
      have s6 := HS6.out.g.size
      go_wp2_with fail
      refine (HP.out _ (HAL.out _).c w6.heap.size 2 (-1) 2 (by omega) (by omega) (by omega) (by simp) (pick2 w6 _ rfl _)).mono ?_
      rintro e w7 ⟨y, y0, y1, rfl, g7, hc7⟩
      have HS7 := Lib.hid ((HAL.out _).grown g7 hc7 HCW.out)
      clear g7 hc7 HAL HS6
      obtain ⟨⟨c0, c1⟩, f0, f1⟩ := HS7.out.b.cells
      obtain ⟨⟨d0, d1⟩, e0, e1⟩ := HS7.out.z.cells
      have HF := Lib.hid (HS7.out.fin HCW.out HWC.out)
      go_wp2_with fail
      exact bodyPost_ret (v := .tuple #[.agg #[.int .i64 cc, .slice au ll.length cu], .int .i64 y]) (by simp [results, Tryz.results22, go_sem, HF.out.1.1, HF.out.1.2]) rfl ⟨_, _, ll, _, y0, y1, rfl, HLL.out, HLR.out, HF.out.2.1, HF.out.2.2.1, HF.out.2.2.2⟩
    | false =>
      obtain ⟨⟨c0, c1⟩, f0, f1⟩ := HS6.out.b.cells
      obtain ⟨⟨d0, d1⟩, e0, e1⟩ := HS6.out.z.cells
      have HF := Lib.hid (HS6.out.fin HCW.out HWC.out)
      go_wp2_with fail
      exact bodyPost_ret (v := .tuple #[.agg #[.int .i64 cc, .slice au ll.length cu], .int .i64 md]) (by simp [results, Tryz.results22, go_sem, HF.out.1.1, HF.out.1.2]) rfl ⟨_, _, ll, _, by omega, by omega, rfl, HLL.out, HLR.out, HF.out.2.1, HF.out.2.2.1, HF.out.2.2.2⟩
end Go.Proofs.YtlecfkfcjhliiaaGreat
namespace Go.Proofs.YtlecfkfcjhliiaaGreat
open Go.RowKit

def DrawTab2 (w : World) (e : Ending) (w' : World) : Prop :=
  ∃ (cc : Int) (u : Value) (ll : List (List Int)) (m q : Int), -1 ≤ m ∧ m ≤ 2 ∧ -1 ≤ q ∧ q ≤ 33 ∧ e = .returned (.tuple #[.agg #[.int .i64 cc, u], .int .i64 m, .int .i64 q]) ∧ ll.length ≤ 20 ∧ (∀ r ∈ ll, r.length ≤ 10) ∧ OwnSS w' w.heap.size w'.heap.size u ll ∧ Below w.heap.size w w'
def ThreeIn (w : World) (e : Ending) (w' : World) : Prop := ∃ x y z : Int, e = .returned (.tuple #[.int .i64 x, .int .i64 y, .int .i64 z]) ∧ Below w.heap.size w w'
end Go.Proofs.YtlecfkfcjhliiaaGreat
namespace Go.Proofs.YtlecfkfcjhliiaaGreat
open Go.RowKit

def modeOk (m : Int) : Bool := decide (m = 0 ∨ m = 1)
/-- Two values are equal in this mode. -/
def eqC (m a b : Int) : Bool := decide ((m = 0 ∨ m = 1) ∧ a = b ∧ (m = 0 ∨ a ≠ -1))
theorem l4Mode_any (m : Int) (w : World) :
    Calls Tryz.prog 68 #[.int .i64 m] w fun e w' => e = .returned (.bool (modeOk m)) ∧ w = w' := by
  unfold modeOk
  by_cases h0 : m = 0
  · subst h0
    go_enter Tryz.func68, Tryz.ntmps68
    go_wp2_with fail
    go_ret
    exact ⟨rfl, rfl⟩
  · by_cases h1 : m = 1
    · subst h1
      go_enter Tryz.func68, Tryz.ntmps68
      go_wp2_with fail
      go_ret
      exact ⟨rfl, rfl⟩
    · have e0 : (m == 0) = false := by simpa using h0
      have e1 : (m == 1) = false := by simpa using h1
      go_enter Tryz.func68, Tryz.ntmps68
      go_wp2_with fail
      go_ret
      exact ⟨ret_b (by rw [decide_eq_false (by omega)]), rfl⟩
theorem eqCells_any (m a b : Int) (w : World) :
    Calls Tryz.prog 80 #[.int .i64 m, .int .i64 a, .int .i64 b] w fun e w' => e = .returned (.bool (eqC m a b)) ∧ w = w' := by
  have HM := Lib.hid (l4Mode_any m w)
  cases hm : modeOk m with
  | false =>
    rw [hm] at HM
    have h : ¬ (m = 0 ∨ m = 1) := by simpa [modeOk] using hm
    have he : eqC m a b = false := by unfold eqC; rw [decide_eq_false]; omega
    have HE := Lib.hid he
    clear he hm h
    go_enter Tryz.func80, Tryz.ntmps80
    go_wp2_with fail
    refine HM.out.mono ?_
    rintro e w' ⟨rfl, rfl⟩
    go_wp2_with fail
    go_ret
    exact ⟨ret_b HE.out, rfl⟩
  | true =>
    rw [hm] at HM
    have h : m = 0 ∨ m = 1 := by simpa [modeOk] using hm
    clear hm
    by_cases hab : a = b
    · subst hab
      by_cases h0 : m = 0
      · subst h0
        have HE := Lib.hid (show eqC 0 a a = true by unfold eqC; simp)
        go_enter Tryz.func80, Tryz.ntmps80
        go_wp2_with fail
        refine HM.out.mono ?_
        rintro e w' ⟨rfl, rfl⟩
        go_wp2_with fail
        go_ret
        exact ⟨ret_b HE.out, rfl⟩
      · obtain rfl : m = 1 := by omega
        clear h h0
        by_cases ha : a = -1
        · subst ha
          have HE := Lib.hid (show eqC 1 (-1) (-1) = false by decide)
          go_enter Tryz.func80, Tryz.ntmps80
          go_wp2_with fail
          refine HM.out.mono ?_
          rintro e w' ⟨rfl, rfl⟩
          go_wp2_with fail
          go_ret
          exact ⟨ret_b HE.out, rfl⟩
        · have e1 : (a != -1) = true := by simpa using ha
          have HE := Lib.hid (show eqC 1 a a = true by unfold eqC; simp [ha])
          go_enter Tryz.func80, Tryz.ntmps80
          go_wp2_with fail
          refine HM.out.mono ?_
          rintro e w' ⟨rfl, rfl⟩
          go_wp2_with fail
          go_ret
          exact ⟨ret_b HE.out, rfl⟩
    · have e0 : (a == b) = false := by simpa using hab
      have HE := Lib.hid (show eqC m a b = false by unfold eqC; rw [decide_eq_false]; omega)
      clear h hab
      go_enter Tryz.func80, Tryz.ntmps80
      go_wp2_with fail
      refine HM.out.mono ?_
      rintro e w' ⟨rfl, rfl⟩
      go_wp2_with fail
      go_ret
      exact ⟨ret_b HE.out, rfl⟩
/-- The set of the columns below n in which two rows agree. -/
def agrTo (m : Int) (r s : List Int) : Nat → Int
  | 0 => 0
  | n + 1 => agrTo m r s n + (if eqC m (r.getD n 0) (s.getD n 0) = true then 2 ^ n else 0)
theorem agrTo_bd (m : Int) (r s : List Int) (n : Nat) : 0 ≤ agrTo m r s n ∧ agrTo m r s n < 2 ^ n := by
  induction n with
  | zero => simp [agrTo]
  | succ n ih =>
    have h2 : (2 : Int) ^ (n + 1) = 2 * 2 ^ n := by rw [Int.pow_succ]; omega
    unfold agrTo
    split <;> omega
/-- A valid table and a mode that there is. -/
def fineT (c : Int) (ll : List (List Int)) (m : Int) : Bool := isT c ll && modeOk m
set_option maxHeartbeats 800000 in
theorem l4Fine_any (c m : Int) (v : Value) (ll : List (List Int)) (w : World) (hr : ReadSS w v ll) (hl : ll.length ≤ 1048576) (ht : ∀ i, i < ll.length → (ll.getD i []).length ≤ 1048576) :
    Calls Tryz.prog 32 #[.agg #[.int .i64 c, v], .int .i64 m] w fun e w' => e = .returned (.bool (fineT c ll m)) ∧ Below w.heap.size w w' := by
  have hb1 := (Below.refl w.heap.size w).alloc (Nat.le_refl _) (.cells #[.int .i64 c, v] 26)
  have HV := Lib.hid (isTable_any c v ll (w.alloc (.cells #[.int .i64 c, v] 26)) (hr.kept hb1) hl ht)
  have HM := Lib.hid (l4Mode_any m)
  obtain ⟨a, cap, rfl, -⟩ := hr
  unfold fineT
  cases hv : isT c ll with
  | true =>
    rw [hv] at HV
    clear hv
    go_enter Tryz.func32, Tryz.ntmps32
    go_wp2_with fail
    refine HV.out.mono ?_
    rintro e w' ⟨rfl, b⟩
    have hb2 := hb1.trans (b.mono hb1.size)
    clear b hb1
    go_wp2_with fail
    refine (HM.out _).mono ?_
    rintro e w'' ⟨rfl, rfl⟩
    go_wp2_with fail
    go_ret
    exact ⟨ret_b (by rw [Bool.true_and]), hb2⟩
  | false =>
    rw [hv] at HV
    clear hv
    go_enter Tryz.func32, Tryz.ntmps32
    go_wp2_with fail
    refine HV.out.mono ?_
    rintro e w' ⟨rfl, b⟩
    have hb2 := hb1.trans (b.mono hb1.size)
    clear b hb1
    go_wp2_with fail
    go_ret
    exact ⟨ret_b (by rw [Bool.false_and]), hb2⟩
theorem or_pow (X : Int) (j : Nat) (hj : j ≤ 5) (h0 : 0 ≤ X) (h1 : X < 2 ^ j) : bits .or .i64 X (wrap64 (2 ^ j)) = X + 2 ^ j := by
  have hb : X < ((2 ^ j : Nat) : Int) := by simpa using h1
  rw [IntWalk.wrap64_in _ (by rcases (show j = 0 ∨ j = 1 ∨ j = 2 ∨ j = 3 ∨ j = 4 ∨ j = 5 by omega) with rfl | rfl | rfl | rfl | rfl | rfl <;> decide)]
  rcases (show j = 0 ∨ j = 1 ∨ j = 2 ∨ j = 3 ∨ j = 4 ∨ j = 5 by omega) with rfl | rfl | rfl | rfl | rfl | rfl
  all_goals exact i64_or_low _ h0 (by simp at h1; omega) hb (by decide) (by decide) (by decide)
set_option maxHeartbeats 1600000 in
theorem l4Agree_any (c m : Int) (i k : Nat) (v : Value) (ll : List (List Int)) (w : World) (hr : ReadSS w v ll) (hT : isT c ll = true) (hi : i < ll.length) (hk : k < ll.length) :
    Calls Tryz.prog 51 #[.agg #[.int .i64 c, v], .int .i64 m, .int .i64 (i : Int), .int .i64 (k : Int)] w fun e w' => e = .returned (.int .i64 (agrTo m (ll.getD i []) (ll.getD k []) c.toNat)) ∧ Below w.heap.size w w' := by
  obtain ⟨hc1, hc5, hl40⟩ := isT_bd hT
  have hri := (isT_row hT hi).1
  have hrk := (isT_row hT hk).1
  have hb1 := (Below.refl w.heap.size w).alloc (Nat.le_refl _) (.cells #[.int .i64 c, v] 26)
  obtain ⟨a, cap, rfl, ha⟩ := hr
  obtain ⟨x, ui, rfl, hxi, hui⟩ := ha i hi
  obtain ⟨x', uk, hx', hxk, huk⟩ := ha k hk
  obtain rfl := Option.some.inj hx'
  obtain ⟨C, rfl⟩ : ∃ C : Nat, c = (C : Int) := ⟨c.toNat, by omega⟩
  obtain ⟨r, hrr⟩ : ∃ r, r = ll.getD i [] := ⟨_, rfl⟩
  obtain ⟨s, hss⟩ : ∃ s, s = ll.getD k [] := ⟨_, rfl⟩
  rw [← hrr] at hui hri ⊢
  rw [← hss] at huk hrk ⊢
  have HUI := Lib.hid hui
  have HUK := Lib.hid huk
  have HRI := Lib.hid hri
  have HRK := Lib.hid hrk
  have HXI := Lib.hid hxi
  have HXK := Lib.hid hxk
  have HE := Lib.hid (eqCells_any m)
  have i0 : (0 : Int) ≤ (i : Int) := by omega
  have i1 : (i : Int) < (ll.length : Int) := by omega
  have k0 : (0 : Int) ≤ (k : Int) := by omega
  have k1 : (k : Int) < (ll.length : Int) := by omega
  rw [show ((C : Int)).toNat = C by omega]
  clear hrr hss hui huk hri hrk hxi hxk ha hx' hT
  go_enter Tryz.func51, Tryz.ntmps51
  go_wp2_with fail
  go_loopw [9, 10] (fun xv iv wr => ∃ j : Nat, j ≤ C ∧ iv = .int .i64 (j : Int) ∧ xv = .int .i64 (agrTo m r s j) ∧ Below (w.alloc (.cells #[.int .i64 (C : Int), .slice (some x) ll.length cap] 26)).heap.size (w.alloc (.cells #[.int .i64 (C : Int), .slice (some x) ll.length cap] 26)) wr) (fun _ iv _ => C - (intOf iv).toNat)
  case atStart => exact ⟨0, by omega, rfl, rfl, Below.refl _ _⟩
  case round =>
    obtain ⟨j, hj, rfl, rfl, hb⟩ := hrel
    obtain ⟨hc0, hcv⟩ := box2 hb
    have hb2 := hb1.trans (hb.mono hb1.size)
    have HB := Lib.hid hb
    clear hb
    by_cases hlt : j < C
    · have hy1 := (hb2.cell (World.block_lt_of_cell? w _ HXI.out)).trans HXI.out
      have hy2 := (hb2.cell (World.block_lt_of_cell? w _ HXK.out)).trans HXK.out
      obtain ⟨ai, capi, rfl, hai⟩ := HUI.out
      obtain ⟨ak, capk, rfl, hak⟩ := HUK.out
      have jr : j < r.length := by have := HRI.out; omega
      have js : j < s.length := by have := HRK.out; omega
      obtain ⟨xi, rfl, hci⟩ := hai j jr
      obtain ⟨xk, rfl, hck⟩ := hak j js
      have hz1 := (hb2.cell (World.block_lt_of_cell? w _ hci)).trans hci
      have hz2 := (hb2.cell (World.block_lt_of_cell? w _ hck)).trans hck
      have j0 : (0 : Int) ≤ (j : Int) := by omega
      have j1 : (j : Int) < (r.length : Int) := by omega
      have j2 : (j : Int) < (s.length : Int) := by omega
      have hgr : r[j] = r.getD j 0 := get_getD r j jr
      have hgs : s[j] = s.getD j 0 := get_getD s j js
      rw [hgr] at hz1
      rw [hgs] at hz2
      have HQ := Lib.hid (fun n => (HE.out (r.getD j 0) (s.getD j 0) (wr.drewN n)).mono fun e w' (h : e = _ ∧ _ = w') => And.intro h.1 h.2.symm)
      have HS : Hid (agrTo m r s (j + 1) = agrTo m r s j + (if eqC m (r.getD j 0) (s.getD j 0) = true then 2 ^ j else 0)) := Lib.hid rfl
      obtain ⟨p, hp⟩ : ∃ p, p = r.getD j 0 := ⟨_, rfl⟩
      obtain ⟨q, hq⟩ : ∃ q, q = s.getD j 0 := ⟨_, rfl⟩
      rw [← hp] at hz1 HQ HS
      rw [← hq] at hz2 HQ HS
      obtain ⟨X0, X1⟩ := agrTo_bd m r s j
      obtain ⟨X, hX⟩ : ∃ X, X = agrTo m r s j := ⟨_, rfl⟩
      rw [← hX] at X0 X1 HS ⊢
      clear hp hq hX hai hak hci hck hgr hgs
      cases he : eqC m p q with
      | true =>
        rw [he] at HQ HS
        clear he
        go_wp2_with fail
        go_quiet ((go_at_call 80; exact Calls.quiet_of_same (HQ.out _)))
        go_wp2_with fail
        go_roundw
        case rel => exact ⟨j + 1, by omega, by go_num, by rw [HS.out, or_pow X j (by omega) X0 X1]; simp, below_drewN HB.out _⟩
        case measure => simp [intOf]; omega
      | false =>
        rw [he] at HQ HS
        clear he
        go_wp2_with fail
        go_quiet ((go_at_call 80; exact Calls.quiet_of_same (HQ.out _)))
        go_wp2_with fail
        go_roundw
        case rel => exact ⟨j + 1, by omega, by go_num, by rw [HS.out]; simp, below_drewN HB.out _⟩
        case measure => simp [intOf]; omega
    · obtain rfl : j = C := by omega
      go_wp2_with fail
      go_ret
      exact ⟨rfl, hb2⟩
end Go.Proofs.YtlecfkfcjhliiaaGreat
