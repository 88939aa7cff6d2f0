/- Texts of this claim, merged: DepDraw, DepDraw2. Conditions: as stated. -/
import Derived.Test.YtfndnaldgaaieaaGreatDoorSi11
namespace Go.Proofs.YtfndnaldgaaieaaGreatDoor
open Go.RowKit

def CurDep (lo hi : Int) (W : World) (v : Value) (n c : Nat) (w : World) (e : Ending) (w' : World) : Prop :=
  ∃ l r : Int, lo ≤ l ∧ l ≤ 33 ∧ lo ≤ r ∧ r ≤ hi ∧ e = .returned (.agg #[.int .i64 l, .int .i64 r]) ∧ w.grownBy w' (some c) ∧ Cur W v n c w'
/-- A block of two ints: a dependency. -/
def DBox (w : World) (T : Nat) (l r : Int) : Prop := w.heap[T]? = some (.cells #[.int .i64 l, .int .i64 r] 28 (0, 0))
theorem DBox.cells {w : World} {T : Nat} {l r : Int} (h : DBox w T l r) : (w.cell? ⟨T, 0, none⟩ = some (.int .i64 l) ∧ w.cell? ⟨T, 1, none⟩ = some (.int .i64 r)) ∧ w.frozen? ⟨T, 0, none⟩ = false ∧ w.frozen? ⟨T, 1, none⟩ = false := by
  unfold DBox at h
  refine ⟨⟨?_, ?_⟩, ?_, ?_⟩
  · rw [cell_of_row w T 0 _ _ _ h]; rfl
  · rw [cell_of_row w T 1 _ _ _ h]; rfl
  · simp [World.frozen?, h]
  · simp [World.frozen?, h]
theorem DBox.lt {w : World} {T : Nat} {l r : Int} (h : DBox w T l r) : T < w.heap.size := (Array.getElem?_eq_some_iff.1 h).1
theorem DBox.grown {w w' : World} {T : Nat} {l r : Int} {row : Option Nat} (h : DBox w T l r) (hg : w.grownBy w' row) (hT : row ≠ some T) : DBox w' T l r := (hg.block T h.lt (Ne.symm hT)).trans h
theorem DBox.set0 {w : World} {T : Nat} {l r x : Int} (h : DBox w T l r) : DBox (w.setCell ⟨T, 0, none⟩ (.int .i64 x)) T x r := by
  unfold DBox at *
  simp only [World.setCell, Array.getElem?_modify]
  rw [if_pos trivial, h]
  rfl
theorem DBox.set1 {w : World} {T : Nat} {l r x : Int} (h : DBox w T l r) : DBox (w.setCell ⟨T, 1, none⟩ (.int .i64 x)) T l x := by
  unfold DBox at *
  simp only [World.setCell, Array.getElem?_modify]
  rw [if_pos trivial, h]
  rfl
/-- The result's cell is filled: the state at the return. -/
theorem fin_dep {W w x : World} {v : Value} {n c : Nat} {a b l r : Int} (hz : DBox x w.heap.size a b) (hg : w.grownBy x (some c)) (hc : Cur W v n c x) (hcw : c < w.heap.size) (hW : W.heap.size ≤ c) :
    DBox ((x.setCell ⟨w.heap.size, 0, none⟩ (.int .i64 l)).setCell ⟨w.heap.size, 1, none⟩ (.int .i64 r)) w.heap.size l r ∧
    w.grownBy ((x.setCell ⟨w.heap.size, 0, none⟩ (.int .i64 l)).setCell ⟨w.heap.size, 1, none⟩ (.int .i64 r)) (some c) ∧ Cur W v n c ((x.setCell ⟨w.heap.size, 0, none⟩ (.int .i64 l)).setCell ⟨w.heap.size, 1, none⟩ (.int .i64 r)) :=
  ⟨hz.set0.set1, grown_set (grown_set hg (p := ⟨w.heap.size, 0, none⟩) (Nat.le_refl _) _) (p := ⟨w.heap.size, 1, none⟩) (Nat.le_refl _) _,
   (hc.set (p := ⟨w.heap.size, 0, none⟩) (by show W.heap.size ≤ w.heap.size; omega) (by show w.heap.size ≠ c; omega) (.int .i64 l)).set (p := ⟨w.heap.size, 1, none⟩) (by show W.heap.size ≤ w.heap.size; omega) (by show w.heap.size ≠ c; omega) (.int .i64 r)⟩
set_option maxHeartbeats 1600000 in
set_option maxRecDepth 20000 in
theorem dep6_any (W : World) (v : Value) (n : Nat) (hn : n ≤ 1048576) (hcode : CodeAt W v n) (c : Nat) (w : World) (hcur : Cur W v n c w) (k : Int) (h1 : 1 ≤ k) (h2 : k ≤ 5) :
    Calls Tryz.prog 78 #[.pointer (some ⟨c, 0, none⟩), .int .i64 k] w (CurDep 0 4 W v n c w) := by
  have HB := Lib.hid (below_any W v n hn hcode c)
  have hlt := Lib.hid hcur.lt
  have hWc : Hid (W.heap.size ≤ c) := Lib.hid (by obtain ⟨_, _, h, _⟩ := hcur; exact h)
  have hg0 : Hid (w.grownBy (w.alloc (.cells #[.int .i64 0, .int .i64 0] 28)) (some c)) := Lib.hid (World.grownBy_alloc w _ _)
  have hz0 : Hid (DBox (w.alloc (.cells #[.int .i64 0, .int .i64 0] 28)) w.heap.size 0 0) := Lib.hid (heap_alloc_new w _)
  have HC0 := Lib.hid (hcur.kept (World.grownBy_alloc w (.cells #[.int .i64 0, .int .i64 0] 28) none) (by simp) (by simp))
  rcases (show k = 1 ∨ k = 2 ∨ k = 3 ∨ k = 4 ∨ k = 5 by omega) with rfl | rfl | rfl | rfl | rfl
  all_goals
    go_enter Tryz.func78, Tryz.ntmps78
    go_wp2_with fail
    refine (HB.out _ HC0.out _ (by omega) (by omega)).mono ?_
    rintro e w1 ⟨x, x0, x1, rfl, g1, hc1⟩
    have hz1 := Lib.hid (hz0.out.grown g1 (by have := hlt.out; simp; omega))
    go_wp2_with fail
    refine (HB.out w1 hc1 _ (by omega) (by omega)).mono ?_
    rintro e w2 ⟨y, y0, y1, rfl, g2, hc2⟩
    have hz2 := hz1.out.grown g2 (by have := hlt.out; simp; omega)
    have HF := Lib.hid (fin_dep (l := x) (r := y) hz2 (grown_trans (grown_trans hg0.out g1) g2) hc2 hlt.out hWc.out)
    obtain ⟨⟨d0, d1⟩, f0, f1⟩ := hz2.cells
    obtain ⟨⟨r0, r1⟩, -, -⟩ := HF.out.1.cells
    have HR := Lib.hid (And.intro r0 r1)
    clear r0 r1 g1 g2 hc1 hc2 hz2
    go_wp2_with fail
    exact bodyPost_ret (v := .agg #[.int .i64 x, .int .i64 y]) (by simp [results, Tryz.results78, go_sem, HR.out.1, HR.out.2]) rfl ⟨x, y, by omega, by omega, by omega, by omega, rfl, HF.out.2.1, HF.out.2.2⟩
/-- The state of the draw of a dependency: the result's cell, the own cell, the growth, the cursor. -/
structure DepSt (W : World) (v : Value) (n c : Nat) (w : World) (D : Nat) (l r : Int) (x : World) : Prop where
  z : DBox x w.heap.size 0 0
  b : DBox x D l r
  g : w.grownBy x (some c)
  t : w.heap.size < D
  k : c < w.heap.size
  o : W.heap.size ≤ c
  c : Cur W v n c x
theorem DepSt.grown {W w x y : World} {v : Value} {n c D : Nat} {l r : Int} (h : DepSt W v n c w D l r x) (hg : x.grownBy y (some c)) (hc : Cur W v n c y) : DepSt W v n c w D l r y :=
  ⟨h.z.grown hg (by have := h.k; simp; omega), h.b.grown hg (by have := h.t; have := h.k; simp; omega), grown_trans h.g hg, h.t, h.k, h.o, hc⟩
theorem DepSt.alloc {W w x : World} {v : Value} {n c D : Nat} {l r : Int} (h : DepSt W v n c w D l r x) (o : Obj) : DepSt W v n c w D l r (x.alloc o) :=
  h.grown (World.grownBy_alloc x o _) (h.c.kept (World.grownBy_alloc x o none) (by simp) (by simp))
theorem DepSt.put {W w x : World} {v : Value} {n c D : Nat} {l r : Int} (h : DepSt W v n c w D l r x) {p : Addr} (u : Value) {l' r' : Int} (hp : p.block = D) (hb : DBox (x.setCell p u) D l' r') : DepSt W v n c w D l' r' (x.setCell p u) :=
  ⟨h.z.grown (grown_cell x p u) (by have := h.t; rw [hp]; simp; omega), hb, grown_set h.g (by have := h.t; omega) u, h.t, h.k, h.o, h.c.set (by have := h.t; have := h.k; have := h.o; omega) (by have := h.t; have := h.k; omega) u⟩
theorem pick3d (w : World) (C : Array Value) (hC : C = #[.int .i64 (-1), .int .i64 4, .int .i64 5]) (t : TypeId) :
    ∀ i, i < 3 → ∃ y : Int, -1 ≤ y ∧ y ≤ 5 ∧ (w.alloc (.cells C t)).cell? ⟨w.heap.size, i, none⟩ = some (.int .i64 y) := by
  intro i hi
  have e : (w.alloc (.cells C t)).cell? ⟨w.heap.size, i, none⟩ = C[i]? := World.cell?_alloc_mark w C t (0, 0) i
  rw [e, hC]
  rcases (show i = 0 ∨ i = 1 ∨ i = 2 by omega) with rfl | rfl | rfl
  all_goals (refine ⟨_, ?_, ?_, rfl⟩ <;> decide)
set_option maxHeartbeats 3200000 in
set_option maxRecDepth 20000 in
theorem anyDep_any (W : World) (v : Value) (n : Nat) (hn : n ≤ 1048576) (hcode : CodeAt W v n) (c : Nat) (w : World) (hcur : Cur W v n c w) (k : Int) :
    Calls Tryz.prog 54 #[.pointer (some ⟨c, 0, none⟩), .int .i64 k] w (CurDep (-1) 5 W v n c w) := by
  have HB := Lib.hid (below_any W v n hn hcode c)
  have HD := Lib.hid (dep6_any W v n hn hcode c)
  have HY := Lib.hid (anySet_any W v n hn hcode c)
  have HP := Lib.hid (pick_any W v n hn hcode c)
  have hlt := Lib.hid hcur.lt
  have hWc : Hid (W.heap.size ≤ c) := Lib.hid (by obtain ⟨_, _, h, _⟩ := hcur; exact h)
  have hg0 : Hid (w.grownBy (w.alloc (.cells #[.int .i64 0, .int .i64 0] 28)) (some c)) := Lib.hid (World.grownBy_alloc w _ _)
  have hz0 : Hid (DBox (w.alloc (.cells #[.int .i64 0, .int .i64 0] 28)) w.heap.size 0 0) := Lib.hid (heap_alloc_new w _)
  have HC0 := Lib.hid (hcur.kept (World.grownBy_alloc w (.cells #[.int .i64 0, .int .i64 0] 28) none) (by simp) (by simp))
  by_cases hk : 1 ≤ k ∧ k ≤ 5
  all_goals
    go_enter Tryz.func54, Tryz.ntmps54
    go_wp2_with (go_at_call 43; refine (in_any _ _ _ _).mono ?_; rintro e w' ⟨rfl, rfl⟩; simp only [hk, decide_false])
    refine (HD.out _ HC0.out _ (by omega) (by omega)).mono ?_
    rintro e w1 ⟨x, y, x0, x1, y0, y1, rfl, g1, hc1⟩
    have s1 := g1.size
    simp only [World.size_alloc] at s1
    have HST : Hid (DepSt W v n c w w1.heap.size x y (w1.alloc (.cells #[.int .i64 x, .int .i64 y] 28))) := Lib.hid
      ⟨(hz0.out.grown g1 (by have := hlt.out; simp; omega)).grown (World.grownBy_alloc w1 _ none) (by simp), heap_alloc_new w1 _, grown_trans (grown_trans hg0.out g1) (World.grownBy_alloc w1 _ _), by omega, hlt.out, hWc.out, hc1.kept (World.grownBy_alloc w1 _ none) (by simp) (by simp)⟩
    clear g1 hc1
    go_wp2_with fail
    refine (HB.out _ HST.out.c 14 (by omega) (by omega)).mono ?_
    rintro e w2 ⟨z, z0, z1, rfl, g2, hc2⟩
    have HS2 := Lib.hid (HST.out.grown g2 hc2)
    obtain ⟨D, hD⟩ : ∃ D, D = w1.heap.size := ⟨_, rfl⟩
    rw [← hD] at HS2 ⊢
    clear hD g2 hc2 HST s1
    by_cases hz : z = 0
    · subst hz
      go_wp2_with fail
      refine (HY.out _ HS2.out.c).mono ?_
      rintro e w3 ⟨q, q0, q1, rfl, g3, hc3⟩
      have HS3 := HS2.out.grown g3 hc3
      obtain ⟨⟨b0, b1⟩, e0, e1⟩ := HS3.b.cells
      have HS4 := HS3.put (p := ⟨D, 0, none⟩) (.int .i64 q) rfl HS3.b.set0
      obtain ⟨⟨c0, c1⟩, f0, f1⟩ := HS4.b.cells
      obtain ⟨⟨d0, d1⟩, i0, i1⟩ := HS4.z.cells
      have HF := Lib.hid (fin_dep (l := q) (r := y) HS4.z HS4.g HS4.c HS4.k HS4.o)
      obtain ⟨⟨r0, r1⟩, -, -⟩ := HF.out.1.cells
      have HR := Lib.hid (And.intro r0 r1)
      clear r0 r1 HS4 HS3 g3 hc3
      go_wp2_with fail
      exact bodyPost_ret (v := .agg #[.int .i64 q, .int .i64 y]) (by simp [results, Tryz.results54, go_sem, HR.out.1, HR.out.2]) rfl ⟨q, y, by omega, by omega, by omega, by omega, rfl, HF.out.2.1, HF.out.2.2⟩
    · by_cases hz' : z = 1
      · subst hz'
        have HAL := Lib.hid (fun o => HS2.out.alloc o)
        have hcl := HS2.out.c.lt
        go_wp2_with fail
        refine (HP.out _ (HAL.out _).c w2.heap.size 3 (-1) 5 (by omega) (by omega) (by omega) (by simp) (pick3d w2 _ rfl _)).mono ?_
        rintro e w3 ⟨q, q0, q1, rfl, g3, hc3⟩
        have HS3 := (HAL.out _).grown g3 hc3
        obtain ⟨⟨b0, b1⟩, e0, e1⟩ := HS3.b.cells
        have HS4 := HS3.put (p := ⟨D, 1, none⟩) (.int .i64 q) rfl HS3.b.set1
        obtain ⟨⟨c0, c1⟩, f0, f1⟩ := HS4.b.cells
        obtain ⟨⟨d0, d1⟩, i0, i1⟩ := HS4.z.cells
        have HF := Lib.hid (fin_dep (l := x) (r := q) HS4.z HS4.g HS4.c HS4.k HS4.o)
        obtain ⟨⟨r0, r1⟩, -, -⟩ := HF.out.1.cells
        have HR := Lib.hid (And.intro r0 r1)
        clear r0 r1 HS4 HS3 g3 hc3
        go_wp2_with fail
        exact bodyPost_ret (v := .agg #[.int .i64 x, .int .i64 q]) (by simp [results, Tryz.results54, go_sem, HR.out.1, HR.out.2]) rfl ⟨x, q, by omega, by omega, by omega, by omega, rfl, HF.out.2.1, HF.out.2.2⟩
      · obtain ⟨⟨c0, c1⟩, f0, f1⟩ := HS2.out.b.cells
        obtain ⟨⟨d0, d1⟩, i0, i1⟩ := HS2.out.z.cells
        have HF := Lib.hid (fin_dep (l := x) (r := y) HS2.out.z HS2.out.g HS2.out.c HS2.out.k HS2.out.o)
        obtain ⟨⟨r0, r1⟩, -, -⟩ := HF.out.1.cells
        have HR := Lib.hid (And.intro r0 r1)
        clear r0 r1
        go_wp2_with fail
        exact bodyPost_ret (v := .agg #[.int .i64 x, .int .i64 y]) (by simp [results, Tryz.results54, go_sem, HR.out.1, HR.out.2]) rfl ⟨x, y, by omega, by omega, by omega, by omega, rfl, HF.out.2.1, HF.out.2.2⟩
end Go.Proofs.YtfndnaldgaaieaaGreatDoor
namespace Go.Proofs.YtfndnaldgaaieaaGreatDoor
open Go.RowKit

def DrawTD (w : World) (e : Ending) (w' : World) : Prop :=
  ∃ (cc : Int) (u : Value) (ll : List (List Int)) (m l r : Int), -1 ≤ m ∧ m ≤ 2 ∧ -1 ≤ l ∧ l ≤ 33 ∧ -1 ≤ r ∧ r ≤ 5 ∧ e = .returned (.tuple #[.agg #[.int .i64 cc, u], .int .i64 m, .agg #[.int .i64 l, .int .i64 r]]) ∧ ll.length ≤ 20 ∧ (∀ r ∈ ll, r.length ≤ 10) ∧ OwnSS w' w.heap.size w'.heap.size u ll ∧ Below w.heap.size w w'
/-- The state: both cells of the result, the table's own cell, the table, the growth, the cursor. -/
structure TdSt (W : World) (v : Value) (n c : Nat) (w : World) (T B : Nat) (cc : Int) (u : Value) (ll : List (List Int)) (cz : Int) (uz : Value) (lz rz : Int) (x : World) : Prop where
  z : BoxIs x w.heap.size cz uz
  d : DBox x (w.heap.size + 1) lz rz
  b : BoxIs x T cc u
  s : OwnSS x B T u ll
  g : w.grownBy x none
  e1 : w.heap.size + 1 < c
  e2 : c < B
  e3 : B ≤ T
  e4 : W.heap.size ≤ w.heap.size
  cur : Cur W v n c x
theorem TdSt.grown {W w x y : World} {v u uz : Value} {n c T B : Nat} {cc cz lz rz : Int} {ll : List (List Int)} (h : TdSt W v n c w T B cc u ll cz uz lz rz x) (hg : x.grownBy y (some c)) (hc : Cur W v n c y) : TdSt W v n c w T B cc u ll cz uz lz rz y :=
  ⟨h.z.grown hg (by have := h.e1; simp; omega), h.d.grown hg (by have := h.e1; simp; omega), h.b.grown hg (by have := h.e2; have := h.e3; simp; omega), h.s.same (same_grown hg (Nat.le_of_lt h.b.lt) h.e2),
   grown_above h.g hg (fun g e => by have := h.e1; simp at e; omega), h.e1, h.e2, h.e3, h.e4, hc⟩
theorem TdSt.still {W w x y : World} {v u uz : Value} {n c T B : Nat} {cc cz lz rz : Int} {ll : List (List Int)} (h : TdSt W v n c w T B cc u ll cz uz lz rz x) (hg : x.grownBy y none) : TdSt W v n c w T B cc u ll cz uz lz rz y :=
  h.grown ⟨hg.os, hg.tape, hg.output, hg.size, fun j hj _ => hg.block j hj (by simp)⟩ (h.cur.kept hg (by simp) (by simp))
theorem TdSt.put0 {W w x : World} {v u uz u' : Value} {n c T B : Nat} {cc cz lz rz c' : Int} {ll : List (List Int)} (h : TdSt W v n c w T B cc u ll cz uz lz rz x) : TdSt W v n c w T B cc u ll c' u' lz rz ((x.setCell ⟨w.heap.size, 0, none⟩ (.int .i64 c')).setCell ⟨w.heap.size, 1, none⟩ u') := by
  have h1 := h.e1
  have h2 := h.e2
  have h3 := h.e3
  have h4 := h.e4
  exact ⟨(h.z.set0 (cc' := c')).set (rv' := u'),
    (h.d.grown (grown_cell x ⟨w.heap.size, 0, none⟩ (.int .i64 c')) (by simp)).grown (grown_cell _ ⟨w.heap.size, 1, none⟩ u') (by simp),
    (h.b.grown (grown_cell x ⟨w.heap.size, 0, none⟩ (.int .i64 c')) (by simp; omega)).grown (grown_cell _ ⟨w.heap.size, 1, none⟩ u') (by simp; omega),
    h.s.same (((Same.refl _ _ _).setCell (p := ⟨w.heap.size, 0, none⟩) (.inl (by show w.heap.size < _; omega)) (.int .i64 c')).setCell (p := ⟨w.heap.size, 1, none⟩) (.inl (by show w.heap.size < _; omega)) u'),
    grown_set (grown_set h.g (p := ⟨w.heap.size, 0, none⟩) (Nat.le_refl _) _) (p := ⟨w.heap.size, 1, none⟩) (Nat.le_refl _) _, h1, h2, h3, h4,
    (h.cur.set (p := ⟨w.heap.size, 0, none⟩) (by show W.heap.size ≤ w.heap.size; omega) (by show w.heap.size ≠ c; omega) (.int .i64 c')).set (p := ⟨w.heap.size, 1, none⟩) (by show W.heap.size ≤ w.heap.size; omega) (by show w.heap.size ≠ c; omega) u'⟩
theorem TdSt.putd {W w x : World} {v u uz : Value} {n c T B : Nat} {cc cz lz rz l r : Int} {ll : List (List Int)} (h : TdSt W v n c w T B cc u ll cz uz lz rz x) : TdSt W v n c w T B cc u ll cz uz l r ((x.setCell ⟨w.heap.size + 1, 0, none⟩ (.int .i64 l)).setCell ⟨w.heap.size + 1, 1, none⟩ (.int .i64 r)) := by
  have h1 := h.e1
  have h2 := h.e2
  have h3 := h.e3
  have h4 := h.e4
  exact ⟨(h.z.grown (grown_cell x ⟨w.heap.size + 1, 0, none⟩ (.int .i64 l)) (by simp)).grown (grown_cell _ ⟨w.heap.size + 1, 1, none⟩ (.int .i64 r)) (by simp),
    h.d.set0.set1,
    (h.b.grown (grown_cell x ⟨w.heap.size + 1, 0, none⟩ (.int .i64 l)) (by simp; omega)).grown (grown_cell _ ⟨w.heap.size + 1, 1, none⟩ (.int .i64 r)) (by simp; omega),
    h.s.same (((Same.refl _ _ _).setCell (p := ⟨w.heap.size + 1, 0, none⟩) (.inl (by show w.heap.size + 1 < _; omega)) (.int .i64 l)).setCell (p := ⟨w.heap.size + 1, 1, none⟩) (.inl (by show w.heap.size + 1 < _; omega)) (.int .i64 r)),
    grown_set (grown_set h.g (p := ⟨w.heap.size + 1, 0, none⟩) (Nat.le_succ _) _) (p := ⟨w.heap.size + 1, 1, none⟩) (Nat.le_succ _) _, h1, h2, h3, h4,
    (h.cur.set (p := ⟨w.heap.size + 1, 0, none⟩) (by show W.heap.size ≤ w.heap.size + 1; omega) (by show w.heap.size + 1 ≠ c; omega) (.int .i64 l)).set (p := ⟨w.heap.size + 1, 1, none⟩) (by show W.heap.size ≤ w.heap.size + 1; omega) (by show w.heap.size + 1 ≠ c; omega) (.int .i64 r)⟩
set_option maxHeartbeats 3200000 in
set_option maxRecDepth 20000 in
theorem draw6_any (W : World) (v : Value) (n : Nat) (hn : n ≤ 1048576) (hcode : CodeAt W v n) (w : World) (hb : Below W.heap.size W w) :
    Calls Tryz.prog 25 #[v] w (DrawTD w) := by
  have hg0 : Hid (w.grownBy ((w.alloc (.cells #[.int .i64 0, .slice none 0 0] 26)).alloc (.cells #[.int .i64 0, .int .i64 0] 28)) none) := Lib.hid (grown_trans (World.grownBy_alloc w _ _) (World.grownBy_alloc _ _ _))
  have hz0 : Hid (BoxIs ((w.alloc (.cells #[.int .i64 0, .slice none 0 0] 26)).alloc (.cells #[.int .i64 0, .int .i64 0] 28)) w.heap.size 0 (.slice none 0 0)) := Lib.hid (BoxIs.grown (heap_alloc_new w _) (World.grownBy_alloc _ _ none) (by simp))
  have hd0 : Hid (DBox ((w.alloc (.cells #[.int .i64 0, .slice none 0 0] 26)).alloc (.cells #[.int .i64 0, .int .i64 0] 28)) (w.heap.size + 1) 0 0) := Lib.hid (by have := heap_alloc_new (w.alloc (.cells #[.int .i64 0, .slice none 0 0] 26)) (.cells #[.int .i64 0, .int .i64 0] 28); rwa [World.size_alloc] at this)
  have hbs := hb.size
  have H1 := Lib.hid (new_any W v n hn hcode _ ((hb.alloc hb.size (.cells #[.int .i64 0, .slice none 0 0] 26)).alloc (by simp; omega) (.cells #[.int .i64 0, .int .i64 0] 28)))
  have H2 := Lib.hid (draw4_any W v n hn hcode)
  have H3 := Lib.hid (anyDep_any W v n hn hcode)
  obtain ⟨a, cap, rfl⟩ := code_slice hcode
  go_enter Tryz.func25, Tryz.ntmps25
  go_wp2_with fail
  refine H1.out.mono ?_
  rintro e w1 ⟨c, hc, rfl, g1, hc1⟩
  go_wp2_with fail
  refine (H2.out c w1 hc1).mono ?_
  rintro e w2 ⟨cc, u, ll, md, md0, md1, rfl, hll, hlr, hss, g2, hc2⟩
  have s2 := g2.size
  have hcw := hc1.lt
  have hc' : w.heap.size + 1 < c := by simp at hc; omega
  obtain ⟨au, cu, rfl, -⟩ := hss.read
  have HS : Hid (TdSt W (.slice a n cap) n c w w2.heap.size w1.heap.size cc (.slice au ll.length cu) ll 0 (.slice none 0 0) 0 0 (w2.alloc (.cells #[.int .i64 cc, .slice au ll.length cu] 26))) := Lib.hid
    ⟨((hz0.out.grown g1 (by simp)).grown g2 (by simp; omega)).grown (World.grownBy_alloc w2 _ none) (by simp),
     ((hd0.out.grown g1 (by simp)).grown g2 (by simp; omega)).grown (World.grownBy_alloc w2 _ none) (by simp),
     heap_alloc_new w2 _, hss.same (fun g _ hg => Below.heap_alloc _ _ _ hg),
     grown_trans (grown_above (grown_trans hg0.out g1) g2 (fun g e => by simp at e; omega)) (World.grownBy_alloc w2 _ none), hc', hcw, s2, hbs, hc2.kept (World.grownBy_alloc w2 _ none) (by simp) (by simp)⟩
  clear hz0 hd0 hg0 g1 g2 hc2 hss hc1 hc
  go_wp2_with fail
  obtain ⟨T, hT⟩ : ∃ T, T = w2.heap.size := ⟨_, rfl⟩
  obtain ⟨w3, hw3⟩ : ∃ w3, w3 = w2.alloc (.cells #[.int .i64 cc, .slice au ll.length cu] 26) := ⟨_, rfl⟩
  rw [← hw3] at HS ⊢
  rw [← hT] at HS s2 ⊢
  clear hw3 hT
  have HD : Hid (TdSt W (.slice a n cap) n c w T w1.heap.size cc (.slice au ll.length cu) ll 0 (.slice none 0 0) 0 0 w3.drew) := Lib.hid (HS.out.still ⟨rfl, rfl, rfl, Nat.le_refl _, fun _ _ _ => rfl⟩)
  have HP := Lib.hid (HD.out.put0 (c' := cc) (u' := .slice au ll.length cu))
  obtain ⟨⟨c0, c1⟩, f0, f1⟩ := HD.out.b.cells
  obtain ⟨⟨d0, d1⟩, e0, e1⟩ := HD.out.z.cells
  obtain ⟨⟨k0, k1⟩, i0, i1⟩ := HP.out.b.cells
  obtain ⟨⟨m0, m1⟩, q0, q1⟩ := HS.out.b.cells
  clear HS
  go_region_law (go_simp; go_at_call 54; first
    | (refine (H3.out c _ HD.out.cur cc).mono ?_; rintro e w5 ⟨x, y, x0, x1, y0, y1, rfl, g5, hc5⟩; have S5 := Lib.hid (HD.out.grown g5 hc5); have S6 := Lib.hid (S5.out.put0 (c' := cc) (u' := .slice au ll.length cu)); have HF := Lib.hid (S6.out.putd (l := x) (r := y)); obtain ⟨⟨a0, a1⟩, b0, b1⟩ := S5.out.z.cells; obtain ⟨⟨h0, h1⟩, j0, j1⟩ := S6.out.d.cells; obtain ⟨⟨n0, n1⟩, -, -⟩ := S5.out.b.cells)
    | (refine (H3.out c _ HP.out.cur cc).mono ?_; rintro e w5 ⟨x, y, x0, x1, y0, y1, rfl, g5, hc5⟩; have S5 := Lib.hid (HP.out.grown g5 hc5); have HF := Lib.hid (S5.out.putd (l := x) (r := y)); obtain ⟨⟨h0, h1⟩, j0, j1⟩ := S5.out.d.cells))
  all_goals
    obtain ⟨⟨r0, r1⟩, -, -⟩ := HF.out.z.cells
    obtain ⟨⟨r2, r3⟩, -, -⟩ := HF.out.d.cells
    have HR := Lib.hid (And.intro (And.intro r0 r1) (And.intro r2 r3))
    clear r0 r1 r2 r3
    go_wp2_with fail
    exact bodyPost_ret (v := .tuple #[.agg #[.int .i64 cc, .slice au ll.length cu], .int .i64 md, .agg #[.int .i64 x, .int .i64 y]]) (by simp [results, Tryz.results25, go_sem, HR.out.1.1, HR.out.1.2, HR.out.2.1, HR.out.2.2]) rfl ⟨_, _, ll, md, x, y, md0, md1, by omega, by omega, by omega, by omega, rfl, hll, hlr, HF.out.s.base (by have := HF.out.e1; have := HF.out.e2; omega) (Nat.le_of_lt HF.out.b.lt), (Below.refl _ w).grown HF.out.g (Nat.le_refl _) (by simp)⟩
end Go.Proofs.YtfndnaldgaaieaaGreatDoor
