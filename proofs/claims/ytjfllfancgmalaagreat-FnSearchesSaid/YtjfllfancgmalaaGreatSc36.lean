/- Texts of this claim, merged: DepDraw, SeDraw. Conditions: as stated. -/
import Derived.Test.YtjfllfancgmalaaGreatAgrDraw2m
import Derived.Test.YtjfllfancgmalaaGreatSc30
namespace Go.Proofs.YtjfllfancgmalaaGreat
open Go.RowKit

def CurDep (lo hi : Int) (W : World) (v : Value) (n c : Nat) (w : World) (e : Ending) (w' : World) : Prop :=
  ∃ l r : Int, lo ≤ l ∧ l ≤ 33 ∧ lo ≤ r ∧ r ≤ hi ∧ e = .returned (.agg #[.int .i64 l, .int .i64 r]) ∧ w.grownBy w' (some c) ∧ Cur W v n c w'
/-- A block of two ints: a dependency. -/
def DBox (w : World) (T : Nat) (l r : Int) : Prop := w.heap[T]? = some (.cells #[.int .i64 l, .int .i64 r] 38 (0, 0))
theorem DBox.cells {w : World} {T : Nat} {l r : Int} (h : DBox w T l r) : (w.cell? ⟨T, 0, none⟩ = some (.int .i64 l) ∧ w.cell? ⟨T, 1, none⟩ = some (.int .i64 r)) ∧ w.frozen? ⟨T, 0, none⟩ = false ∧ w.frozen? ⟨T, 1, none⟩ = false := by
  unfold DBox at h
  refine ⟨⟨?_, ?_⟩, ?_, ?_⟩
  · rw [cell_of_row w T 0 _ _ _ h]; rfl
  · rw [cell_of_row w T 1 _ _ _ h]; rfl
  · simp [World.frozen?, h]
  · simp [World.frozen?, h]
theorem DBox.lt {w : World} {T : Nat} {l r : Int} (h : DBox w T l r) : T < w.heap.size := (Array.getElem?_eq_some_iff.1 h).1
theorem DBox.grown {w w' : World} {T : Nat} {l r : Int} {row : Option Nat} (h : DBox w T l r) (hg : w.grownBy w' row) (hT : row ≠ some T) : DBox w' T l r := (hg.block T h.lt (Ne.symm hT)).trans h
theorem DBox.set0 {w : World} {T : Nat} {l r x : Int} (h : DBox w T l r) : DBox (w.setCell ⟨T, 0, none⟩ (.int .i64 x)) T x r := by
  unfold DBox at *
  simp only [World.setCell, Array.getElem?_modify]
  rw [if_pos trivial, h]
  rfl
theorem DBox.set1 {w : World} {T : Nat} {l r x : Int} (h : DBox w T l r) : DBox (w.setCell ⟨T, 1, none⟩ (.int .i64 x)) T l x := by
  unfold DBox at *
  simp only [World.setCell, Array.getElem?_modify]
  rw [if_pos trivial, h]
  rfl
/-- The result's cell is filled: the state at the return. -/
theorem fin_dep {W w x : World} {v : Value} {n c : Nat} {a b l r : Int} (hz : DBox x w.heap.size a b) (hg : w.grownBy x (some c)) (hc : Cur W v n c x) (hcw : c < w.heap.size) (hW : W.heap.size ≤ c) :
    DBox ((x.setCell ⟨w.heap.size, 0, none⟩ (.int .i64 l)).setCell ⟨w.heap.size, 1, none⟩ (.int .i64 r)) w.heap.size l r ∧
    w.grownBy ((x.setCell ⟨w.heap.size, 0, none⟩ (.int .i64 l)).setCell ⟨w.heap.size, 1, none⟩ (.int .i64 r)) (some c) ∧ Cur W v n c ((x.setCell ⟨w.heap.size, 0, none⟩ (.int .i64 l)).setCell ⟨w.heap.size, 1, none⟩ (.int .i64 r)) :=
  ⟨hz.set0.set1, grown_set (grown_set hg (p := ⟨w.heap.size, 0, none⟩) (Nat.le_refl _) _) (p := ⟨w.heap.size, 1, none⟩) (Nat.le_refl _) _,
   (hc.set (p := ⟨w.heap.size, 0, none⟩) (by show W.heap.size ≤ w.heap.size; omega) (by show w.heap.size ≠ c; omega) (.int .i64 l)).set (p := ⟨w.heap.size, 1, none⟩) (by show W.heap.size ≤ w.heap.size; omega) (by show w.heap.size ≠ c; omega) (.int .i64 r)⟩
set_option maxHeartbeats 1600000 in
set_option maxRecDepth 20000 in
theorem dep6_any (W : World) (v : Value) (n : Nat) (hn : n ≤ 1048576) (hcode : CodeAt W v n) (c : Nat) (w : World) (hcur : Cur W v n c w) (k : Int) (h1 : 1 ≤ k) (h2 : k ≤ 5) :
    Calls Tryz.prog 50 #[.pointer (some ⟨c, 0, none⟩), .int .i64 k] w (CurDep 0 4 W v n c w) := by
  have HB := Lib.hid (below_any W v n hn hcode c)
  have hlt := Lib.hid hcur.lt
  have hWc : Hid (W.heap.size ≤ c) := Lib.hid (by obtain ⟨_, _, h, _⟩ := hcur; exact h)
  have hg0 : Hid (w.grownBy (w.alloc (.cells #[.int .i64 0, .int .i64 0] 38)) (some c)) := Lib.hid (World.grownBy_alloc w _ _)
  have hz0 : Hid (DBox (w.alloc (.cells #[.int .i64 0, .int .i64 0] 38)) w.heap.size 0 0) := Lib.hid (heap_alloc_new w _)
  have HC0 := Lib.hid (hcur.kept (World.grownBy_alloc w (.cells #[.int .i64 0, .int .i64 0] 38) none) (by simp) (by simp))
  rcases (show k = 1 ∨ k = 2 ∨ k = 3 ∨ k = 4 ∨ k = 5 by omega) with rfl | rfl | rfl | rfl | rfl
  all_goals
    go_enter Tryz.func50, Tryz.ntmps50
    go_wp2_with fail
    refine (HB.out _ HC0.out _ (by omega) (by omega)).mono ?_
    rintro e w1 ⟨x, x0, x1, rfl, g1, hc1⟩
    have hz1 := Lib.hid (hz0.out.grown g1 (by have := hlt.out; simp; omega))
    go_wp2_with fail
    refine (HB.out w1 hc1 _ (by omega) (by omega)).mono ?_
    rintro e w2 ⟨y, y0, y1, rfl, g2, hc2⟩
    have hz2 := hz1.out.grown g2 (by have := hlt.out; simp; omega)
    have HF := Lib.hid (fin_dep (l := x) (r := y) hz2 (grown_trans (grown_trans hg0.out g1) g2) hc2 hlt.out hWc.out)
    obtain ⟨⟨d0, d1⟩, f0, f1⟩ := hz2.cells
    obtain ⟨⟨r0, r1⟩, -, -⟩ := HF.out.1.cells
    have HR := Lib.hid (And.intro r0 r1)
    clear r0 r1 g1 g2 hc1 hc2 hz2
    go_wp2_with fail
    exact bodyPost_ret (v := .agg #[.int .i64 x, .int .i64 y]) (by simp [results, Tryz.results50, go_sem, HR.out.1, HR.out.2]) rfl ⟨x, y, by omega, by omega, by omega, by omega, rfl, HF.out.2.1, HF.out.2.2⟩
/-- The state of the draw of a dependency: the result's cell, the own cell, the growth, the cursor. -/
structure DepSt (W : World) (v : Value) (n c : Nat) (w : World) (D : Nat) (l r : Int) (x : World) : Prop where
  z : DBox x w.heap.size 0 0
  b : DBox x D l r
  g : w.grownBy x (some c)
  t : w.heap.size < D
  k : c < w.heap.size
  o : W.heap.size ≤ c
  c : Cur W v n c x
theorem DepSt.grown {W w x y : World} {v : Value} {n c D : Nat} {l r : Int} (h : DepSt W v n c w D l r x) (hg : x.grownBy y (some c)) (hc : Cur W v n c y) : DepSt W v n c w D l r y :=
  ⟨h.z.grown hg (by have := h.k; simp; omega), h.b.grown hg (by have := h.t; have := h.k; simp; omega), grown_trans h.g hg, h.t, h.k, h.o, hc⟩
theorem DepSt.alloc {W w x : World} {v : Value} {n c D : Nat} {l r : Int} (h : DepSt W v n c w D l r x) (o : Obj) : DepSt W v n c w D l r (x.alloc o) :=
  h.grown (World.grownBy_alloc x o _) (h.c.kept (World.grownBy_alloc x o none) (by simp) (by simp))
theorem DepSt.put {W w x : World} {v : Value} {n c D : Nat} {l r : Int} (h : DepSt W v n c w D l r x) {p : Addr} (u : Value) {l' r' : Int} (hp : p.block = D) (hb : DBox (x.setCell p u) D l' r') : DepSt W v n c w D l' r' (x.setCell p u) :=
  ⟨h.z.grown (grown_cell x p u) (by have := h.t; rw [hp]; simp; omega), hb, grown_set h.g (by have := h.t; omega) u, h.t, h.k, h.o, h.c.set (by have := h.t; have := h.k; have := h.o; omega) (by have := h.t; have := h.k; omega) u⟩
theorem pick3d (w : World) (C : Array Value) (hC : C = #[.int .i64 (-1), .int .i64 4, .int .i64 5]) (t : TypeId) :
    ∀ i, i < 3 → ∃ y : Int, -1 ≤ y ∧ y ≤ 5 ∧ (w.alloc (.cells C t)).cell? ⟨w.heap.size, i, none⟩ = some (.int .i64 y) := by
  intro i hi
  have e : (w.alloc (.cells C t)).cell? ⟨w.heap.size, i, none⟩ = C[i]? := World.cell?_alloc_mark w C t (0, 0) i
  rw [e, hC]
  rcases (show i = 0 ∨ i = 1 ∨ i = 2 by omega) with rfl | rfl | rfl
  all_goals (refine ⟨_, ?_, ?_, rfl⟩ <;> decide)
end Go.Proofs.YtjfllfancgmalaaGreat
namespace Go.Proofs.YtjfllfancgmalaaGreat
open Go.RowKit

/-- A search that was drawn, and the cursor behind it. -/
def CurSea (W : World) (v : Value) (n c : Nat) (w : World) (e : Ending) (w' : World) : Prop :=
  ∃ (cc m at_ t : Int) (u g : Value) (ll : List (List Int)) (F : List (Int × Int)), e = .returned (srcV cc u m at_ g t) ∧ ll.length ≤ 20 ∧ (∀ r ∈ ll, r.length ≤ 10) ∧ F.length ≤ 200 ∧ OwnSS w' w.heap.size w'.heap.size u ll ∧ OwnD w' w.heap.size g F ∧ w.grownBy w' (some c) ∧ Cur W v n c w'
theorem rsF_small (c : Int) (ll : List (List Int)) (m at_ : Int) (F : List (Int × Int)) (t b : Int) (hF : F.length ≤ 170) : (rsF c ll m at_ F t b).length ≤ 170 := by
  unfold rsF
  split
  · next h =>
    obtain ⟨C, K, n, rfl, rfl, rfl, hC1, hC5, hK, hN, -, -⟩ := isSB_all h
    have h1 := (repN_len C ll m (rnK (C : Int) ll m (K : Int) (n : Int) b)).1
    have h2 := (goN_le (C := C) (ll := ll) (m := m) (t0 := (n : Int)) (E := ((C * 2 ^ C : Nat) : Int)) (b := b) (C * 2 ^ C - K) K).2
    have h3 : rnK (C : Int) ll m (K : Int) (n : Int) b = goN C ll m (n : Int) ((C * 2 ^ C : Nat) : Int) b (C * 2 ^ C - K) K := rfl
    rw [show ((C : Int)).toNat = C from rfl]
    omega
  · exact hF
theorem grown_belowN {w w' : World} (h : Below w.heap.size w w') : w.grownBy w' none := ⟨h.os, h.tape, h.output, h.size, fun k hk _ => h.block k hk⟩
/-- A table's rows are kept when another search's box is written. -/
theorem OwnSS.offS {w y : World} {B C p : Nat} {v a0 a1 a2 a3 a4 a5 : Value} {ll : List (List Int)} (h : OwnSS w B C v ll) (hb : SBI w p a0 a1 a2 a3 a4 a5) (hy : ∀ q, q ≠ p → q < w.heap.size → y.heap[q]? = w.heap[q]?) : OwnSS y B C v ll := by
  obtain ⟨V, h1, h2, h3, h4⟩ := h
  unfold SBI at hb
  refine ⟨V, ⟨h1.1, ?_⟩, h2, fun i hi => ⟨(h3 i hi).1.same (fun g hg => hy g (fun e => ?_) ((h3 i hi).1.lt g hg).2), (h3 i hi).2⟩, h4⟩
  · rcases h1.2 with hn | ⟨q, cap, cur, rfl, hB, hgg, rest⟩
    · exact .inl hn
    · refine .inr ⟨q, cap, cur, rfl, hB, (hy q (fun e => ?_) (Array.getElem?_eq_some_iff.1 hgg).1).trans hgg, rest⟩
      subst e
      rw [hgg] at hb
      simp at hb
  · subst e
    rcases (h3 i hi).1.2 with ⟨e1, _⟩ | ⟨q, cap, cur, e1, hB, hgg, rest⟩
    · rw [e1] at hg; cases hg
    · rw [e1] at hg
      simp [Value.ownBlock] at hg
      subst hg
      rw [hgg] at hb
      simp at hb
theorem six_grown (x : World) (p : Nat) (b0 b1 b2 b3 b4 b5 : Value) : x.grownBy ((((((x.setCell ⟨p, 0, none⟩ b0).setCell ⟨p, 1, none⟩ b1).setCell ⟨p, 2, none⟩ b2).setCell ⟨p, 3, none⟩ b3).setCell ⟨p, 4, none⟩ b4).setCell ⟨p, 5, none⟩ b5) (some p) :=
  grown_trans (grown_trans (grown_trans (grown_trans (grown_trans (grown_cell x ⟨p, 0, none⟩ b0) (grown_cell _ ⟨p, 1, none⟩ b1)) (grown_cell _ ⟨p, 2, none⟩ b2)) (grown_cell _ ⟨p, 3, none⟩ b3)) (grown_cell _ ⟨p, 4, none⟩ b4)) (grown_cell _ ⟨p, 5, none⟩ b5)
/-- The state: the result's box, the search's own box p, its table, what it found, the growth, the cursor. -/
structure S8 (W : World) (v : Value) (n c : Nat) (w : World) (p : Nat) (cc m at_ t : Int) (u g : Value) (ll : List (List Int)) (F : List (Int × Int)) (x : World) : Prop where
  z : SBI x w.heap.size (.int .i64 0) (.slice none 0 0) (.int .i64 0) (.int .i64 0) (.slice none 0 0) (.int .i64 0)
  b : SBI x p (.int .i64 cc) u (.int .i64 m) (.int .i64 at_) g (.int .i64 t)
  s : OwnSS x (w.heap.size + 1) x.heap.size u ll
  d : OwnD x (w.heap.size + 1) g F
  g : w.grownBy x (some c)
  cr : Cur W v n c x
  e1 : c < w.heap.size
  e2 : w.heap.size < p
  e3 : W.heap.size ≤ c
section
variable {W w x y : World} {v : Value} {n c p : Nat} {cc m at_ t : Int} {u g : Value} {ll : List (List Int)} {F : List (Int × Int)}
theorem S8.grown (h : S8 W v n c w p cc m at_ t u g ll F x) (hg : x.grownBy y (some c)) (hc : Cur W v n c y) : S8 W v n c w p cc m at_ t u g ll F y :=
  ⟨h.z.eqb (hg.block _ h.z.lt (by have := h.e1; simp; omega)), h.b.eqb (hg.block _ h.b.lt (by have := h.e1; have := h.e2; simp; omega)),
   (h.s.same (same_grown hg (Nat.le_refl _) (by have := h.e1; omega))).base (Nat.le_refl _) hg.size,
   h.d.same (fun q hq => hg.block q (h.d.lt q hq).2 (by have := (h.d.lt q hq).1; have := h.e1; simp; omega)), grown_trans h.g hg, hc, h.e1, h.e2, h.e3⟩
theorem S8.still (h : S8 W v n c w p cc m at_ t u g ll F x) (hb : Below x.heap.size x y) : S8 W v n c w p cc m at_ t u g ll F y :=
  h.grown ⟨hb.os, hb.tape, hb.output, hb.size, fun j hj _ => hb.block j hj⟩ (h.cr.kept (grown_belowN hb) (by simp) (by simp))
theorem S8.drew (h : S8 W v n c w p cc m at_ t u g ll F x) : S8 W v n c w p cc m at_ t u g ll F x.drew := h.still (Below.refl _ _).drew
/-- Something is written into the search's own box. -/
theorem S8.put (h : S8 W v n c w p cc m at_ t u g ll F x) {cc' m' at' t' : Int} {u' g' : Value} {ll' : List (List Int)} {F' : List (Int × Int)} (hb : SBI y p (.int .i64 cc') u' (.int .i64 m') (.int .i64 at') g' (.int .i64 t')) (hp : x.grownBy y (some p))
    (ss : OwnSS x (w.heap.size + 1) x.heap.size u' ll') (dd : OwnD x (w.heap.size + 1) g' F') : S8 W v n c w p cc' m' at' t' u' g' ll' F' y := by
  have h1 := h.e1
  have h2 := h.e2
  have h3 := h.e3
  refine ⟨h.z.eqb (hp.block _ h.z.lt (by simp; omega)), hb, (ss.offS h.b (fun q hq hl => hp.block q hl (by simp; omega))).base (Nat.le_refl _) hp.size, dd.same (fun q hq => hp.block q (dd.lt q hq).2 (by have := sb_apart dd h.b q hq; simp; omega)), grown_above h.g hp (fun g e => by cases e; omega), h.cr.kept hp (fun k hk => by cases hk; omega) (by simp; omega), h1, h2, h3⟩
theorem S8.nxg (h : S8 W v n c w p cc m at_ t u g ll F x) (hg : x.grownBy y g.ownBlock) : SBI y p (.int .i64 cc) u (.int .i64 m) (.int .i64 at_) g (.int .i64 t) :=
  h.b.eqb (hg.block p h.b.lt (fun e => sb_apart h.d h.b p e.symm rfl))
/-- What was found has grown, and is laid into the search's box. -/
theorem S8.app (h : S8 W v n c w p cc m at_ t u g ll F x) {g' : Value} {F' : List (Int × Int)} (hg : x.grownBy y g.ownBlock) (ho : OwnD y (w.heap.size + 1) g' F') : S8 W v n c w p cc m at_ t u g' ll F' (y.setCell ⟨p, 4, none⟩ g') := by
  have h1 := h.e1
  have h2 := h.e2
  have h3 := h.e3
  have hb := h.nxg hg
  have hgc : ∀ k, g.ownBlock = some k → w.heap.size + 1 ≤ k := fun k hk => (h.d.lt k hk).1
  have hc' : Cur W v n c y := h.cr.kept hg (fun k hk => by have := hgc k hk; omega) (fun e => by have := hgc c e; omega)
  have hz : SBI y w.heap.size _ _ _ _ _ _ := h.z.eqb (hg.block _ h.z.lt (fun e => by have := hgc _ e.symm; omega))
  refine ⟨hz.eqb (Below.heap_setCell y ⟨p, 4, none⟩ g' w.heap.size (by show w.heap.size ≠ p; omega)), hb.one4, ?_, ho.same (fun q hq => Below.heap_setCell _ _ _ _ (sb_apart ho hb q hq)), ?_, ?_, h1, h2, h3⟩
  · exact ((h.s.keptD h.d hg).offS hb (fun q hq _ => Below.heap_setCell _ _ _ _ hq)).base (Nat.le_refl _) (by simpa using hg.size)
  · exact grown_set (grown_above h.g hg (fun k hk => by have := hgc k hk; omega)) (p := ⟨p, 4, none⟩) (Nat.le_of_lt h2) g'
  · exact hc'.set (p := ⟨p, 4, none⟩) (by show W.heap.size ≤ p; omega) (by show p ≠ c; omega) g'
/-- The answer: the search laid into the result's box. -/
theorem S8.fin (h : S8 W v n c w p cc m at_ t u g ll F x) (b0 b1 b2 b3 b4 b5 : Value) :
    OwnSS ((((((x.setCell ⟨w.heap.size, 0, none⟩ b0).setCell ⟨w.heap.size, 1, none⟩ b1).setCell ⟨w.heap.size, 2, none⟩ b2).setCell ⟨w.heap.size, 3, none⟩ b3).setCell ⟨w.heap.size, 4, none⟩ b4).setCell ⟨w.heap.size, 5, none⟩ b5) w.heap.size ((((((x.setCell ⟨w.heap.size, 0, none⟩ b0).setCell ⟨w.heap.size, 1, none⟩ b1).setCell ⟨w.heap.size, 2, none⟩ b2).setCell ⟨w.heap.size, 3, none⟩ b3).setCell ⟨w.heap.size, 4, none⟩ b4).setCell ⟨w.heap.size, 5, none⟩ b5).heap.size u ll ∧
    OwnD ((((((x.setCell ⟨w.heap.size, 0, none⟩ b0).setCell ⟨w.heap.size, 1, none⟩ b1).setCell ⟨w.heap.size, 2, none⟩ b2).setCell ⟨w.heap.size, 3, none⟩ b3).setCell ⟨w.heap.size, 4, none⟩ b4).setCell ⟨w.heap.size, 5, none⟩ b5) w.heap.size g F ∧
    w.grownBy ((((((x.setCell ⟨w.heap.size, 0, none⟩ b0).setCell ⟨w.heap.size, 1, none⟩ b1).setCell ⟨w.heap.size, 2, none⟩ b2).setCell ⟨w.heap.size, 3, none⟩ b3).setCell ⟨w.heap.size, 4, none⟩ b4).setCell ⟨w.heap.size, 5, none⟩ b5) (some c) ∧
    Cur W v n c ((((((x.setCell ⟨w.heap.size, 0, none⟩ b0).setCell ⟨w.heap.size, 1, none⟩ b1).setCell ⟨w.heap.size, 2, none⟩ b2).setCell ⟨w.heap.size, 3, none⟩ b3).setCell ⟨w.heap.size, 4, none⟩ b4).setCell ⟨w.heap.size, 5, none⟩ b5) := by
  have h1 := h.e1
  have h3 := h.e3
  have hs := fun (Y : Nat) => six_same (B := w.heap.size + 1) (C := Y) x (p := w.heap.size) b0 b1 b2 b3 b4 b5 (.inl (by omega))
  have gs : ∀ {a b : World} (q : Addr) (k : Value), a.grownBy b (some c) → a.heap.size ≤ q.block → a.grownBy (b.setCell q k) (some c) := fun q k hg hq => grown_set hg hq k
  have cs : ∀ {b : World} (o : Nat) (k : Value), Cur W v n c b → Cur W v n c (b.setCell ⟨w.heap.size, o, none⟩ k) := fun o k hc => hc.set (p := ⟨w.heap.size, o, none⟩) (by show W.heap.size ≤ w.heap.size; omega) (by show w.heap.size ≠ c; omega) k
  refine ⟨(h.s.same (hs x.heap.size)).base (by omega) (by simp), ((h.d.range.same (hs x.heap.size)).1).base (by omega), ?_, ?_⟩
  · exact gs ⟨w.heap.size, 5, none⟩ _ (gs ⟨w.heap.size, 4, none⟩ _ (gs ⟨w.heap.size, 3, none⟩ _ (gs ⟨w.heap.size, 2, none⟩ _ (gs ⟨w.heap.size, 1, none⟩ _ (gs ⟨w.heap.size, 0, none⟩ _ h.g (Nat.le_refl _)) (Nat.le_refl _)) (Nat.le_refl _)) (Nat.le_refl _)) (Nat.le_refl _)) (Nat.le_refl _)
  · exact cs 5 _ (cs 4 _ (cs 3 _ (cs 2 _ (cs 1 _ (cs 0 _ h.cr)))))
end
end Go.Proofs.YtjfllfancgmalaaGreat
