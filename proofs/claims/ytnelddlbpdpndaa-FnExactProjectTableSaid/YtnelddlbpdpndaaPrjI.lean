/- A boxed table, in whatever world: plain facts. Conditions: as stated. -/
import Derived.Test.YtnelddlbpdpndaaPrjG
namespace Go.Proofs.Ytnelddlbpdpndaa
open Go.RowKit

/-- Block T holds the two cells of a table. -/
def BoxT (w : World) (T : Nat) (c : Int) (rv : Value) : Prop := w.heap[T]? = some (.cells #[.int .i64 c, rv] 27 (0, 0))
theorem BoxT.fresh (w : World) (c : Int) (rv : Value) : BoxT (w.alloc (.cells #[.int .i64 c, rv] 27)) w.heap.size c rv := by
  unfold BoxT World.alloc; simp
theorem BoxT.lt {w : World} {T : Nat} {c : Int} {rv : Value} (h : BoxT w T c rv) : T < w.heap.size := (Array.getElem?_eq_some_iff.1 h).1
theorem BoxT.cells {w : World} {T : Nat} {c : Int} {rv : Value} (h : BoxT w T c rv) : (w.cell? ⟨T, 0, none⟩ = some (.int .i64 c) ∧ w.cell? ⟨T, 1, none⟩ = some rv) ∧ w.frozen? ⟨T, 0, none⟩ = false ∧ w.frozen? ⟨T, 1, none⟩ = false := by
  unfold BoxT at h
  refine ⟨⟨?_, ?_⟩, ?_, ?_⟩ <;> simp [World.cell?, World.frozen?, h]
theorem BoxT.kept {w w' : World} {T D : Nat} {c : Int} {rv : Value} (h : BoxT w T c rv) (hb : Below D w w') (hT : T < D) : BoxT w' T c rv := (hb.block T hT).trans h
theorem BoxT.grown {w w' : World} {T : Nat} {c : Int} {u : Value} {row : Option Nat} (h : BoxT w T c u) (hg : w.grownBy w' row) (hT : row ≠ some T) : BoxT w' T c u := (hg.block T h.lt (Ne.symm hT)).trans h
theorem BoxT.set {w : World} {T : Nat} {c : Int} {rv rv' : Value} (h : BoxT w T c rv) : BoxT (w.setCell ⟨T, 1, none⟩ rv') T c rv' := by
  unfold BoxT at *
  simp only [World.setCell, Array.getElem?_modify]
  rw [if_pos trivial, h]
  rfl
theorem grown_alloc (w : World) (o : Obj) (row : Option Nat) : w.grownBy (w.alloc o) row :=
  ⟨rfl, rfl, rfl, by simp, fun k hk _ => Below.heap_alloc _ _ _ hk⟩
theorem grown_below {w w' : World} {row : Option Nat} (h : Below w.heap.size w w') : w.grownBy w' row := ⟨h.os, h.tape, h.output, h.size, fun k hk _ => h.block k hk⟩
theorem grown_new {w w1 w2 : World} {row row2 : Option Nat} (h : w.grownBy w1 row) (h2 : w1.grownBy w2 row2) (hr : ∀ k, row2 = some k → w.heap.size ≤ k) : w.grownBy w2 row :=
  ⟨h2.os.trans h.os, h2.tape.trans h.tape, h2.output.trans h.output, Nat.le_trans h.size h2.size, fun k hk hne => (h2.block k (Nat.lt_of_lt_of_le hk h.size) (fun e => by have := hr k e.symm; omega)).trans (h.block k hk hne)⟩
end Go.Proofs.Ytnelddlbpdpndaa
