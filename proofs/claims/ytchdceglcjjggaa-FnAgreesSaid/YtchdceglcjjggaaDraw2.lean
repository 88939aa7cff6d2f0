/- The drawing functions of chapter 1 of the model's package, by contract: numbers and texts in range. Conditions: as stated. -/
import Derived.Test.YtchdceglcjjggaaDraw
import Derived.Maps.AppendAt
namespace Go.Proofs.Ytchdceglcjjggaa
open Go.RowKit

theorem pick17 (w : World) (C : Array Value) (hC : C = #[.int .i64 (-1), .int .i64 0, .int .i64 127, .int .i64 128, .int .i64 255, .int .i64 256, .int .i64 16383, .int .i64 16384, .int .i64 65535, .int .i64 65536, .int .i64 562949953421311, .int .i64 562949953421312, .int .i64 999999999, .int .i64 1000000000, .int .i64 (-999999999), .int .i64 9223372036854775807, .int .i64 (-9223372036854775808)]) (t : TypeId) :
    ∀ i, i < 17 → ∃ y : Int, -9223372036854775808 ≤ y ∧ y ≤ 9223372036854775807 ∧ (w.alloc (.cells C t)).cell? ⟨w.heap.size, i, none⟩ = some (.int .i64 y) := by
  intro i hi
  have e : (w.alloc (.cells C t)).cell? ⟨w.heap.size, i, none⟩ = C[i]? := World.cell?_alloc_mark w C t (0, 0) i
  rw [e, hC]
  rcases (show i = 0 ∨ i = 1 ∨ i = 2 ∨ i = 3 ∨ i = 4 ∨ i = 5 ∨ i = 6 ∨ i = 7 ∨ i = 8 ∨ i = 9 ∨ i = 10 ∨ i = 11 ∨ i = 12 ∨ i = 13 ∨ i = 14 ∨ i = 15 ∨ i = 16 by omega) with rfl | rfl | rfl | rfl | rfl | rfl | rfl | rfl | rfl | rfl | rfl | rfl | rfl | rfl | rfl | rfl | rfl
  all_goals (refine ⟨_, ?_, ?_, rfl⟩ <;> decide)

def CurStr (W : World) (v : Value) (n c : Nat) (most : Int) (w : World) (e : Ending) (w' : World) : Prop :=
  ∃ s : ByteArray, (s.size : Int) ≤ most ∧ e = .returned (.string s) ∧ w.grownBy w' (some c) ∧ Cur W v n c w'
theorem grown_above {a b d : World} {row row' : Option Nat} (h : a.grownBy b row) (k : b.grownBy d row') (hr : ∀ g, row' = some g → a.heap.size ≤ g) : a.grownBy d row :=
  ⟨k.os.trans h.os, k.tape.trans h.tape, k.output.trans h.output, Nat.le_trans h.size k.size, fun j hj hne => (k.block j (Nat.lt_of_lt_of_le hj h.size) (fun e => by have := hr j e.symm; omega)).trans (h.block j hj hne)⟩
theorem le_of_grown {w wr : World} {row : Option Nat} (h : w.grownBy wr row) (o : Obj) : w.heap.size ≤ (wr.alloc o).heap.size := by have := h.size; simp; omega
theorem info8d : (Try.prog.info? 5).map (fun i => (i.zero, i.size, i.bytes)) = some (some (.int .u8 0), 1, 1) := by kernel_rfl
theorem OwnB.keptBy {w w' : World} {B : Nat} {E : TypeId} {v : Value} {l : List UInt8} {row : Option Nat} (h : OwnB w B E v l) (hg : w.grownBy w' row) (hr : ∀ g, row = some g → g < B) : OwnB w' B E v l := by
  refine World.ownsRow.kept h hg ?_
  cases hv : v.ownBlock with
  | none => exact .inl rfl
  | some g => right; intro e; have h1 := hr g e.symm; have h2 := (OwnB.lt h g hv).1; omega

end Go.Proofs.Ytchdceglcjjggaa
