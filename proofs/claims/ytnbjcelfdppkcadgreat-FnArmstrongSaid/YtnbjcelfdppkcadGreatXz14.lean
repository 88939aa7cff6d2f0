/- Texts of this claim, merged: ClD, ClL. Conditions: as stated. -/
import Derived.Test.YtnbjcelfdppkcadGreatXz13
namespace Go.Proofs.YtnbjcelfdppkcadGreat
open Go.RowKit

section
set_option maxRecDepth 20000
set_option maxHeartbeats 3200000
theorem isA_lt {C : Nat} {x : Int} (hC : C ≤ 5) (h : isA (C : Int) x = true) : ∃ X : Nat, x = (X : Int) ∧ X < 32 ∧ X < 2 ^ C := by
  unfold isA at h
  rw [decide_eq_true_iff, show ((C : Int)).toNat = C from rfl] at h
  have hz : ((2 ^ C : Nat) : Int) = (2 : Int) ^ C := by rw [Int.natCast_pow]; rfl
  have h32 := two5 hC
  exact ⟨x.toNat, by omega, by omega, by omega⟩
end
end Go.Proofs.YtnbjcelfdppkcadGreat
namespace Go.Proofs.YtnbjcelfdppkcadGreat
open Go.RowKit

def clrN (x i : Nat) : Nat := if bitB x i = true then x - 2 ^ i else x
theorem clrN_fin : ∀ (x : Fin 32) (i : Fin 5), bits .andNot .i64 ((x.val : Nat) : Int) (IntKind.i64.wrap (2 ^ i.val)) = ((clrN x.val i.val : Nat) : Int) ∧ clrN x.val i.val < 32 ∧ subN (clrN x.val i.val) x.val = true := by decide +kernel
theorem clrN_eq : ∀ (x : Fin 32) (i : Fin 5), (clrN x.val i.val == x.val) = !bitB x.val i.val := by decide +kernel
def redAt (l : List (Int × Int)) (R x i : Nat) : Nat := if bitB x i = true then (if bitB (clo l (clrN x i)) R = true then clrN x i else x) else x
def redN (l : List (Int × Int)) (R x : Nat) : Nat → Nat
  | 0 => x
  | i + 1 => redAt l R (redN l R x i) i
def redD (n : Int) (l : List (Int × Int)) (d : Int × Int) : Int × Int := if impB n l d = true then (((redN l d.2.toNat d.1.toNat 5 : Nat) : Int), d.2) else d
def Bx (w : World) (b : Nat) (x y : Int) : Prop := w.heap[b]? = some (.cells #[.int .i64 x, .int .i64 y] 35 (0, 0))
theorem Bx.c0 {w : World} {b : Nat} {x y : Int} (h : Bx w b x y) : w.cell? ⟨b, 0, none⟩ = some (.int .i64 x) := by rw [cell_of_row w b 0 _ _ _ h]; rfl
theorem Bx.c1 {w : World} {b : Nat} {x y : Int} (h : Bx w b x y) : w.cell? ⟨b, 1, none⟩ = some (.int .i64 y) := by rw [cell_of_row w b 1 _ _ _ h]; rfl
theorem Bx.f0 {w : World} {b : Nat} {x y : Int} (h : Bx w b x y) : w.frozen? ⟨b, 0, none⟩ = false := frozen_of_row w b 0 _ _ h
theorem Bx.f1 {w : World} {b : Nat} {x y : Int} (h : Bx w b x y) : w.frozen? ⟨b, 1, none⟩ = false := frozen_of_row w b 1 _ _ h
theorem Bx.keep {w w' : World} {b : Nat} {x y : Int} (h : Bx w b x y) (hb : Below w.heap.size w w') : Bx w' b x y := (hb.block b (World.block_lt_of_cell? w _ h.c0)).trans h
theorem Bx.set0 {w : World} {b : Nat} {x y : Int} (h : Bx w b x y) (z : Int) : Bx (w.setCell ⟨b, 0, none⟩ (.int .i64 z)) b z y := heap_setCell_same w b 0 _ _ _ h
theorem Bx.far {w : World} {b c k : Nat} {x y : Int} {v : Value} (h : Bx w b x y) (hc : b ≠ c) : Bx (w.setCell ⟨c, k, none⟩ v) b x y := (Below.heap_setCell w ⟨c, k, none⟩ v b hc).trans h
theorem bx_new (w : World) (x y : Int) : Bx (w.alloc (.cells #[.int .i64 x, .int .i64 y] 35)) w.heap.size x y := heap_alloc_new w _
section
set_option maxRecDepth 20000
set_option maxHeartbeats 3200000
end
end Go.Proofs.YtnbjcelfdppkcadGreat
