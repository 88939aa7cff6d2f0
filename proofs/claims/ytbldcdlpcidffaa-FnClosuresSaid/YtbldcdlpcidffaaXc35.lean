/- Texts of this claim, merged: ExD. Conditions: as stated. -/
import Derived.Test.YtbldcdlpcidffaaXc34
import Derived.Test.YtbldcdlpcidffaaXc21
import Derived.Test.YtbldcdlpcidffaaXc15
import Derived.Test.YtbldcdlpcidffaaXc9
import Derived.Deep.RegionLaw
import Derived.Deep.CutBlock
namespace Go.Proofs.Ytbldcdlpcidffaa
open Go.RowKit

theorem bit_zero12 (X k : Nat) : (bits BinOp.and IntKind.i64 ((X : Int) / 2 ^ k) 1 == 0) = !bitB X k := by
  have e : (X : Int) / 2 ^ k % 2 = ((X / 2 ^ k % 2 : Nat) : Int) := by
    rw [Int.natCast_emod, Int.natCast_ediv, Int.natCast_pow]; rfl
  rw [i64_and_1, e]
  unfold bitB
  rw [Bool.eq_iff_iff, beq_iff_eq, Bool.not_eq_true', beq_eq_false_iff_ne]
  omega
/-- What one agree set lets by: if it has Left it has Right. -/
def aB (x r : Nat) (a : Int) : Bool := !subN x a.toNat || bitB a.toNat r
def dasG (ag : List Int) (x r : Nat) : Bool := !bitB x r && ag.all (aB x r)
def dasOk (n : Int) (ag : List Int) : Bool := decide (1 ≤ n ∧ n ≤ 5) && ag.all (isA n)
/-- The minimal dependencies of a table with these agree sets. -/
def dasL (n : Int) (ag : List Int) : List (Int × Int) := if dasOk n ag = true then accOut (dasG ag) (parts n) n.toNat else []
theorem dasL_len (n : Int) (ag : List Int) : (dasL n ag).length ≤ 160 := by
  unfold dasL
  split
  · rename_i h
    unfold dasOk at h
    rw [Bool.and_eq_true, decide_eq_true_iff] at h
    obtain ⟨C, rfl⟩ : ∃ C : Nat, n = (C : Int) := ⟨n.toNat, by omega⟩
    have h1 := accOut_len (dasG ag) (parts (C : Int)) C
    have h2 := parts_len32 (C := C) (by omega)
    have h3 : C * (parts (C : Int)).length ≤ 5 * 32 := Nat.mul_le_mul (by omega) h2
    rw [show ((C : Int)).toNat = C from rfl]
    omega
  · simp
section
set_option maxRecDepth 20000
set_option maxHeartbeats 3200000
end
end Go.Proofs.Ytbldcdlpcidffaa
