/- Texts of this claim, merged: ExC. Conditions: as stated. -/
import Derived.Test.YtnbjcelfdppkcadGreatXz29
import Derived.Test.YtnbjcelfdppkcadGreatXz14
import Derived.Deep.CutBlock
namespace Go.Proofs.YtnbjcelfdppkcadGreat
open Go.RowKit

def ctrC (n : Int) (l : List (Int × Int)) (d : Int × Int) : Int := if ctrB n l d = true then n else 0
theorem ctr_none {n : Int} {l : List (Int × Int)} {d : Int × Int} (h : ¬ (arD n l = true ∧ depB n d.1 d.2 = true ∧ impB n l d = false)) : ctrC n l d = 0 ∧ ctrL n l d = [] ∧ ctrB n l d = false := by
  have hb : ctrB n l d = false := decide_eq_false h
  exact ⟨by unfold ctrC; rw [hb]; rfl, by unfold ctrL; rw [if_neg h], hb⟩
theorem bit_val (X k : Nat) : bits BinOp.and IntKind.i64 ((X : Int) / 2 ^ k) 1 = if bitB X k = true then 1 else 0 := by
  have e : (X : Int) / 2 ^ k % 2 = ((X / 2 ^ k % 2 : Nat) : Int) := by
    rw [Int.natCast_emod, Int.natCast_ediv, Int.natCast_pow]; rfl
  rw [i64_and_1, e]
  unfold bitB
  split
  · rename_i h
    rw [beq_iff_eq] at h
    rw [h]; rfl
  · rename_i h
    rw [beq_iff_eq] at h
    have : X / 2 ^ k % 2 = 0 := by omega
    rw [this]; rfl
section
set_option maxRecDepth 20000
set_option maxHeartbeats 3200000
end
end Go.Proofs.YtnbjcelfdppkcadGreat
