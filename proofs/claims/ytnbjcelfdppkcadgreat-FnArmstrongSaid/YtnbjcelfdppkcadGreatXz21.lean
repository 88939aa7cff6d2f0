/- Texts of this claim, merged: ClQ. Conditions: as stated. -/
import Derived.Test.YtnbjcelfdppkcadGreatXz14
import Derived.Test.YtnbjcelfdppkcadGreatXz20
import Derived.Test.YtnbjcelfdppkcadGreatXz13
import Derived.Deep.RegionLaw
namespace Go.Proofs.YtnbjcelfdppkcadGreat
open Go.RowKit

theorem bit_zero11 (X k : Nat) : (bits BinOp.and IntKind.i64 ((X : Int) / 2 ^ k) 1 == 0) = !bitB X k := by
  have e : (X : Int) / 2 ^ k % 2 = ((X / 2 ^ k % 2 : Nat) : Int) := by
    rw [Int.natCast_emod, Int.natCast_ediv, Int.natCast_pow]; rfl
  rw [i64_and_1, e]
  unfold bitB
  rw [Bool.eq_iff_iff, beq_iff_eq, Bool.not_eq_true', beq_eq_false_iff_ne]
  omega
def pjAt (l : List (Int × Int)) (s r x : Nat) (q : List (Int × Int)) : Bool := subN x s && (!bitB x r && (bitB (clo l x) r && !cvd q ((x : Int), (r : Int))))
def pjIn (l : List (Int × Int)) (s r : Nat) (ps : List Int) (q : List (Int × Int)) : Nat → List (Int × Int)
  | 0 => q
  | k + 1 => if pjAt l s r (ps.getD k 0).toNat (pjIn l s r ps q k) = true then pjIn l s r ps q k ++ [(ps.getD k 0, (r : Int))] else pjIn l s r ps q k
def pjOut (l : List (Int × Int)) (s : Nat) (ps : List Int) : Nat → List (Int × Int)
  | 0 => []
  | r + 1 => if bitB s r = true then pjIn l s r ps (pjOut l s ps r) ps.length else pjOut l s ps r
def pjL (n : Int) (l : List (Int × Int)) (s : Int) : List (Int × Int) := if (arD n l && isA n s) = true then pjOut l s.toNat (parts n) n.toNat else []
theorem pjIn_len (l : List (Int × Int)) (s r : Nat) (ps : List Int) (q : List (Int × Int)) : ∀ k, (pjIn l s r ps q k).length ≤ q.length + k
  | 0 => Nat.le_refl _
  | k + 1 => by
    have ih := pjIn_len l s r ps q k
    unfold pjIn
    split
    · rw [List.length_append, List.length_singleton]; omega
    · omega
theorem pjOut_len (l : List (Int × Int)) (s : Nat) (ps : List Int) : ∀ r, (pjOut l s ps r).length ≤ r * ps.length
  | 0 => Nat.zero_le _
  | r + 1 => by
    have ih := pjOut_len l s ps r
    have h := pjIn_len l s r ps (pjOut l s ps r) ps.length
    rw [Nat.succ_mul]
    unfold pjOut
    split
    · omega
    · omega
section
set_option maxRecDepth 20000
set_option maxHeartbeats 3200000
end
end Go.Proofs.YtnbjcelfdppkcadGreat
