/- Texts of sets: the model's FormatAttributes, by contract. Conditions: none. -/
import Derived.Test.YtkaalgbcdcbgoaaSets
namespace Go.Proofs.Ytkaalgbcdcbgoaa
open Go.RowKit

/-- The letters of the first k columns that X has. -/
def lets (X k : Nat) : List UInt8 := ((List.range k).filter (bitB X)).map fun (i : Nat) => UInt8.ofNat (65 + i)
theorem lets_succ (X k : Nat) : lets X (k + 1) = if bitB X k = true then lets X k ++ [UInt8.ofNat (65 + k)] else lets X k := by
  unfold lets
  rw [List.range_succ, List.filter_append, List.map_append]
  by_cases h : bitB X k = true
  · rw [if_pos h]; simp [h]
  · rw [if_neg h]; simp [h]
theorem lets_len (X k : Nat) : (lets X k).length ≤ k := by
  have := List.length_filter_le (bitB X) (List.range k)
  simpa [lets] using this
def noneB : ByteArray := ⟨#[110, 111, 110, 101]⟩
/-- The text of x, empty if x is no set of columns. -/
def fmtA (x : Int) : ByteArray := if 0 ≤ x ∧ x ≤ 31 then (if lets x.toNat 5 = [] then noneB else ⟨(lets x.toNat 5).toArray⟩) else ⟨#[]⟩
theorem abc_at (k : Nat) (hk : k < 5) : (({ data := #[65, 66, 67, 68, 69] } : ByteArray).extract k (k + 1)).data.toList = [UInt8.ofNat (65 + k)] := by
  rcases (show k = 0 ∨ k = 1 ∨ k = 2 ∨ k = 3 ∨ k = 4 by omega) with rfl | rfl | rfl | rfl | rfl <;> rfl

end Go.Proofs.Ytkaalgbcdcbgoaa
