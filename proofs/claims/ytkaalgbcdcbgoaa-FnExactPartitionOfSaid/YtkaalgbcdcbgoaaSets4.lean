/- Sets from their texts: the model's ParseAttributes, by contract. Conditions: none. -/
import Derived.Test.YtkaalgbcdcbgoaaSets3
namespace Go.Proofs.Ytkaalgbcdcbgoaa
open Go.RowKit

/-- Whether the text of x is s, as the program compares. -/
def isTx (s : ByteArray) (x : Nat) : Bool := (fmtA (x : Int)).toList == s.toList
/-- The set that s is the text of, and whether there is one. -/
def PaA (s : ByteArray) (x : Int) (ok : Bool) : Prop :=
  (∃ X : Nat, X < 32 ∧ x = (X : Int) ∧ isTx s X = true ∧ (∀ j, j < X → isTx s j = false) ∧ ok = true) ∨ ((∀ j, j < 32 → isTx s j = false) ∧ x = 0 ∧ ok = false)
theorem PaA.unique {s : ByteArray} {x x' : Int} {ok ok' : Bool} (h : PaA s x ok) (h' : PaA s x' ok') : x = x' ∧ ok = ok' := by
  rcases h with ⟨X, hX, rfl, ht, hn, rfl⟩ | ⟨hn, rfl, rfl⟩ <;> rcases h' with ⟨Y, hY, rfl, ht', hn', rfl⟩ | ⟨hn', rfl, rfl⟩
  · refine ⟨?_, rfl⟩
    rcases Nat.lt_trichotomy X Y with h | rfl | h
    · rw [hn' X h] at ht; cases ht
    · rfl
    · rw [hn Y h] at ht'; cases ht'
  · rw [hn' X hX] at ht; cases ht
  · rw [hn Y hY] at ht'; cases ht'
  · exact ⟨rfl, rfl⟩
theorem none_step {s : ByteArray} {k : Nat} (h : ∀ j, j < k → isTx s j = false) (hk : isTx s k = false) : ∀ j, j < k + 1 → isTx s j = false := fun j hj => by
  rcases Nat.lt_or_ge j k with h1 | h1
  · exact h j h1
  · obtain rfl : j = k := by omega
    exact hk

end Go.Proofs.Ytkaalgbcdcbgoaa
