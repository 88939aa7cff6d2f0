/- The program's agreeFamily and AgreeSets, by contract. Conditions: as stated. -/
import Derived.Test.YtcgkfbjdlhapkaaYa16
import Derived.Test.YtcgkfbjdlhapkaaYa17
namespace Go.Proofs.Ytcgkfbjdlhapkaa
open Go.RowKit

/-- A slice is no longer than its room. -/
def CapOk (v : Value) : Prop := ∀ a n cap, v = .slice a n cap → n ≤ cap
theorem OwnSS.capOk {w : World} {B C : Nat} {v : Value} {ll : List (List Int)} (h : OwnSS w B C v ll) : CapOk v := by
  obtain ⟨V, ⟨-, h1⟩, -⟩ := h
  intro a n cap e
  rcases h1 with ⟨h2, -⟩ | ⟨g, cap', cur, h2, -, -, h3, -⟩
  · rw [h2] at e; cases e; exact Nat.le_refl _
  · rw [h2] at e; cases e; exact h3
theorem agrTo_nat (m : Int) (r s : List Int) (n : Nat) (h : n ≤ 5) : ∃ Y : Nat, agrTo m r s n = (Y : Int) ∧ Y < 32 := by
  obtain ⟨h0, h1⟩ := agrTo_bd m r s n
  refine ⟨(agrTo m r s n).toNat, by omega, ?_⟩
  rcases (show n = 0 ∨ n = 1 ∨ n = 2 ∨ n = 3 ∨ n = 4 ∨ n = 5 by omega) with rfl | rfl | rfl | rfl | rfl | rfl <;> simp at h1 <;> omega
def agFI (c : Nat) (ll : List (List Int)) (m : Int) (k : Nat) (f : Nat → Bool) : Nat → (Nat → Bool)
  | 0 => f
  | n + 1 => setF (agFI c ll m k f n) (agrTo m (ll.getD n []) (ll.getD k []) c).toNat true
def agFO (c : Nat) (ll : List (List Int)) (m : Int) : Nat → (Nat → Bool)
  | 0 => noF
  | k + 1 => agFI c ll m k (agFO c ll m k) k
def agF (c : Int) (ll : List (List Int)) (m : Int) : Nat → Bool := if fineT c ll m = true then agFO c.toNat ll m ll.length else noF

end Go.Proofs.Ytcgkfbjdlhapkaa
