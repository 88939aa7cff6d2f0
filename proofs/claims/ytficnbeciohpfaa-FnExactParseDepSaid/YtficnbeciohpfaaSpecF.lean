/- The model's FormatTable, by contract. Conditions: as stated. -/
import Derived.Test.YtficnbeciohpfaaSpecT2
import Derived.Test.YtficnbeciohpfaaSets5
import Derived.Test.YtficnbeciohpfaaFmt
namespace Go.Proofs.Ytficnbeciohpfaa
open Go.RowKit

/-- The text of a value. -/
def cellS (x : Int) : ByteArray := if x = -1 then ⟨#[110, 117, 108, 108]⟩ else itoaB x
def cellB (x : Int) : List UInt8 := (cellS x).data.toList
theorem cellB_small : ∀ i : Fin 41, (Lib.itoa ((i.val : Nat) : Int)).length ≤ 2 := by
  intro i
  have h := i.isLt
  rcases (show i.val < 10 ∨ 10 ≤ i.val by omega) with h1 | h1
  · have e : Lib.itoa ((i.val : Nat) : Int) = Lib.decDigits i.val := by
      unfold Lib.itoa; rw [if_neg (by omega)]; rfl
    rw [e, Lib.decDigits, dif_pos h1]; simp
  · have e : Lib.itoa ((i.val : Nat) : Int) = Lib.decDigits i.val := by
      unfold Lib.itoa; rw [if_neg (by omega)]; rfl
    rw [e, Lib.decDigits, dif_neg (by omega), Lib.decDigits, dif_pos (by omega)]; simp
theorem cellB_len {x : Int} (h0 : -1 ≤ x) (h1 : x ≤ 40) : (cellB x).length ≤ 4 := by
  unfold cellB cellS
  by_cases hx : x = -1
  · rw [if_pos hx]; simp
  · rw [if_neg hx]
    obtain ⟨X, rfl⟩ : ∃ X : Nat, x = (X : Int) := ⟨x.toNat, by omega⟩
    have := cellB_small ⟨X, by omega⟩
    unfold itoaB
    simp only at this ⊢
    omega
/-- The values of a row, the first k of them, blanks between. -/
def rowPre (r : List Int) : Nat → List UInt8
  | 0 => []
  | k + 1 => rowPre r k ++ ((if 0 < k then [32] else []) ++ cellB (r.getD k 0))
theorem rowPre_len {r : List Int} (h : ∀ x ∈ r, -1 ≤ x ∧ x ≤ 40) (k : Nat) (hk : k ≤ r.length) : (rowPre r k).length ≤ 5 * k := by
  induction k with
  | zero => simp [rowPre]
  | succ k ih =>
    have hx := h (r.getD k 0) (by rw [← get_getD r k (by omega)]; exact List.getElem_mem _)
    have h1 := cellB_len hx.1 hx.2
    have h2 := ih (by omega)
    unfold rowPre
    rw [List.length_append, List.length_append]
    split <;> simp only [List.length_cons, List.length_nil] <;> omega
def rowB (r : List Int) : List UInt8 := rowPre r r.length ++ [10]
/-- The rows' texts, the first i of them. -/
def rowsB (ll : List (List Int)) : Nat → List UInt8
  | 0 => []
  | i + 1 => rowsB ll i ++ rowB (ll.getD i [])
def headB (c : Int) : List UInt8 := (fmtA (2 ^ c.toNat - 1)).data.toList ++ [10]
/-- The text of a table, empty if it is not valid. -/
def fmtT (c : Int) (ll : List (List Int)) : ByteArray := if isT c ll = true then ⟨(headB c ++ rowsB ll ll.length).toArray⟩ else ⟨#[]⟩
theorem head_len : ∀ C : Fin 6, (headB ((C.val : Nat) : Int)).length ≤ 6 := by decide +kernel
theorem rowB_len {c : Int} {ll : List (List Int)} (h : isT c ll = true) {k : Nat} (hk : k < ll.length) : (rowB (ll.getD k [])).length ≤ 26 := by
  obtain ⟨h1, h2⟩ := isT_row h hk
  obtain ⟨-, h5, -⟩ := isT_bd h
  have := rowPre_len h2 (ll.getD k []).length (Nat.le_refl _)
  unfold rowB
  rw [List.length_append]
  simp only [List.length_cons, List.length_nil]
  omega
theorem rowsB_len {c : Int} {ll : List (List Int)} (h : isT c ll = true) (i : Nat) (hi : i ≤ ll.length) : (rowsB ll i).length ≤ 26 * i := by
  induction i with
  | zero => simp [rowsB]
  | succ i ih =>
    have h1 := rowB_len h (show i < ll.length by omega)
    have h2 := ih (by omega)
    unfold rowsB
    rw [List.length_append]; omega
end Go.Proofs.Ytficnbeciohpfaa
