/- Texts of this claim, merged: ParA. Conditions: as stated. -/
import Derived.Test.YtficnbeciohpfaaSg7
namespace Go.Proofs.Ytficnbeciohpfaa
open Go.RowKit

/-- The place of the first class that has this row, or -1. -/
def clsI : List (List Int) → Int → Int
  | [], _ => -1
  | r :: t, x => if x ∈ r then 0 else if clsI t x < 0 then -1 else clsI t x + 1
theorem clsI_ge : ∀ (ll : List (List Int)) (x : Int), -1 ≤ clsI ll x ∧ clsI ll x < ll.length
  | [], _ => by simp [clsI]
  | r :: t, x => by
    have := clsI_ge t x
    unfold clsI
    split
    · simp
    · split <;> simp <;> omega
theorem clsI_hit : ∀ (ll : List (List Int)) (x : Int) (k : Nat), k < ll.length → (∀ i, i < k → x ∉ ll.getD i []) → x ∈ ll.getD k [] → clsI ll x = (k : Int)
  | [], _, k, h, _, _ => absurd h (Nat.not_lt_zero _)
  | r :: t, x, 0, _, _, h => by
    have h' : x ∈ r := h
    unfold clsI; rw [if_pos h']; rfl
  | r :: t, x, k + 1, h1, h2, h3 => by
    have h4 : x ∉ r := h2 0 (by omega)
    have ih := clsI_hit t x k (by simp at h1; omega) (fun i hi => by have := h2 (i + 1) (by omega); simpa using this) (by simpa using h3)
    unfold clsI; rw [if_neg h4, ih, if_neg (by omega)]; simp
theorem clsI_none : ∀ (ll : List (List Int)) (x : Int), (∀ i, i < ll.length → x ∉ ll.getD i []) → clsI ll x = -1
  | [], _, _ => rfl
  | r :: t, x, h => by
    have h4 : x ∉ r := h 0 (by simp)
    have ih := clsI_none t x (fun i hi => by have := h (i + 1) (by simp; omega); simpa using this)
    unfold clsI; rw [if_neg h4, ih]; rfl
/-- The rows less one of each of the first k classes. -/
def errTo (ll : List (List Int)) : Nat → Int
  | 0 => 0
  | k + 1 => errTo ll k + max 0 (((ll.getD k []).length : Int) - 1)
theorem errTo_bd (ll : List (List Int)) (h : ∀ i, i < ll.length → (ll.getD i []).length ≤ 1048576) : ∀ k, k ≤ ll.length → 0 ≤ errTo ll k ∧ errTo ll k ≤ 1048576 * k
  | 0, _ => by simp [errTo]
  | k + 1, hk => by
    have ih := errTo_bd ll h k (by omega)
    have := h k (by omega)
    unfold errTo
    omega
/-- A row lies in the class of q that f lies in; a class lies within one class of q. -/
def inQ (q : List (List Int)) (f x : Int) : Bool := decide (0 ≤ clsI q x ∧ clsI q x = clsI q f)
def finR (q : List (List Int)) (r : List Int) : Bool := !q.isEmpty && r.all (inQ q (r.getD 0 0))
def finB (p q : List (List Int)) : Bool := p.all (finR q)
end Go.Proofs.Ytficnbeciohpfaa
