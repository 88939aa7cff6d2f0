/- The model's chapter 5: IsPartition, by contract. Conditions: as stated. -/
import Derived.Test.YtficnbeciohpfaaParA
namespace Go.Proofs.Ytficnbeciohpfaa
open Go.RowKit

/-- The rows of the first i classes. -/
def flatTo (p : List (List Int)) (i : Nat) : List Int := (p.take i).flatten
theorem flatTo_succ (p : List (List Int)) (i : Nat) (h : i < p.length) : flatTo p (i + 1) = flatTo p i ++ p.getD i [] := by
  unfold flatTo; rw [take_succ_getD p [] i h]; simp
theorem flatTo_len (p : List (List Int)) (i : Nat) : (flatTo p i).length = tot (p.take i) := by
  unfold flatTo tot; rw [List.length_flatten]
theorem flatTo_bd (p : List (List Int)) (i k : Nat) (h : i < p.length) (hk : k ≤ (p.getD i []).length) : (flatTo p i ++ (p.getD i []).take k).length ≤ tot p := by
  have h1 := tot_succ h
  have h2 := tot_take p (i + 1)
  rw [List.length_append, flatTo_len, List.length_take]
  omega
/-- The first row of the class before class i, or -1. -/
def lastTo (p : List (List Int)) : Nat → Int
  | 0 => -1
  | i + 1 => (p.getD i []).getD 0 0
/-- Row k of class i is as it should be. -/
def okX (R : Int) (p : List (List Int)) (i k : Nat) : Bool :=
  decide (0 ≤ (p.getD i []).getD k 0 ∧ (p.getD i []).getD k 0 ≤ R) && !(decide (0 < k) && decide ((p.getD i []).getD k 0 ≤ (p.getD i []).getD (k - 1) 0)) && !decide ((p.getD i []).getD k 0 ∈ flatTo p i ++ (p.getD i []).take k)
def okC (R : Int) (p : List (List Int)) (i : Nat) : Bool :=
  decide (2 ≤ (p.getD i []).length ∧ lastTo p i < (p.getD i []).getD 0 0) && (List.range (p.getD i []).length).all (okX R p i)
def partP (p : List (List Int)) (rows : Int) : Bool := (List.range p.length).all (okC (IntKind.i64.wrap (rows - 1)) p) && decide (0 ≤ rows ∧ rows ≤ 40)
theorem partP_no {p : List (List Int)} {rows : Int} {i : Nat} (hi : i < p.length) (h : okC (IntKind.i64.wrap (rows - 1)) p i = false) : partP p rows = false := by
  unfold partP
  have : (List.range p.length).all (okC (IntKind.i64.wrap (rows - 1)) p) = false := by
    rw [List.all_eq_false]; exact ⟨i, List.mem_range.mpr hi, by rw [h]; simp⟩
  rw [this]; rfl
theorem okC_no {R : Int} {p : List (List Int)} {i k : Nat} (hk : k < (p.getD i []).length) (h : okX R p i k = false) : okC R p i = false := by
  unfold okC
  have : (List.range (p.getD i []).length).all (okX R p i) = false := by
    rw [List.all_eq_false]; exact ⟨k, List.mem_range.mpr hk, by rw [h]; simp⟩
  rw [this]; simp
theorem okC_yes {R : Int} {p : List (List Int)} {i : Nat} (h1 : 2 ≤ (p.getD i []).length) (h2 : lastTo p i < (p.getD i []).getD 0 0) (h : ∀ k, k < (p.getD i []).length → okX R p i k = true) : okC R p i = true := by
  unfold okC
  rw [decide_eq_true (And.intro h1 h2), Bool.true_and, List.all_eq_true]
  exact fun k hk => h k (List.mem_range.mp hk)
theorem partP_yes {p : List (List Int)} {rows : Int} (h : ∀ i, i < p.length → okC (IntKind.i64.wrap (rows - 1)) p i = true) : partP p rows = decide (0 ≤ rows ∧ rows ≤ 40) := by
  unfold partP
  have : (List.range p.length).all (okC (IntKind.i64.wrap (rows - 1)) p) = true := by
    rw [List.all_eq_true]; exact fun i hi => h i (List.mem_range.mp hi)
  rw [this, Bool.true_and]
end Go.Proofs.Ytficnbeciohpfaa
