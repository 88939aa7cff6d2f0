/- Texts of this claim, merged: ImT, ImJ, Fam, ImG, ImH, ImI, ImK. Conditions: as stated. -/
import Derived.Test.YtbldcdlpcidffaaXc15
import Derived.Test.YtbldcdlpcidffaaXc13
import Derived.Test.YtbldcdlpcidffaaXc4
import Derived.Laws.CopyOwn
import Derived.Laws.ResultCell
import Derived.Test.YtbldcdlpcidffaaXc8
import Derived.Test.YtbldcdlpcidffaaXc9
namespace Go.Proofs.Ytbldcdlpcidffaa
open Go.RowKit

end Go.Proofs.Ytbldcdlpcidffaa
namespace Go.Proofs.Ytbldcdlpcidffaa
open Go.RowKit

/-- The marks of a family. -/
def famC (f : Nat → Bool) : Array Value := ((List.range 32).map (fun i => Value.bool (f i))).toArray
theorem famC_size (f : Nat → Bool) : (famC f).size = 32 := by simp [famC]
theorem famC_get (f : Nat → Bool) (i : Nat) (h : i < 32) : (famC f)[i]? = some (.bool (f i)) := by
  simp [famC, h]
theorem famC_none : famC (fun _ => false) = Array.replicate 32 (.bool false) := by rfl
theorem famC_set (f : Nat → Bool) (i : Nat) (b : Bool) : (famC f).setIfInBounds i (.bool b) = famC (fun j => if j = i then b else f j) := by
  apply Array.ext_getElem?
  intro k
  rw [Array.getElem?_setIfInBounds]
  by_cases hk : k < 32
  · rw [famC_get _ k hk, famC_get _ k hk, famC_size]
    by_cases h : i = k
    · subst h; simp [hk]
    · have h' : ¬ k = i := fun e => h e.symm
      simp [h, h']
  · have e1 : (famC f)[k]? = none := by rw [Array.getElem?_eq_none]; rw [famC_size]; omega
    have e2 : (famC fun j => if j = i then b else f j)[k]? = none := by rw [Array.getElem?_eq_none]; rw [famC_size]; omega
    rw [e1, e2, famC_size]
    by_cases h : i = k
    · subst h; simp [hk]
    · simp [h]
theorem famC_congr {f g : Nat → Bool} (h : ∀ i, i < 32 → f i = g i) : famC f = famC g := by
  unfold famC
  congr 1
  apply List.map_congr_left
  intro i hi
  rw [h i (List.mem_range.mp hi)]
theorem famC_one (f : Nat → Bool) : (famC f).all (·.oneCell') = true := by
  simp [famC, Value.oneCell']
/-- The sets of a family in ascending order, those below n. -/
def lstTo (f : Nat → Bool) : Nat → List Int
  | 0 => []
  | n + 1 => if f n = true then lstTo f n ++ [(n : Int)] else lstTo f n
def lstF (f : Nat → Bool) : List Int := lstTo f 32
theorem lstTo_len (f : Nat → Bool) (n : Nat) : (lstTo f n).length ≤ n := by
  induction n with
  | zero => simp [lstTo]
  | succ n ih =>
    unfold lstTo
    split
    · simp; omega
    · omega
theorem boolOne (w : World) : (sizeOf 4).run Try.prog w = .ok 1 w := by
  have h : (Try.prog.info? 4).map (·.size) = some 1 := by kernel_rfl
  cases hq : Try.prog.info? 4 with
  | none => simp [hq] at h
  | some i => simp only [hq, Option.map_some, Option.some.injEq] at h; simp [sizeOf, typeInfo, hq, h]
end Go.Proofs.Ytbldcdlpcidffaa
namespace Go.Proofs.Ytbldcdlpcidffaa
open Go.RowKit

def noF : Nat → Bool := fun _ => false
end Go.Proofs.Ytbldcdlpcidffaa
namespace Go.Proofs.Ytbldcdlpcidffaa
open Go.RowKit

end Go.Proofs.Ytbldcdlpcidffaa
namespace Go.Proofs.Ytbldcdlpcidffaa
open Go.RowKit

/-- A valid table that has this column; that has this row. -/
def colB (c : Int) (ll : List (List Int)) (q : Int) : Bool := isT c ll && decide (0 ≤ q ∧ q ≤ c - 1)
def atRowB (c : Int) (ll : List (List Int)) (i : Int) : Bool := isT c ll && decide (0 ≤ i ∧ i ≤ (ll.length : Int) - 1)
end Go.Proofs.Ytbldcdlpcidffaa
namespace Go.Proofs.Ytbldcdlpcidffaa
open Go.RowKit

theorem modeOk_or {m : Int} (h : modeOk m = true) : m = 0 ∨ m = 1 := by simpa [modeOk] using h
theorem atRowB_iff {c i : Int} {ll : List (List Int)} : atRowB c ll i = true ↔ isT c ll = true ∧ 0 ≤ i ∧ i ≤ (ll.length : Int) - 1 := by simp [atRowB]
end Go.Proofs.Ytbldcdlpcidffaa
namespace Go.Proofs.Ytbldcdlpcidffaa
open Go.RowKit

/-- The family of a list's elements. -/
def memF (l : List Int) : Nat → Bool := fun j => decide ((j : Int) ∈ l)
theorem memF_nil : memF [] = noF := by funext j; simp [memF, noF]
theorem memF_snoc (l : List Int) (X : Nat) : memF (l ++ [(X : Int)]) = fun j => if j = X then true else memF l j := by
  funext j
  unfold memF
  by_cases h : j = X
  · subst h; simp
  · have h' : ¬ (j : Int) = (X : Int) := by omega
    simp [h, h']
/-- Every element is an integer that a slice of int may hold. -/
def I64s (l : List Int) : Prop := ∀ x ∈ l, -9223372036854775808 ≤ x ∧ x ≤ 9223372036854775807
def famOf (l : List Int) : Nat → Bool := if setsOk l = true then memF l else noF
theorem valB_nat {x : Int} (h : valB x = true) : ∃ X : Nat, x = (X : Int) ∧ X < 32 := by
  have : 0 ≤ x ∧ x ≤ 31 := by simpa [valB] using h
  exact ⟨x.toNat, by omega, by omega⟩

end Go.Proofs.Ytbldcdlpcidffaa
