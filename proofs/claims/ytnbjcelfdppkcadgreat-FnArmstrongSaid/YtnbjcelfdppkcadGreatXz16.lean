/- Texts of this claim, merged: ImG, ImH, ImI, ImK, ImL, ImM. Conditions: as stated. -/
import Derived.Test.YtnbjcelfdppkcadGreatXz4
import Derived.Test.YtnbjcelfdppkcadGreatXz15
import Derived.Test.YtnbjcelfdppkcadGreatXz8
import Derived.Test.YtnbjcelfdppkcadGreatXz9
import Derived.Test.YtnbjcelfdppkcadGreatXz13
namespace Go.Proofs.YtnbjcelfdppkcadGreat
open Go.RowKit

/-- The function of a mode. -/
def eqFn (m : Int) : Value := if m = 0 then .func (.func 103) #[] #[] else if m = 1 then .func (.func 104) #[] #[] else .nilFunc
theorem eqFn_0 : eqFn 0 = .func (.func 103) #[] #[] := rfl
theorem eqFn_1 : eqFn 1 = .func (.func 104) #[] #[] := rfl
theorem eqFun0_any (a b : Int) (w : World) :
    Calls Tryz.prog 103 #[.int .i64 a, .int .i64 b] w fun e w' => e = .returned (.bool (eqC 0 a b)) ∧ w = w' := by
  have HE := Lib.hid (show eqC 0 a b = decide (a = b) by unfold eqC; simp)
  go_enter Tryz.func103, Tryz.ntmps103
  go_wp2_with fail
  go_ret
  exact ⟨ret_b (by rw [HE.out]; rfl), rfl⟩
theorem eqFun1_any (a b : Int) (w : World) :
    Calls Tryz.prog 104 #[.int .i64 a, .int .i64 b] w fun e w' => e = .returned (.bool (eqC 1 a b)) ∧ w = w' := by
  by_cases h : a = b
  · subst h
    by_cases ha : a = -1
    · subst ha
      go_enter Tryz.func104, Tryz.ntmps104
      go_wp2_with fail
      go_ret
      exact ⟨ret_b (by decide), rfl⟩
    · have e1 : (a != -1) = true := by simpa using ha
      have HE := Lib.hid (show eqC 1 a a = true by unfold eqC; simp [ha])
      clear ha
      go_enter Tryz.func104, Tryz.ntmps104
      go_wp2_with fail
      go_ret
      exact ⟨ret_b HE.out, rfl⟩
  · have e0 : (a == b) = false := by simpa using h
    have HE := Lib.hid (show eqC 1 a b = false by unfold eqC; simp [h])
    clear h
    go_enter Tryz.func104, Tryz.ntmps104
    go_wp2_with fail
    go_ret
    exact ⟨ret_b HE.out, rfl⟩
theorem eqOf_any (m : Int) (w : World) :
    Calls Tryz.prog 80 #[.int .i64 m] w fun e w' => e = .returned (.tuple #[eqFn m, .bool (modeOk m)]) ∧ w = w' := by
  by_cases h0 : m = 0
  · subst h0
    go_enter Tryz.func80, Tryz.ntmps80
    go_wp2_with fail
    go_ret2
    exact ⟨rfl, rfl⟩
  · by_cases h1 : m = 1
    · subst h1
      go_enter Tryz.func80, Tryz.ntmps80
      go_wp2_with fail
      go_ret2
      exact ⟨rfl, rfl⟩
    · have e0 : (m == 0) = false := by simpa using h0
      have e1 : (m == 1) = false := by simpa using h1
      have HF := Lib.hid (show eqFn m = .nilFunc by unfold eqFn; rw [if_neg h0, if_neg h1])
      have HM := Lib.hid (show modeOk m = false by unfold modeOk; rw [decide_eq_false]; omega)
      clear h0 h1
      go_enter Tryz.func80, Tryz.ntmps80
      go_wp2_with fail
      go_ret2
      exact ⟨by rw [HF.out, HM.out]; rfl, rfl⟩
end Go.Proofs.YtnbjcelfdppkcadGreat
namespace Go.Proofs.YtnbjcelfdppkcadGreat
open Go.RowKit

/-- A valid table that has this column; that has this row. -/
def colB (c : Int) (ll : List (List Int)) (q : Int) : Bool := isT c ll && decide (0 ≤ q ∧ q ≤ c - 1)
def atRowB (c : Int) (ll : List (List Int)) (i : Int) : Bool := isT c ll && decide (0 ≤ i ∧ i ≤ (ll.length : Int) - 1)
end Go.Proofs.YtnbjcelfdppkcadGreat
namespace Go.Proofs.YtnbjcelfdppkcadGreat
open Go.RowKit

theorem modeOk_or {m : Int} (h : modeOk m = true) : m = 0 ∨ m = 1 := by simpa [modeOk] using h
theorem atRowB_iff {c i : Int} {ll : List (List Int)} : atRowB c ll i = true ↔ isT c ll = true ∧ 0 ≤ i ∧ i ≤ (ll.length : Int) - 1 := by simp [atRowB]
end Go.Proofs.YtnbjcelfdppkcadGreat
namespace Go.Proofs.YtnbjcelfdppkcadGreat
open Go.RowKit

/-- The family of a list's elements. -/
def memF (l : List Int) : Nat → Bool := fun j => decide ((j : Int) ∈ l)
theorem memF_nil : memF [] = noF := by funext j; simp [memF, noF]
theorem memF_snoc (l : List Int) (X : Nat) : memF (l ++ [(X : Int)]) = fun j => if j = X then true else memF l j := by
  funext j
  unfold memF
  by_cases h : j = X
  · subst h; simp
  · have h' : ¬ (j : Int) = (X : Int) := by omega
    simp [h, h']
/-- Every element is an integer that a slice of int may hold. -/
def I64s (l : List Int) : Prop := ∀ x ∈ l, -9223372036854775808 ≤ x ∧ x ≤ 9223372036854775807
def famOf (l : List Int) : Nat → Bool := if setsOk l = true then memF l else noF
theorem valB_nat {x : Int} (h : valB x = true) : ∃ X : Nat, x = (X : Int) ∧ X < 32 := by
  have : 0 ≤ x ∧ x ≤ 31 := by simpa [valB] using h
  exact ⟨x.toNat, by omega, by omega⟩

end Go.Proofs.YtnbjcelfdppkcadGreat
namespace Go.Proofs.YtnbjcelfdppkcadGreat
open Go.RowKit

def setF (f : Nat → Bool) (Y : Nat) (x : Bool) : Nat → Bool := fun j => if j = Y then x else f j
def kpIn (S : Int → Int → Bool) (l : List Int) (y : Int) (f : Nat → Bool) : Nat → (Nat → Bool)
  | 0 => f
  | n + 1 => if (l.getD n 0 != y && S (l.getD n 0) y) = true then setF (kpIn S l y f n) y.toNat false else kpIn S l y f n
def kpOut (S : Int → Int → Bool) (l : List Int) : Nat → (Nat → Bool)
  | 0 => memF l
  | i + 1 => kpIn S l (l.getD i 0) (kpOut S l i) l.length
def unsS (S : Int → Int → Bool) (l : List Int) : List Int := if setsOk l = true then lstF (kpOut S l l.length) else []
theorem setsOk_at {l : List Int} (h : setsOk l = true) : l.length ≤ 100 ∧ ∀ i, i < l.length → ∃ X : Nat, l.getD i 0 = (X : Int) ∧ X < 32 := by
  unfold setsOk at h
  simp only [Bool.and_eq_true, decide_eq_true_eq] at h
  refine ⟨h.2, fun i hi => ?_⟩
  have := List.all_eq_true.mp h.1 (l.getD i 0) (by rw [← get_getD l i hi]; exact List.getElem_mem hi)
  exact valB_nat this

/-- One set contains the other; is a part of it. -/
def supS (a b : Int) : Bool := partZ b a
def subS (a b : Int) : Bool := partZ a b
end Go.Proofs.YtnbjcelfdppkcadGreat
namespace Go.Proofs.YtnbjcelfdppkcadGreat
open Go.RowKit

/-- A slice is no longer than its room. -/
def CapOk (v : Value) : Prop := ∀ a n cap, v = .slice a n cap → n ≤ cap
theorem OwnSS.capOk {w : World} {B C : Nat} {v : Value} {ll : List (List Int)} (h : OwnSS w B C v ll) : CapOk v := by
  obtain ⟨V, ⟨-, h1⟩, -⟩ := h
  intro a n cap e
  rcases h1 with ⟨h2, -⟩ | ⟨g, cap', cur, h2, -, -, h3, -⟩
  · rw [h2] at e; cases e; exact Nat.le_refl _
  · rw [h2] at e; cases e; exact h3
theorem agrTo_nat (m : Int) (r s : List Int) (n : Nat) (h : n ≤ 5) : ∃ Y : Nat, agrTo m r s n = (Y : Int) ∧ Y < 32 := by
  obtain ⟨h0, h1⟩ := agrTo_bd m r s n
  refine ⟨(agrTo m r s n).toNat, by omega, ?_⟩
  rcases (show n = 0 ∨ n = 1 ∨ n = 2 ∨ n = 3 ∨ n = 4 ∨ n = 5 by omega) with rfl | rfl | rfl | rfl | rfl | rfl <;> simp at h1 <;> omega
def agFI (c : Nat) (ll : List (List Int)) (m : Int) (k : Nat) (f : Nat → Bool) : Nat → (Nat → Bool)
  | 0 => f
  | n + 1 => setF (agFI c ll m k f n) (agrTo m (ll.getD n []) (ll.getD k []) c).toNat true
def agFO (c : Nat) (ll : List (List Int)) (m : Int) : Nat → (Nat → Bool)
  | 0 => noF
  | k + 1 => agFI c ll m k (agFO c ll m k) k
def agF (c : Int) (ll : List (List Int)) (m : Int) : Nat → Bool := if fineT c ll m = true then agFO c.toNat ll m ll.length else noF

end Go.Proofs.YtnbjcelfdppkcadGreat
