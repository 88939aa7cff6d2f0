/- Texts of this claim, merged: ImI, ImK, ImL, ImM, AgrF. Conditions: as stated. -/
import Derived.Test.YtlecfkfcjhliiaaWb14
import Derived.Test.YtlecfkfcjhliiaaWb22
import Derived.Test.YtlecfkfcjhliiaaWb8
import Derived.Test.YtlecfkfcjhliiaaWb11
import Derived.Deep.RegionHeld3
namespace Go.Proofs.Ytlecfkfcjhliiaa
open Go.RowKit

theorem modeOk_or {m : Int} (h : modeOk m = true) : m = 0 ∨ m = 1 := by simpa [modeOk] using h
theorem atRowB_iff {c i : Int} {ll : List (List Int)} : atRowB c ll i = true ↔ isT c ll = true ∧ 0 ≤ i ∧ i ≤ (ll.length : Int) - 1 := by simp [atRowB]
end Go.Proofs.Ytlecfkfcjhliiaa
namespace Go.Proofs.Ytlecfkfcjhliiaa
open Go.RowKit

/-- The family of a list's elements. -/
def memF (l : List Int) : Nat → Bool := fun j => decide ((j : Int) ∈ l)
theorem memF_nil : memF [] = noF := by funext j; simp [memF, noF]
theorem memF_snoc (l : List Int) (X : Nat) : memF (l ++ [(X : Int)]) = fun j => if j = X then true else memF l j := by
  funext j
  unfold memF
  by_cases h : j = X
  · subst h; simp
  · have h' : ¬ (j : Int) = (X : Int) := by omega
    simp [h, h']
/-- Every element is an integer that a slice of int may hold. -/
def I64s (l : List Int) : Prop := ∀ x ∈ l, -9223372036854775808 ≤ x ∧ x ≤ 9223372036854775807
def famOf (l : List Int) : Nat → Bool := if setsOk l = true then memF l else noF
theorem valB_nat {x : Int} (h : valB x = true) : ∃ X : Nat, x = (X : Int) ∧ X < 32 := by
  have : 0 ≤ x ∧ x ≤ 31 := by simpa [valB] using h
  exact ⟨x.toNat, by omega, by omega⟩

end Go.Proofs.Ytlecfkfcjhliiaa
namespace Go.Proofs.Ytlecfkfcjhliiaa
open Go.RowKit

def setF (f : Nat → Bool) (Y : Nat) (x : Bool) : Nat → Bool := fun j => if j = Y then x else f j
def kpIn (S : Int → Int → Bool) (l : List Int) (y : Int) (f : Nat → Bool) : Nat → (Nat → Bool)
  | 0 => f
  | n + 1 => if (l.getD n 0 != y && S (l.getD n 0) y) = true then setF (kpIn S l y f n) y.toNat false else kpIn S l y f n
def kpOut (S : Int → Int → Bool) (l : List Int) : Nat → (Nat → Bool)
  | 0 => memF l
  | i + 1 => kpIn S l (l.getD i 0) (kpOut S l i) l.length
def unsS (S : Int → Int → Bool) (l : List Int) : List Int := if setsOk l = true then lstF (kpOut S l l.length) else []
theorem setsOk_at {l : List Int} (h : setsOk l = true) : l.length ≤ 100 ∧ ∀ i, i < l.length → ∃ X : Nat, l.getD i 0 = (X : Int) ∧ X < 32 := by
  unfold setsOk at h
  simp only [Bool.and_eq_true, decide_eq_true_eq] at h
  refine ⟨h.2, fun i hi => ?_⟩
  have := List.all_eq_true.mp h.1 (l.getD i 0) (by rw [← get_getD l i hi]; exact List.getElem_mem hi)
  exact valB_nat this

/-- One set contains the other; is a part of it. -/
def supS (a b : Int) : Bool := partZ b a
def subS (a b : Int) : Bool := partZ a b
end Go.Proofs.Ytlecfkfcjhliiaa
namespace Go.Proofs.Ytlecfkfcjhliiaa
open Go.RowKit

/-- A slice is no longer than its room. -/
def CapOk (v : Value) : Prop := ∀ a n cap, v = .slice a n cap → n ≤ cap
theorem OwnSS.capOk {w : World} {B C : Nat} {v : Value} {ll : List (List Int)} (h : OwnSS w B C v ll) : CapOk v := by
  obtain ⟨V, ⟨-, h1⟩, -⟩ := h
  intro a n cap e
  rcases h1 with ⟨h2, -⟩ | ⟨g, cap', cur, h2, -, -, h3, -⟩
  · rw [h2] at e; cases e; exact Nat.le_refl _
  · rw [h2] at e; cases e; exact h3
theorem agrTo_nat (m : Int) (r s : List Int) (n : Nat) (h : n ≤ 5) : ∃ Y : Nat, agrTo m r s n = (Y : Int) ∧ Y < 32 := by
  obtain ⟨h0, h1⟩ := agrTo_bd m r s n
  refine ⟨(agrTo m r s n).toNat, by omega, ?_⟩
  rcases (show n = 0 ∨ n = 1 ∨ n = 2 ∨ n = 3 ∨ n = 4 ∨ n = 5 by omega) with rfl | rfl | rfl | rfl | rfl | rfl <;> simp at h1 <;> omega
def agFI (c : Nat) (ll : List (List Int)) (m : Int) (k : Nat) (f : Nat → Bool) : Nat → (Nat → Bool)
  | 0 => f
  | n + 1 => setF (agFI c ll m k f n) (agrTo m (ll.getD n []) (ll.getD k []) c).toNat true
def agFO (c : Nat) (ll : List (List Int)) (m : Int) : Nat → (Nat → Bool)
  | 0 => noF
  | k + 1 => agFI c ll m k (agFO c ll m k) k
def agF (c : Int) (ll : List (List Int)) (m : Int) : Nat → Bool := if fineT c ll m = true then agFO c.toNat ll m ll.length else noF

end Go.Proofs.Ytlecfkfcjhliiaa
namespace Go.Proofs.Ytlecfkfcjhliiaa
open Go.RowKit

def difB (q : Nat) (x : Int) : Bool := bits .and .i64 (x / 2 ^ q) 1 == 0
def difV (c q : Nat) (x : Int) : Int := bits .andNot .i64 (bits .andNot .i64 (2 ^ c - 1) x) (2 ^ q)
def difTo (c q : Nat) (l : List Int) : Nat → List Int
  | 0 => []
  | i + 1 => if difB q (l.getD i 0) = true then put4 (difTo c q l i) (difV c q (l.getD i 0)) else difTo c q l i
def difS (c : Int) (ll : List (List Int)) (m q : Int) : List Int := if 0 ≤ q ∧ q ≤ c - 1 then difTo c.toNat q.toNat (agrS c ll m) (agrS c ll m).length else []
theorem difTo_len (c q : Nat) (l : List Int) (i : Nat) : (difTo c q l i).length ≤ i := by
  induction i with
  | zero => simp [difTo]
  | succ i ih => have := put4_len (difTo c q l i) (difV c q (l.getD i 0)); unfold difTo; split <;> omega
theorem keep2 {w0 w w' : World} {p q : Addr} {a b : Value} (h : w.cell? p = some a ∧ w.cell? q = some b ∧ Below w0.heap.size w0 w) (k : Below w.heap.size w w') : w'.cell? p = some a ∧ w'.cell? q = some b ∧ Below w0.heap.size w0 w' :=
  ⟨(k.cell (World.block_lt_of_cell? w _ h.1)).trans h.1, (k.cell (World.block_lt_of_cell? w _ h.2.1)).trans h.2.1, h.2.2.trans (k.mono h.2.2.size)⟩
theorem agrS_fine {c m : Int} {ll : List (List Int)} (h : 0 < (agrS c ll m).length) : 1 ≤ c ∧ c ≤ 5 := by
  unfold agrS at h
  split at h
  · rename_i hf
    have hT : isT c ll = true := by unfold fineT at hf; simp at hf; exact hf.1
    exact ⟨(isT_bd hT).1, (isT_bd hT).2.1⟩
  · simp at h
theorem wrap_pow (j : Nat) (hj : j ≤ 4) : wrap64 (2 ^ j) = 2 ^ j := by
  refine IntWalk.wrap64_in _ ?_
  rcases (show j = 0 ∨ j = 1 ∨ j = 2 ∨ j = 3 ∨ j = 4 by omega) with rfl | rfl | rfl | rfl | rfl <;> decide
end Go.Proofs.Ytlecfkfcjhliiaa
