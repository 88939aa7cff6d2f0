/- Texts of this claim, merged: ImL, ImM, ClM. Conditions: as stated. -/
import Derived.Test.YtbldcdlpcidffaaXc16
import Derived.Test.YtbldcdlpcidffaaXc13
import Derived.Test.YtbldcdlpcidffaaXc15
namespace Go.Proofs.Ytbldcdlpcidffaa
open Go.RowKit

def setF (f : Nat → Bool) (Y : Nat) (x : Bool) : Nat → Bool := fun j => if j = Y then x else f j
def kpIn (S : Int → Int → Bool) (l : List Int) (y : Int) (f : Nat → Bool) : Nat → (Nat → Bool)
  | 0 => f
  | n + 1 => if (l.getD n 0 != y && S (l.getD n 0) y) = true then setF (kpIn S l y f n) y.toNat false else kpIn S l y f n
def kpOut (S : Int → Int → Bool) (l : List Int) : Nat → (Nat → Bool)
  | 0 => memF l
  | i + 1 => kpIn S l (l.getD i 0) (kpOut S l i) l.length
def unsS (S : Int → Int → Bool) (l : List Int) : List Int := if setsOk l = true then lstF (kpOut S l l.length) else []
theorem setsOk_at {l : List Int} (h : setsOk l = true) : l.length ≤ 100 ∧ ∀ i, i < l.length → ∃ X : Nat, l.getD i 0 = (X : Int) ∧ X < 32 := by
  unfold setsOk at h
  simp only [Bool.and_eq_true, decide_eq_true_eq] at h
  refine ⟨h.2, fun i hi => ?_⟩
  have := List.all_eq_true.mp h.1 (l.getD i 0) (by rw [← get_getD l i hi]; exact List.getElem_mem hi)
  exact valB_nat this

/-- One set contains the other; is a part of it. -/
def supS (a b : Int) : Bool := partZ b a
def subS (a b : Int) : Bool := partZ a b
end Go.Proofs.Ytbldcdlpcidffaa
namespace Go.Proofs.Ytbldcdlpcidffaa
open Go.RowKit

/-- A slice is no longer than its room. -/
def CapOk (v : Value) : Prop := ∀ a n cap, v = .slice a n cap → n ≤ cap
theorem OwnSS.capOk {w : World} {B C : Nat} {v : Value} {ll : List (List Int)} (h : OwnSS w B C v ll) : CapOk v := by
  obtain ⟨V, ⟨-, h1⟩, -⟩ := h
  intro a n cap e
  rcases h1 with ⟨h2, -⟩ | ⟨g, cap', cur, h2, -, -, h3, -⟩
  · rw [h2] at e; cases e; exact Nat.le_refl _
  · rw [h2] at e; cases e; exact h3
theorem agrTo_nat (m : Int) (r s : List Int) (n : Nat) (h : n ≤ 5) : ∃ Y : Nat, agrTo m r s n = (Y : Int) ∧ Y < 32 := by
  obtain ⟨h0, h1⟩ := agrTo_bd m r s n
  refine ⟨(agrTo m r s n).toNat, by omega, ?_⟩
  rcases (show n = 0 ∨ n = 1 ∨ n = 2 ∨ n = 3 ∨ n = 4 ∨ n = 5 by omega) with rfl | rfl | rfl | rfl | rfl | rfl <;> simp at h1 <;> omega
def agFI (c : Nat) (ll : List (List Int)) (m : Int) (k : Nat) (f : Nat → Bool) : Nat → (Nat → Bool)
  | 0 => f
  | n + 1 => setF (agFI c ll m k f n) (agrTo m (ll.getD n []) (ll.getD k []) c).toNat true
def agFO (c : Nat) (ll : List (List Int)) (m : Int) : Nat → (Nat → Bool)
  | 0 => noF
  | k + 1 => agFI c ll m k (agFO c ll m k) k
def agF (c : Int) (ll : List (List Int)) (m : Int) : Nat → Bool := if fineT c ll m = true then agFO c.toNat ll m ll.length else noF

end Go.Proofs.Ytbldcdlpcidffaa
namespace Go.Proofs.Ytbldcdlpcidffaa
open Go.RowKit

theorem getD_take2 {l : List (Int × Int)} {k i : Nat} (h : i < k) : (l.take k).getD i (0, 0) = l.getD i (0, 0) := by
  rw [List.getD_eq_getElem?_getD, List.getElem?_take, if_pos h, ← List.getD_eq_getElem?_getD]
theorem getD_drop2 {l : List (Int × Int)} {k i : Nat} : (l.drop k).getD i (0, 0) = l.getD (k + i) (0, 0) := by
  rw [List.getD_eq_getElem?_getD, List.getElem?_drop, ← List.getD_eq_getElem?_getD]
theorem ReadD.take {w : World} {a : Option Addr} {n cap : Nat} {l : List (Int × Int)} (h : ReadD w (.slice a n cap) l) (k : Nat) (hk : k ≤ l.length) (c : Nat) : ReadD w (.slice a k c) (l.take k) := by
  obtain ⟨a', cap', hv, hc⟩ := h
  cases hv
  refine ⟨a, c, by rw [List.length_take, Nat.min_eq_left hk], fun i hi => ?_⟩
  rw [List.length_take, Nat.min_eq_left hk] at hi
  rw [getD_take2 hi]
  exact hc i (by omega)
theorem ReadD.drop {w : World} {b o n cap : Nat} {l : List (Int × Int)} (h : ReadD w (.slice (some ⟨b, o, none⟩) n cap) l) (k : Nat) (c : Nat) : ReadD w (.slice (some ⟨b, o + k * 2, none⟩) (l.length - k) c) (l.drop k) := by
  obtain ⟨a', cap', hv, hc⟩ := h
  cases hv
  refine ⟨_, c, by rw [List.length_drop], fun i hi => ?_⟩
  rw [List.length_drop] at hi
  rw [getD_drop2]
  obtain ⟨b', o', e, h0, h1⟩ := hc (k + i) (by omega)
  cases e
  exact ⟨_, _, rfl, by rw [show o + k * 2 + i * 2 = o + (k + i) * 2 by omega]; exact h0, by rw [show o + k * 2 + i * 2 = o + (k + i) * 2 by omega]; exact h1⟩
theorem newsDn {w : World} {a : Option Addr} {n c : Nat} {l : List (Int × Int)} (h : ReadD w (.slice a n c) l) : ∀ j u, (depsV l)[j]? = some u → ∃ x, a = some x ∧ w.cell? (x.add j) = some u := by
  have e : n = l.length := by obtain ⟨_, _, hv, _⟩ := h; cases hv; rfl
  subst e
  exact newsD h
theorem OwnD.capOk {w : World} {B : Nat} {v : Value} {ds : List (Int × Int)} (h : OwnD w B v ds) : CapOk v := by
  obtain ⟨-, h1⟩ := h
  intro a n cap e
  rcases h1 with ⟨h2, -⟩ | ⟨g, cap', cur, h2, -, -, h3, -⟩
  · rw [h2] at e; cases e; exact Nat.le_refl _
  · rw [h2] at e; cases e; exact h3
theorem own_take {w : World} {B : Nat} {v : Value} {l : List (Int × Int)} {k : Nat} (h : w.ownsRow B 26 2 v (0 + k) ([] ++ depsV (l.take k))) : w.ownsRow B 26 2 v k (depsV (l.take k)) ∧ ∃ a c, v = .slice a k c := by
  rw [Nat.zero_add, List.nil_append] at h
  refine ⟨h, ?_⟩
  rcases h.2 with ⟨rfl, h0⟩ | ⟨g, cap, cur, rfl, -⟩
  · exact ⟨_, _, by rw [h0]⟩
  · exact ⟨_, _, rfl⟩
theorem own_erase {w : World} {B : Nat} {v : Value} {l : List (Int × Int)} {k : Nat} (hk : k < l.length) (h : w.ownsRow B 26 2 v (k + (l.length - (k + 1))) (depsV (l.take k) ++ depsV (l.drop (k + 1)))) : OwnD w B v (l.eraseIdx k) := by
  unfold OwnD
  have e : (l.eraseIdx k).length = k + (l.length - (k + 1)) := by rw [List.length_eraseIdx, if_pos hk]; omega
  rw [e, List.eraseIdx_eq_take_drop_succ, depsV_append]
  exact h
theorem own_erase0 {w : World} {B : Nat} {v : Value} {l : List (Int × Int)} {k : Nat} (hk : l.length = k + 1) (h : w.ownsRow B 26 2 v (k + 0) (depsV (l.take k) ++ [])) : OwnD w B v (l.eraseIdx k) := by
  have e : l.drop (k + 1) = [] := List.drop_eq_nil_of_le (by omega)
  refine own_erase (by omega) ?_
  rw [e, hk, Nat.sub_self]
  exact h
section
set_option maxRecDepth 20000
set_option maxHeartbeats 3200000
end
end Go.Proofs.Ytbldcdlpcidffaa
