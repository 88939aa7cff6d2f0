/- Texts of this claim, merged: PgA, PgB, PgD. Conditions: as stated. -/
import Derived.Test.YtepokhdjglnlnaaSk8
import Derived.Test.YtepokhdjglnlnaaSk15
import Derived.Test.YtepokhdjglnlnaaSk35
namespace Go.Proofs.Ytepokhdjglnlnaa
open Go.RowKit

/-- At least two rows, all from 0 on and below rows, in ascending order: place by place. -/
def inC (rows : Int) (r : List Int) (k : Nat) : Bool := decide ((if k = 0 then 0 else r.getD (k - 1) 0 + 1) ≤ r.getD k 0 ∧ r.getD k 0 < rows)
def isC (rows : Int) (r : List Int) : Bool := decide (2 ≤ r.length) && (List.range r.length).all (inC rows r)
def leastC (r : List Int) : Nat → Int
  | 0 => 0
  | k + 1 => r.getD k 0 + 1
theorem range_snoc {p : Nat → Bool} {k : Nat} (h : (List.range k).all p = true) (hp : p k = true) : (List.range (k + 1)).all p = true := by
  rw [List.range_succ, List.all_append, h]; simp [hp]
theorem range_not {p : Nat → Bool} {k n : Nat} (hk : k < n) (hp : p k = false) : (List.range n).all p = false := by
  cases h : (List.range n).all p with
  | false => rfl
  | true => have := List.all_eq_true.1 h k (List.mem_range.2 hk); rw [hp] at this; cases this
end Go.Proofs.Ytepokhdjglnlnaa
namespace Go.Proofs.Ytepokhdjglnlnaa
open Go.RowKit

/-- The first class that has a row, if there is one. -/
def fcl (q : List (List Int)) (x : Int) : Option Int := if clsI q x < 0 then none else some (clsI q x)
theorem clsI_app : ∀ (q : List (List Int)) (s : List Int) (x : Int), clsI (q ++ [s]) x = if clsI q x < 0 then (if x ∈ s then (q.length : Int) else -1) else clsI q x
  | [], s, x => by simp [clsI]
  | r :: t, s, x => by
    have ih := clsI_app t s x
    have h1 := clsI_ge t x
    have h2 := clsI_ge (t ++ [s]) x
    show (if x ∈ r then 0 else if clsI (t ++ [s]) x < 0 then -1 else clsI (t ++ [s]) x + 1) = if (if x ∈ r then 0 else if clsI t x < 0 then -1 else clsI t x + 1) < 0 then (if x ∈ s then ((r :: t).length : Int) else -1) else (if x ∈ r then 0 else if clsI t x < 0 then -1 else clsI t x + 1)
    rw [ih]
    by_cases ha : x ∈ r <;> by_cases hb : clsI t x < 0 <;> by_cases hc : x ∈ s <;> simp only [ha, hb, hc, if_true, if_false, List.length_cons] <;> first | rfl | omega | (split <;> omega) | (split <;> split <;> omega)
theorem fcl_app (q : List (List Int)) (s : List Int) (x : Int) : fcl (q ++ [s]) x = if clsI q x < 0 then (if x ∈ s then some (q.length : Int) else none) else some (clsI q x) := by
  unfold fcl
  rw [clsI_app]
  by_cases hb : clsI q x < 0 <;> by_cases hc : x ∈ s <;> simp only [hb, hc, if_true, if_false] <;> first | rfl | (rw [if_neg (by omega)]) | (rw [if_pos (by omega)])
theorem fcl_nil (x : Int) : none = fcl [] x := rfl
theorem fcl_empty (q : List (List Int)) (x : Int) : fcl q x = fcl (q ++ [[]]) x := by
  rw [fcl_app]; unfold fcl; simp
theorem fcl_more (q : List (List Int)) (s : List Int) (y : Int) (h : fcl (q ++ [s]) y = none) (z : Int) : (if z = y then some (q.length : Int) else fcl (q ++ [s]) z) = fcl (q ++ [s ++ [y]]) z := by
  rw [fcl_app] at *
  rw [fcl_app]
  by_cases hz : z = y
  · subst hz
    rw [if_pos rfl]
    split at h
    · next h1 => rw [if_pos h1, if_pos (by simp)]
    · cases h
  · rw [if_neg hz]
    have : z ∈ s ++ [y] ↔ z ∈ s := by simp [hz]
    simp only [this]
theorem fcl_same (q : List (List Int)) (s : List Int) (y c : Int) (h : fcl (q ++ [s]) y = some c) (z : Int) : fcl (q ++ [s]) z = fcl (q ++ [s ++ [y]]) z := by
  rw [fcl_app] at *
  rw [fcl_app]
  by_cases hz : z = y
  · subst hz
    split at h
    · next h1 =>
      split at h
      · next h2 => simp [h1, h2]
      · cases h
    · next h1 => simp [h1]
  · have : z ∈ s ++ [y] ↔ z ∈ s := by simp [hz]
    simp only [this]
theorem fcl_bd (q : List (List Int)) (x c : Int) (h : fcl q x = some c) : 0 ≤ c ∧ c < q.length := by
  unfold fcl at h
  have := clsI_ge q x
  split at h
  · cases h
  · cases h; omega
theorem fcl_take (p : List (List Int)) (i : Nat) (h : i < p.length) : p.take (i + 1) = p.take i ++ [p.getD i []] := take_succ_getD p [] i h

theorem I64ss.wf {p : List (List Int)} (h : I64ss p) {i : Nat} (hi : i < p.length) {x : Int} (hx : x ∈ p.getD i []) : (Lit.int .i64 x).wf = true := by
  have := h i hi x hx
  exact WalkArith.wf_i64 (by omega)
end Go.Proofs.Ytepokhdjglnlnaa
namespace Go.Proofs.Ytepokhdjglnlnaa
open Go.RowKit

theorem isC_iff {rows : Int} {r : List Int} : isC rows r = true ↔ 2 ≤ r.length ∧ (∀ k, k < r.length → 0 ≤ r.getD k 0 ∧ r.getD k 0 ≤ rows - 1) ∧ (∀ k, k + 1 < r.length → r.getD k 0 < r.getD (k + 1) 0) := by
  unfold isC
  rw [Bool.and_eq_true, decide_eq_true_eq, List.all_eq_true]
  constructor
  · rintro ⟨h2, h⟩
    have h3 : ∀ k, k < r.length → (if k = 0 then 0 else r.getD (k - 1) 0 + 1) ≤ r.getD k 0 ∧ r.getD k 0 < rows := fun k hk => by
      have := h k (List.mem_range.2 hk); unfold inC at this; exact of_decide_eq_true this
    have h4 : ∀ k, k < r.length → 0 ≤ r.getD k 0 := by
      intro k
      induction k with
      | zero => intro hk; have := (h3 0 hk).1; simpa using this
      | succ n ih =>
        intro hk
        have h5 := ih (by omega)
        have h6 := (h3 (n + 1) hk).1
        rw [if_neg (by omega), Nat.add_sub_cancel] at h6
        omega
    refine ⟨h2, fun k hk => ⟨h4 k hk, by have := (h3 k hk).2; omega⟩, fun k hk => ?_⟩
    have h6 := (h3 (k + 1) hk).1
    rw [if_neg (by omega), Nat.add_sub_cancel] at h6
    omega
  · rintro ⟨h2, h3, h4⟩
    refine ⟨h2, fun k hk => ?_⟩
    rw [List.mem_range] at hk
    unfold inC
    refine decide_eq_true ⟨?_, by have := (h3 k hk).2; omega⟩
    cases k with
    | zero => rw [if_pos rfl]; exact (h3 0 hk).1
    | succ n =>
      rw [if_neg (by omega), Nat.add_sub_cancel]
      have := h4 n hk; omega
theorem cls_of {p : List (List Int)} {rows : Int} {i : Nat} (h : isC rows (p.getD i []) = true) (h2 : lastTo p i < (p.getD i []).getD 0 0) (h3 : ∀ x ∈ p.getD i [], x ∉ flatTo p i) : Cls p rows i := by
  obtain ⟨a, b, c⟩ := isC_iff.1 h
  exact ⟨a, h2, b, c, h3⟩
theorem cls_isC {p : List (List Int)} {rows : Int} {i : Nat} (h : Cls p rows i) : isC rows (p.getD i []) = true := by
  obtain ⟨a, h2, b, c, h3⟩ := h
  exact isC_iff.2 ⟨a, b, c⟩
theorem partP_bad {p : List (List Int)} {rows : Int} {i : Nat} (hi : i < p.length) (h : ¬ Cls p rows i) : partP p rows = false := by
  cases hp : partP p rows with
  | false => rfl
  | true => exact absurd ((partP_iff.1 hp).2 i hi) h

/-- The cells of block b say which places are among S. -/
def TakAt (w : World) (b : Nat) (S : List Int) : Prop := ∀ j, j < 40 → w.cell? ⟨b, j, none⟩ = some (.bool (decide ((j : Int) ∈ S))) ∧ w.frozen? ⟨b, j, none⟩ = false
theorem TakAt.store {w : World} {b : Nat} {S : List Int} (h : TakAt w b S) (y : Nat) (hy : y < 40) : TakAt (w.setCell ⟨b, y, none⟩ (.bool true)) b (S ++ [(y : Int)]) := by
  intro j hj
  rw [World.frozen?_setCell]
  refine ⟨?_, (h j hj).2⟩
  by_cases hjl : j = y
  · subst hjl
    rw [decide_eq_true (by simp)]
    exact World.cell?_setCell_same _ _ _ (h _ hj).1
  · rw [World.cell?_setCell_other _ _ _ _ (by intro e; simp only [Addr.mk.injEq] at e; omega), (h j hj).1]
    have : (j : Int) ≠ (y : Int) := by omega
    simp [this]
theorem TakAt.below {w w' : World} {b C : Nat} {S : List Int} (h : TakAt w b S) (hb : Below C w w') (hC : b < C) : TakAt w' b S := fun j hj => ⟨(hb.cell hC).trans (h j hj).1, (hb.frozen hC).trans (h j hj).2⟩
theorem TakAt.eq {w : World} {b : Nat} {S T : List Int} (h : TakAt w b S) (e : S = T) : TakAt w b T := e ▸ h
theorem asc_not {r : List Int} (h : ∀ k, k + 1 < r.length → r.getD k 0 < r.getD (k + 1) 0) {k : Nat} (hk : k < r.length) : r.getD k 0 ∉ r.take k := by
  intro hm
  obtain ⟨t, ht, he⟩ := (mem_take (by omega)).1 hm
  have := asc_lt (i := t) h (k - t - 1) (by omega)
  rw [show t + (k - t - 1) + 1 = k by omega] at this
  omega
end Go.Proofs.Ytepokhdjglnlnaa
