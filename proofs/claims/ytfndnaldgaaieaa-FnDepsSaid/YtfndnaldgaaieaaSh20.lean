/- Texts of this claim, merged: PmA, DepB, DepC. Conditions: as stated. -/
import Derived.Test.YtfndnaldgaaieaaSh19
import Derived.Test.YtfndnaldgaaieaaSh15
import Derived.Test.YtfndnaldgaaieaaSh16
namespace Go.Proofs.Ytfndnaldgaaieaa

theorem ascH_unique {α : Type} {r : α → α → Prop} (irr : ∀ x, ¬ r x x) (tr : ∀ x y z, r x y → r y z → r x z) : ∀ (a b : List α), a.Pairwise r → b.Pairwise r → (∀ x, x ∈ a ↔ x ∈ b) → a = b
  | [], [], _, _, _ => rfl
  | [], y :: t, _, _, h => by have := (h y).2 (by simp); cases this
  | x :: s, [], _, _, h => by have := (h x).1 (by simp); cases this
  | x :: s, y :: t, ha, hb, h => by
    rw [List.pairwise_cons] at ha hb
    have hxy : x = y := by
      rcases List.mem_cons.1 ((h x).1 (by simp)) with e | e
      · exact e
      · rcases List.mem_cons.1 ((h y).2 (by simp)) with e' | e'
        · exact e'.symm
        · exact (irr x (tr _ _ _ (ha.1 y e') (hb.1 x e))).elim
    subst hxy
    have hst : s = t := ascH_unique irr tr s t ha.2 hb.2 fun z => by
      have hz := h z
      rw [List.mem_cons, List.mem_cons] at hz
      constructor
      · intro hm
        rcases hz.1 (Or.inr hm) with e | e
        · subst e; exact (irr z (ha.1 z hm)).elim
        · exact e
      · intro hm
        rcases hz.2 (Or.inr hm) with e | e
        · subst e; exact (irr z (hb.1 z hm)).elim
        · exact e
    rw [hst]
section
variable {c : Nat} {ll : List (List Int)} {m : Int} {S : Nat}
/-- The rows that begin a class. -/
def reps (c : Nat) (ll : List (List Int)) (m : Int) (S : Nat) : List Nat := (List.range ll.length).filter fun a => repB c ll m (S : Int) a && decide (1 < (clsC c ll m (S : Int) a).length)
/-- The classes. -/
def parL (c : Nat) (ll : List (List Int)) (m : Int) (S : Nat) : List (List Int) := prtL c ll m (S : Int) ll.length
theorem parL_map : parL c ll m S = (reps c ll m S).map (clsC c ll m (S : Int)) := rfl
theorem reps_mem {a : Nat} : a ∈ reps c ll m S ↔ a < ll.length ∧ repB c ll m (S : Int) a = true ∧ 1 < (clsC c ll m (S : Int) a).length := by
  unfold reps
  rw [List.mem_filter, List.mem_range, Bool.and_eq_true, decide_eq_true_eq]
theorem reps_asc : (reps c ll m S).Pairwise (fun a b => a < b) := List.Pairwise.filter _ List.pairwise_lt_range
theorem parL_len : (parL c ll m S).length = (reps c ll m S).length := by rw [parL_map, List.length_map]
theorem parL_get {i : Nat} (hi : i < (parL c ll m S).length) : (parL c ll m S).getD i [] = clsC c ll m (S : Int) ((reps c ll m S).getD i 0) ∧ (reps c ll m S).getD i 0 ∈ reps c ll m S := by
  rw [parL_len] at hi
  rw [parL_map, List.getD_eq_getElem?_getD, List.getElem?_map, List.getD_eq_getElem?_getD, List.getElem?_eq_getElem hi]
  exact ⟨rfl, List.getElem_mem hi⟩
theorem rowsC_ascH (i : Nat) (s : Int) : ∀ n, (rowsC c ll m s i n).Pairwise (fun a b => a < b)
  | 0 => by simp [rowsC]
  | n + 1 => by
    have ih := rowsC_ascH i s n
    unfold rowsC
    split
    · rw [List.pairwise_append]
      refine ⟨ih, by simp, fun x hx y hy => ?_⟩
      rw [List.mem_singleton] at hy
      subst hy
      rw [rowsC_mem] at hx
      rcases hx with rfl | ⟨k, h1, h2, -, rfl⟩ <;> omega
    · exact ih
theorem clsC_asc (a : Nat) (s : Int) : (clsC c ll m s a).Pairwise (fun x y => x < y) := rowsC_ascH a s _
/-- A class of at least two rows has a partner for its first one. -/
theorem clsC_two {a : Nat} (ha : a < ll.length) : 1 < (clsC c ll m (S : Int) a).length ↔ ∃ k : Nat, a < k ∧ k < ll.length ∧ agB c ll m (S : Int) a k = true := by
  constructor
  · intro h
    cases hq : clsC c ll m (S : Int) a with
    | nil => rw [hq] at h; simp at h
    | cons x t =>
      cases t with
      | nil => rw [hq] at h; simp at h
      | cons y t =>
        have hx := (clsC_mem c ll m (S : Int) a ha x).1 (by rw [hq]; simp)
        have hy := (clsC_mem c ll m (S : Int) a ha y).1 (by rw [hq]; simp)
        have hxy : x < y := by
          have := clsC_asc (c := c) (ll := ll) (m := m) a (S : Int)
          rw [hq, List.pairwise_cons] at this
          exact this.1 y (by simp)
        rcases hy with rfl | ⟨k, h1, h2, h3, -⟩
        · rcases hx with rfl | ⟨k, h1, h2, h3, rfl⟩ <;> omega
        · exact ⟨k, h1, h2, h3⟩
  · rintro ⟨k, h1, h2, h3⟩
    have hk : (k : Int) ∈ clsC c ll m (S : Int) a := (clsC_mem c ll m _ a ha _).2 (.inr ⟨k, h1, h2, h3, rfl⟩)
    have hz : (a : Int) ∈ clsC c ll m (S : Int) a := (clsC_mem c ll m _ a ha _).2 (.inl rfl)
    cases hq : clsC c ll m (S : Int) a with
    | nil => rw [hq] at hk; cases hk
    | cons x t =>
      cases t with
      | nil =>
        rw [hq, List.mem_singleton] at hk hz
        omega
      | cons y t => simp
/-- The rows of the class of a first row are those that agree with it. -/
theorem rep_mem (hc : c ≤ 5) (hS : S < 2 ^ c) {a : Nat} (ha : a ∈ reps c ll m S) {x : Int} : x ∈ clsC c ll m (S : Int) a ↔ ∃ k : Nat, k < ll.length ∧ x = (k : Int) ∧ agB c ll m (S : Int) a k = true := by
  obtain ⟨h1, h2, h3⟩ := reps_mem.1 ha
  rw [clsC_mem c ll m _ a h1]
  obtain ⟨y, y1, y2, y3⟩ := (clsC_two h1).1 h3
  have haa := agB_trans hc hS y3 (agB_symm hc hS y3)
  constructor
  · rintro (rfl | ⟨k, g1, g2, g3, rfl⟩)
    · exact ⟨a, h1, rfl, haa⟩
    · exact ⟨k, g2, rfl, g3⟩
  · rintro ⟨k, g1, rfl, g3⟩
    rcases Nat.lt_trichotomy k a with hlt | rfl | hlt
    · unfold repB at h2
      rw [Bool.not_eq_true', List.any_eq_false] at h2
      exact (h2 k (List.mem_range.2 hlt) (agB_symm hc hS g3)).elim
    · exact .inl rfl
    · exact .inr ⟨k, hlt, g1, g3, rfl⟩
theorem parL_part (hc : c ≤ 5) (hS : S < 2 ^ c) (h40 : ll.length ≤ 40) : partP (parL c ll m S) (ll.length : Int) = true := by
  rw [partP_iff]
  refine ⟨by omega, fun i hi => ?_⟩
  obtain ⟨e, hm⟩ := parL_get hi
  obtain ⟨h1, h2, h3⟩ := reps_mem.1 hm
  have hfirst : ∀ j, j < (parL c ll m S).length → ∃ t, (parL c ll m S).getD j [] = (((reps c ll m S).getD j 0 : Nat) : Int) :: t := by
    intro j hj
    obtain ⟨ej, hmj⟩ := parL_get hj
    obtain ⟨g1, -, -⟩ := reps_mem.1 hmj
    rw [ej]
    cases hq : clsC c ll m (S : Int) ((reps c ll m S).getD j 0) with
    | nil =>
      have := (clsC_mem c ll m (S : Int) _ g1 _).2 (.inl rfl)
      rw [hq] at this; cases this
    | cons x t =>
      have hz := (clsC_mem c ll m (S : Int) _ g1 _).2 (.inl rfl)
      have hx := (clsC_mem c ll m (S : Int) _ g1 x).1 (by rw [hq]; simp)
      have hp := clsC_asc (c := c) (ll := ll) (m := m) ((reps c ll m S).getD j 0) (S : Int)
      rw [hq, List.pairwise_cons] at hp
      rw [hq] at hz
      rcases List.mem_cons.1 hz with hz | hz
      · exact ⟨t, by rw [hz]⟩
      · have := hp.1 _ hz
        rcases hx with hx | ⟨k, k1, -, -, hx⟩ <;> omega
  have hlt : ∀ j, j < i → (reps c ll m S).getD j 0 < (reps c ll m S).getD i 0 := fun j hj => by
    rw [parL_len] at hi
    have := (List.pairwise_iff_getElem.1 (reps_asc (c := c) (ll := ll) (m := m) (S := S))) j i (by omega) hi hj
    rw [List.getD_eq_getElem?_getD, List.getElem?_eq_getElem (by omega), List.getD_eq_getElem?_getD, List.getElem?_eq_getElem hi]
    exact this
  refine ⟨by rw [e]; omega, ?_, ?_, ?_, ?_⟩
  · obtain ⟨t, ht⟩ := hfirst i hi
    rw [ht]
    show lastTo _ i < (((reps c ll m S).getD i 0 : Nat) : Int)
    by_cases h0 : i = 0
    · subst h0
      show (-1 : Int) < _
      omega
    · obtain ⟨j, rfl⟩ : ∃ j, i = j + 1 := ⟨i - 1, by omega⟩
      obtain ⟨t', ht'⟩ := hfirst j (by omega)
      have hl : lastTo (parL c ll m S) (j + 1) = ((parL c ll m S).getD j []).getD 0 0 := rfl
      rw [hl, ht']
      have := hlt j (by omega)
      show (((reps c ll m S).getD j 0 : Nat) : Int) < _
      omega
  · intro k hk
    have hx : ((parL c ll m S).getD i []).getD k 0 ∈ (parL c ll m S).getD i [] := by rw [← get_getD _ k hk]; exact List.getElem_mem _
    rw [e] at hx ⊢
    obtain ⟨q, q1, q2, -⟩ := (rep_mem hc hS hm).1 hx
    rw [q2]
    omega
  · intro k hk
    have hp := clsC_asc (c := c) (ll := ll) (m := m) ((reps c ll m S).getD i 0) (S : Int)
    rw [e] at hk ⊢
    have := (List.pairwise_iff_getElem.1 hp) k (k + 1) (by omega) hk (by omega)
    rw [get_getD _ k (by omega), get_getD _ (k + 1) hk] at this
    exact this
  · intro x hx hf
    obtain ⟨j, hj, hxj⟩ := (mem_flatTo i (by omega)).1 hf
    obtain ⟨ej, hmj⟩ := parL_get (c := c) (ll := ll) (m := m) (S := S) (i := j) (by omega)
    rw [e] at hx
    rw [ej] at hxj
    obtain ⟨q, q1, rfl, q3⟩ := (rep_mem hc hS hm).1 hx
    obtain ⟨q', q1', q2', q3'⟩ := (rep_mem hc hS hmj).1 hxj
    obtain rfl : q = q' := by omega
    have hab := agB_trans hc hS q3' (agB_symm hc hS q3)
    unfold repB at h2
    rw [Bool.not_eq_true', List.any_eq_false] at h2
    exact h2 _ (List.mem_range.2 (hlt j hj)) hab
/-- The class of a row: those that agree with it. -/
theorem clsI_rep (hc : c ≤ 5) (hS : S < 2 ^ c) (h40 : ll.length ≤ 40) {i x : Nat} (hi : i < (parL c ll m S).length) (hx : x < ll.length) : clsI (parL c ll m S) (x : Int) = (i : Int) ↔ agB c ll m (S : Int) ((reps c ll m S).getD i 0) x = true := by
  obtain ⟨e, hm⟩ := parL_get hi
  rw [← clsI_part (parL_part hc hS h40) hi, e, rep_mem hc hS hm]
  constructor
  · rintro ⟨k, h1, h2, h3⟩
    obtain rfl : x = k := by omega
    exact h3
  · intro h
    exact ⟨x, hx, rfl, h⟩
/-- A row is in a class if another one agrees with it. -/
theorem clsI_in (hc : c ≤ 5) (hS : S < 2 ^ c) (h40 : ll.length ≤ 40) {x : Nat} (hx : x < ll.length) : 0 ≤ clsI (parL c ll m S) (x : Int) ↔ ∃ y : Nat, y < ll.length ∧ y ≠ x ∧ agB c ll m (S : Int) x y = true := by
  constructor
  · intro h
    have hge := clsI_ge (parL c ll m S) (x : Int)
    obtain ⟨i, hi⟩ : ∃ i : Nat, clsI (parL c ll m S) (x : Int) = (i : Int) := ⟨_, (Int.toNat_of_nonneg h).symm⟩
    have hil : i < (parL c ll m S).length := by omega
    have ha := (clsI_rep hc hS h40 hil hx).1 hi
    obtain ⟨-, hm⟩ := parL_get hil
    obtain ⟨h1, h2, h3⟩ := reps_mem.1 hm
    by_cases hxa : (reps c ll m S).getD i 0 = x
    · obtain ⟨k, k1, k2, k3⟩ := (clsC_two h1).1 h3
      rw [hxa] at k1 k3
      exact ⟨k, k2, by omega, k3⟩
    · exact ⟨_, h1, hxa, agB_symm hc hS ha⟩
  · rintro ⟨y, hy, hne, hxy⟩
    have key : ∀ a : Nat, a < ll.length → repB c ll m (S : Int) a = true → agB c ll m (S : Int) a x = true → (∃ k, a < k ∧ k < ll.length ∧ agB c ll m (S : Int) a k = true) → 0 ≤ clsI (parL c ll m S) (x : Int) := by
      intro a h1 h2 h3 h4
      have hm : a ∈ reps c ll m S := reps_mem.2 ⟨h1, h2, (clsC_two h1).2 h4⟩
      obtain ⟨i, hi, he⟩ := List.mem_iff_getElem.1 hm
      have hg : (reps c ll m S).getD i 0 = a := by rw [List.getD_eq_getElem?_getD, List.getElem?_eq_getElem hi]; exact he
      have := (clsI_rep hc hS h40 (i := i) (by rw [parL_len]; exact hi) hx).2 (by rw [hg]; exact h3)
      omega
    cases hr : repB c ll m (S : Int) x with
    | true =>
      refine key x hx hr (agB_trans hc hS hxy (agB_symm hc hS hxy)) ⟨y, ?_, hy, hxy⟩
      by_cases hlt : y < x
      · unfold repB at hr
        rw [Bool.not_eq_true', List.any_eq_false] at hr
        exact (hr y (List.mem_range.2 hlt) (agB_symm hc hS hxy)).elim
      · omega
    | false =>
      unfold repB at hr
      rw [Bool.not_eq_false', List.any_eq_true] at hr
      obtain ⟨b, hb, hbx⟩ := hr
      obtain ⟨a, h1, h2, h3⟩ := rep_least hc hS x (b + 1) b (by omega) (List.mem_range.1 hb) hbx
      exact key a (by omega) h2 h3 ⟨x, h1, hx, h3⟩
/-- Two different rows are in one class if they agree. -/
theorem clsI_same (hc : c ≤ 5) (hS : S < 2 ^ c) (h40 : ll.length ≤ 40) {x y : Nat} (hx : x < ll.length) (hy : y < ll.length) (hne : x ≠ y) : (clsI (parL c ll m S) (x : Int) = clsI (parL c ll m S) (y : Int) ∧ 0 ≤ clsI (parL c ll m S) (x : Int)) ↔ agB c ll m (S : Int) x y = true := by
  constructor
  · rintro ⟨h, h0⟩
    have hge := clsI_ge (parL c ll m S) (x : Int)
    obtain ⟨i, hi⟩ : ∃ i : Nat, clsI (parL c ll m S) (x : Int) = (i : Int) := ⟨_, (Int.toNat_of_nonneg h0).symm⟩
    have hil : i < (parL c ll m S).length := by omega
    have h1 := (clsI_rep hc hS h40 hil hx).1 hi
    have h2 := (clsI_rep hc hS h40 hil hy).1 (by omega)
    exact agB_trans hc hS (agB_symm hc hS h1) h2
  · intro h
    have h0 := (clsI_in hc hS h40 hx).2 ⟨y, hy, fun e => hne e.symm, h⟩
    have hge := clsI_ge (parL c ll m S) (x : Int)
    obtain ⟨i, hi⟩ : ∃ i : Nat, clsI (parL c ll m S) (x : Int) = (i : Int) := ⟨_, (Int.toNat_of_nonneg h0).symm⟩
    have hil : i < (parL c ll m S).length := by omega
    have h1 := (clsI_rep hc hS h40 hil hx).1 hi
    have h2 := (clsI_rep hc hS h40 hil hy).2 (agB_trans hc hS h1 h)
    omega
end
end Go.Proofs.Ytfndnaldgaaieaa
namespace Go.Proofs.Ytfndnaldgaaieaa
open Go.RowKit

/-- Rows i and k are equal on the left and not on the right. -/
def badB (c : Nat) (ll : List (List Int)) (m : Int) (L R : Nat) (i k : Nat) : Bool := agB c ll m (L : Int) i k && !bitB (agrTo m (ll.getD i []) (ll.getD k []) c).toNat R
/-- The first pair that is bad. -/
def PairIs (bad : Nat → Nat → Bool) (N : Nat) (a b : Int) : Prop :=
  (a = -1 ∧ b = -1 ∧ ∀ i k, i < k → k < N → bad i k = false) ∨ ∃ i k : Nat, a = (i : Int) ∧ b = (k : Int) ∧ i < k ∧ k < N ∧ bad i k = true ∧ (∀ i' k', i' < i → i' < k' → k' < N → bad i' k' = false) ∧ ∀ k', i < k' → k' < k → bad i k' = false
theorem PairIs.one {bad : Nat → Nat → Bool} {N : Nat} {a b a' b' : Int} (h : PairIs bad N a b) (h' : PairIs bad N a' b') : a = a' ∧ b = b' := by
  rcases h with ⟨rfl, rfl, h⟩ | ⟨i, k, rfl, rfl, h1, h2, h3, h4, h5⟩
  · rcases h' with ⟨rfl, rfl, -⟩ | ⟨i', k', rfl, rfl, h1', h2', h3', -⟩
    · exact ⟨rfl, rfl⟩
    · rw [h i' k' h1' h2'] at h3'; cases h3'
  · rcases h' with ⟨rfl, rfl, h'⟩ | ⟨i', k', rfl, rfl, h1', h2', h3', h4', h5'⟩
    · rw [h' i k h1 h2] at h3; cases h3
    · rcases Nat.lt_trichotomy i i' with hlt | rfl | hlt
      · rw [h4' i k hlt h1 h2] at h3; cases h3
      · rcases Nat.lt_trichotomy k k' with hlt | rfl | hlt
        · rw [h5' k h1 hlt] at h3; cases h3
        · exact ⟨rfl, rfl⟩
        · rw [h5 k' h1' hlt] at h3'; cases h3'
      · rw [h4 i' k' hlt h1' h2'] at h3'; cases h3'
theorem least_nat (p : Nat → Bool) : ∀ n, (∃ i, i < n ∧ p i = true) → ∃ a, a < n ∧ p a = true ∧ ∀ b, b < a → p b = false
  | 0, ⟨i, h, _⟩ => absurd h (Nat.not_lt_zero _)
  | n + 1, ⟨i, h, hi⟩ => by
    by_cases hx : ∃ j, j < n ∧ p j = true
    · obtain ⟨a, h1, h2⟩ := least_nat p n hx
      exact ⟨a, by omega, h2⟩
    · have : i = n := by
        by_cases e : i = n
        · exact e
        · exact (hx ⟨i, by omega, hi⟩).elim
      subst this
      exact ⟨i, h, hi, fun b hb => by
        cases hp : p b with
        | false => rfl
        | true => exact (hx ⟨b, hb, hp⟩).elim⟩
theorem PairIs.ex (bad : Nat → Nat → Bool) (N : Nat) : ∃ ab : Int × Int, PairIs bad N ab.1 ab.2 := by
  by_cases h : ∃ i, i < N ∧ ((List.range N).any fun k => decide (i < k) && bad i k) = true
  · obtain ⟨i, h1, h2, h3⟩ := least_nat (fun i => (List.range N).any fun k => decide (i < k) && bad i k) N h
    rw [List.any_eq_true] at h2
    obtain ⟨k, hk, hb⟩ := h2
    obtain ⟨k, h4, h5, h6⟩ := least_nat (fun k => decide (i < k) && bad i k) N ⟨k, List.mem_range.1 hk, hb⟩
    rw [Bool.and_eq_true, decide_eq_true_eq] at h5
    refine ⟨((i : Int), (k : Int)), .inr ⟨i, k, rfl, rfl, h5.1, h4, h5.2, fun i' k' g1 g2 g3 => ?_, fun k' g1 g2 => ?_⟩⟩
    · have := h3 i' g1
      simp only [List.any_eq_false] at this
      have := this k' (List.mem_range.2 g3)
      simpa [g2] using this
    · have := h6 k' g2
      simpa [g1] using this
  · refine ⟨(-1, -1), .inl ⟨rfl, rfl, fun i k h1 h2 => ?_⟩⟩
    cases hb : bad i k with
    | false => rfl
    | true => exact (h ⟨i, by omega, List.any_eq_true.2 ⟨k, List.mem_range.2 h2, by rw [hb]; simp [h1]⟩⟩).elim
noncomputable def pairI (bad : Nat → Nat → Bool) (N : Nat) : Int × Int := Classical.choose (PairIs.ex bad N)
theorem pairI_is (bad : Nat → Nat → Bool) (N : Nat) : PairIs bad N (pairI bad N).1 (pairI bad N).2 := Classical.choose_spec (PairIs.ex bad N)
theorem pairI_eq {bad : Nat → Nat → Bool} {N : Nat} {a b : Int} (h : PairIs bad N a b) : pairI bad N = (a, b) := by
  obtain ⟨h1, h2⟩ := (pairI_is bad N).one h
  rw [← h1, ← h2]
theorem bit_zero (X k : Nat) : (bits BinOp.and IntKind.i64 ((X : Int) / 2 ^ k) 1 == 0) = !bitB X k := by
  rw [← bit_test, i64_and_1]
  have h := Int.emod_two_eq ((X : Int) / 2 ^ k)
  rcases h with h | h <;> rw [h] <;> rfl
theorem agrTo_nat6 (m : Int) (r s : List Int) (n : Nat) (h : n ≤ 5) : ∃ Y : Nat, agrTo m r s n = (Y : Int) ∧ Y < 32 := by
  obtain ⟨h0, h1⟩ := agrTo_bd m r s n
  refine ⟨(agrTo m r s n).toNat, by omega, ?_⟩
  rcases (show n = 0 ∨ n = 1 ∨ n = 2 ∨ n = 3 ∨ n = 4 ∨ n = 5 by omega) with rfl | rfl | rfl | rfl | rfl | rfl <;> simp at h1 <;> omega
/-- A table and a dependency, each in a block of the call's own. -/
theorem boxTD {w wr : World} {a b l r : Value} {T T' : TypeId} (hb : Below ((w.alloc (.cells #[a, b] T)).alloc (.cells #[l, r] T')).heap.size ((w.alloc (.cells #[a, b] T)).alloc (.cells #[l, r] T')) wr) :
    (wr.cell? ⟨w.heap.size, 0, none⟩ = some a ∧ wr.cell? ⟨w.heap.size, 1, none⟩ = some b) ∧ wr.cell? ⟨w.heap.size + 1, 0, none⟩ = some l ∧ wr.cell? ⟨w.heap.size + 1, 1, none⟩ = some r := by
  have hb1 := (Below.refl (w.alloc (.cells #[a, b] T)).heap.size (w.alloc (.cells #[a, b] T))).alloc (Nat.le_refl _) (.cells #[l, r] T')
  have hbb := hb1.trans (hb.mono hb1.size)
  obtain ⟨h0, h1⟩ := zero2 (w.alloc (.cells #[a, b] T)) T' l r
  have hs : (w.alloc (.cells #[a, b] T)).heap.size = w.heap.size + 1 := by simp
  rw [hs] at h0 h1
  obtain ⟨g0, g1⟩ := zero2 w T a b
  exact ⟨⟨(hbb.cell (p := ⟨w.heap.size, 0, none⟩) (by simp)).trans g0, (hbb.cell (p := ⟨w.heap.size, 1, none⟩) (by simp)).trans g1⟩, (hb.cell (p := ⟨w.heap.size + 1, 0, none⟩) (by simp)).trans h0, (hb.cell (p := ⟨w.heap.size + 1, 1, none⟩) (by simp)).trans h1⟩
set_option maxRecDepth 20000 in
set_option maxHeartbeats 1600000 in
theorem pair6_any (c m : Int) (L R : Nat) (v : Value) (ll : List (List Int)) (w : World) (hr : ReadSS w v ll) (hT : isT c ll = true) (hR : R < 5) :
    Calls Try.prog 23 #[.agg #[.int .i64 c, v], .int .i64 m, .agg #[.int .i64 (L : Int), .int .i64 (R : Int)]] w fun e w' =>
      e = .returned (.tuple #[.int .i64 (pairI (badB c.toNat ll m L R) ll.length).1, .int .i64 (pairI (badB c.toNat ll m L R) ll.length).2]) ∧ Below w.heap.size w w' := by
  obtain ⟨hc1, hc5, h40⟩ := isT_bd hT
  have HK := Lib.hid (fun (i k : Nat) w' (hb : Below w.heap.size w w') (hi : i < ll.length) (hk : k < ll.length) => l4Agree_any c m i k v ll w' (hr.kept hb) hT hi hk)
  obtain ⟨a, cap, rfl, -⟩ := hr
  have hb1 := (Below.refl w.heap.size w).alloc (Nat.le_refl _) (.cells #[.int .i64 c, .slice a ll.length cap] 26)
  have hb2 := hb1.alloc hb1.size (.cells #[.int .i64 (L : Int), .int .i64 (R : Int)] 28)
  have HB2 := Lib.hid hb2
  have HRF := Lib.hid (Below.refl ((w.alloc (.cells #[.int .i64 c, .slice a ll.length cap] 26)).alloc (.cells #[.int .i64 (L : Int), .int .i64 (R : Int)] 28)).heap.size ((w.alloc (.cells #[.int .i64 c, .slice a ll.length cap] 26)).alloc (.cells #[.int .i64 (L : Int), .int .i64 (R : Int)] 28)))
  have HEQ := Lib.hid (fun a b (h : PairIs (badB c.toNat ll m L R) ll.length a b) => pairI_eq h)
  have HTN := Lib.hid (fun i k => agrTo_nat6 m (ll.getD i []) (ll.getD k []) c.toNat (by omega))
  clear hb1 hb2
  go_enter Try.func23, Try.ntmps23
  go_wp2_with fail
  go_loopw [8] (fun iv wr => ∃ i : Nat, i ≤ ll.length ∧ iv = .int .i64 (i : Int) ∧ Hid (∀ i' k', i' < i → i' < k' → k' < ll.length → badB c.toNat ll m L R i' k' = false) ∧ Below ((w.alloc (.cells #[.int .i64 c, .slice a ll.length cap] 26)).alloc (.cells #[.int .i64 (L : Int), .int .i64 (R : Int)] 28)).heap.size ((w.alloc (.cells #[.int .i64 c, .slice a ll.length cap] 26)).alloc (.cells #[.int .i64 (L : Int), .int .i64 (R : Int)] 28)) wr) (fun iv _ => ll.length - (intOf iv).toNat)
  case atStart => exact ⟨0, by omega, rfl, Lib.hid (fun i' k' h => absurd h (Nat.not_lt_zero _)), HRF.out⟩
  case round =>
    obtain ⟨i, hi, rfl, HNO, hb⟩ := hrel
    obtain ⟨w1, hw1⟩ : ∃ w', w' = wr := ⟨_, rfl⟩
    rw [← hw1] at hb ⊢
    clear hw1
    obtain ⟨⟨c0, c1⟩, d0, d1⟩ := boxTD hb
    by_cases hlt : i < ll.length
    · have z1 : (i : Int) < (ll.length : Int) := by omega
      go_wp2_with fail
      go_loopw [9] (fun kv wr => ∃ k : Nat, i < k ∧ k ≤ ll.length ∧ kv = .int .i64 (k : Int) ∧ Hid (∀ k', i < k' → k' < k → badB c.toNat ll m L R i k' = false) ∧ Below ((w.alloc (.cells #[.int .i64 c, .slice a ll.length cap] 26)).alloc (.cells #[.int .i64 (L : Int), .int .i64 (R : Int)] 28)).heap.size ((w.alloc (.cells #[.int .i64 c, .slice a ll.length cap] 26)).alloc (.cells #[.int .i64 (L : Int), .int .i64 (R : Int)] 28)) wr) (fun kv _ => ll.length - (intOf kv).toNat)
      case atStart => exact ⟨i + 1, by omega, by omega, by go_num, Lib.hid (fun k' h1 h2 => by omega), hb⟩
      case round =>
        clear c0 c1 d0 d1 hb
        obtain ⟨k, hik, hk, rfl, HNK, hb⟩ := hrel
        obtain ⟨w2, hw2⟩ : ∃ w', w' = wr := ⟨_, rfl⟩
        rw [← hw2] at hb ⊢
        clear hw2
        obtain ⟨⟨c0, c1⟩, d0, d1⟩ := boxTD hb
        by_cases hlk : k < ll.length
        · have z2 : (k : Int) < (ll.length : Int) := by omega
          have HC := Lib.hid (HK.out i k w2 (HB2.out.trans (hb.mono HB2.out.size)) hlt hlk)
          obtain ⟨X, hX, hX32⟩ := HTN.out i k
          have hbad : badB c.toNat ll m L R i k = ((bits .and .i64 (X : Int) (L : Int) == (L : Int)) && !bitB X R) := by
            unfold badB agB; rw [hX]; rfl
          rw [hX] at HC
          have HBZ := Lib.hid (bit_zero X R)
          have HB := Lib.hid hb
          clear hX hb
          cases h1 : (bits .and .i64 (X : Int) (L : Int) == (L : Int)) with
          | false =>
            have HBF : Hid (badB c.toNat ll m L R i k = false) := Lib.hid (by rw [hbad, h1]; rfl)
            clear hbad
            go_wp2_with fail
            refine HC.out.mono ?_
            rintro e w3 ⟨rfl, b3⟩
            have hb3 := HB.out.trans (b3.mono HB.out.size)
            clear b3 c0 c1 d0 d1
            obtain ⟨⟨c0, c1⟩, d0, d1⟩ := boxTD hb3
            go_wp2_with fail
            go_roundw
            case rel => exact ⟨k + 1, by omega, by omega, by go_num, Lib.hid (fun k' g1 g2 => by
              by_cases e : k' = k
              · rw [e]; exact HBF.out
              · exact HNK.out k' g1 (by omega)), hb3⟩
            case measure => simp [intOf]; omega
          | true =>
            cases h2 : bitB X R with
            | true =>
              have HBF : Hid (badB c.toNat ll m L R i k = false) := Lib.hid (by rw [hbad, h2]; simp)
              rw [h2] at HBZ
              have h3 := HBZ.out
              rw [show (!true) = false from rfl] at h3
              clear hbad h2 HBZ
              go_wp2_with fail
              refine HC.out.mono ?_
              rintro e w3 ⟨rfl, b3⟩
              have hb3 := HB.out.trans (b3.mono HB.out.size)
              clear b3 c0 c1 d0 d1
              obtain ⟨⟨c0, c1⟩, d0, d1⟩ := boxTD hb3
              go_wp2_with fail
              go_roundw
              case rel => exact ⟨k + 1, by omega, by omega, by go_num, Lib.hid (fun k' g1 g2 => by
                by_cases e : k' = k
                · rw [e]; exact HBF.out
                · exact HNK.out k' g1 (by omega)), hb3⟩
              case measure => simp [intOf]; omega
            | false =>
              have HP := Lib.hid (HEQ.out (i : Int) (k : Int) (.inr ⟨i, k, rfl, rfl, hik, hlk, by rw [hbad, h1, h2]; rfl, HNO.out, HNK.out⟩))
              rw [h2] at HBZ
              have h3 := HBZ.out
              rw [show (!false) = true from rfl] at h3
              clear hbad h2 HBZ
              go_wp2_with fail
              refine HC.out.mono ?_
              rintro e w3 ⟨rfl, b3⟩
              have hb3 := HB.out.trans (b3.mono HB.out.size)
              have hb4 := HB2.out.trans (hb3.mono HB2.out.size)
              clear b3 c0 c1 d0 d1
              obtain ⟨⟨c0, c1⟩, d0, d1⟩ := boxTD hb3
              go_wp2_with fail
              go_ret2
              exact ⟨by rw [HP.out]; rfl, hb4⟩
        · obtain rfl : k = ll.length := by omega
          go_wp2_with fail
          go_roundw
          case rel => exact ⟨i + 1, by omega, by go_num, Lib.hid (fun i' k' g1 g2 g3 => by
            by_cases e : i' = i
            · rw [e] at g2 ⊢; exact HNK.out k' g2 g3
            · exact HNO.out i' k' (by omega) g2 g3), hb⟩
          case measure => simp [intOf]; omega
    · obtain rfl : i = ll.length := by omega
      have HP := Lib.hid (HEQ.out (-1) (-1) (.inl ⟨rfl, rfl, fun i k g1 g2 => HNO.out i k (by omega) g1 g2⟩))
      have hb4 := HB2.out.trans (hb.mono HB2.out.size)
      go_wp2_with fail
      go_ret2
      exact ⟨by rw [HP.out]; rfl, hb4⟩
end Go.Proofs.Ytfndnaldgaaieaa
namespace Go.Proofs.Ytfndnaldgaaieaa
open Go.RowKit

/-- The first pair that violates the dependency. -/
noncomputable def pairD (c : Int) (ll : List (List Int)) (m l r : Int) : Int × Int := pairI (badB c.toNat ll m l.toNat r.toNat) ll.length
def okD (c : Int) (ll : List (List Int)) (m l r : Int) : Bool := fineT c ll m && depB c l r
noncomputable def holdsD (c : Int) (ll : List (List Int)) (m l r : Int) : Bool := okD c ll m l r && decide ((pairD c ll m l r).1 < 0)
noncomputable def witI (c : Int) (ll : List (List Int)) (m l r : Int) : Int := if okD c ll m l r = true then (pairD c ll m l r).1 else -1
noncomputable def witK (c : Int) (ll : List (List Int)) (m l r : Int) : Int := if okD c ll m l r = true then (pairD c ll m l r).2 else -1
noncomputable def witB (c : Int) (ll : List (List Int)) (m l r : Int) : Bool := okD c ll m l r && decide (0 ≤ (pairD c ll m l r).1)
theorem depB_nat {c l r : Int} (h : depB c l r = true) : ∃ L R : Nat, l = (L : Int) ∧ r = (R : Int) ∧ R < 5 := by
  obtain ⟨⟨h1, h5⟩, ha, h0, hr⟩ := depB_iff.1 h
  refine ⟨l.toNat, r.toNat, ?_, by omega, by omega⟩
  unfold isA at ha
  simp at ha
  omega
theorem fineT_isT {c : Int} {ll : List (List Int)} {m : Int} (h : fineT c ll m = true) : isT c ll = true := by unfold fineT at h; simp at h; exact h.1

section
set_option maxRecDepth 20000
set_option maxHeartbeats 1600000
theorem holdsDep_any (c m l r : Int) (v : Value) (ll : List (List Int)) (w : World) (hr : ReadSS w v ll) (hl : ll.length ≤ 1048576) (ht : ∀ i, i < ll.length → (ll.getD i []).length ≤ 1048576) :
    Calls Try.prog 10 #[.agg #[.int .i64 c, v], .int .i64 m, .agg #[.int .i64 l, .int .i64 r]] w fun e w' => e = .returned (.bool (holdsD c ll m l r)) ∧ Below w.heap.size w w' := by
  have HF := Lib.hid (fun w' (hb : Below w.heap.size w w') => l4Fine_any c m v ll w' (hr.kept hb) hl ht)
  have HD := Lib.hid (isDep_any c l r)
  have HP := Lib.hid (fun (L R : Nat) w' (hb : Below w.heap.size w w') hT (hR : R < 5) => pair6_any c m L R v ll w' (hr.kept hb) hT hR)
  obtain ⟨a, cap, rfl, -⟩ := hr
  have hb1 := (Below.refl w.heap.size w).alloc (Nat.le_refl _) (.cells #[.int .i64 c, .slice a ll.length cap] 26)
  have hb2 := hb1.alloc hb1.size (.cells #[.int .i64 l, .int .i64 r] 28)
  have HB2 := Lib.hid hb2
  have HRF := Lib.hid (Below.refl ((w.alloc (.cells #[.int .i64 c, .slice a ll.length cap] 26)).alloc (.cells #[.int .i64 l, .int .i64 r] 28)).heap.size ((w.alloc (.cells #[.int .i64 c, .slice a ll.length cap] 26)).alloc (.cells #[.int .i64 l, .int .i64 r] 28)))
  obtain ⟨⟨c0, c1⟩, d0, d1⟩ := boxTD HRF.out
  clear hb1 hb2 ht
  cases hf : fineT c ll m with
  | false =>
    have HE : Hid (holdsD c ll m l r = false) := Lib.hid (by unfold holdsD okD; rw [hf]; rfl)
    rw [hf] at HF
    clear hf
    go_enter Try.func10, Try.ntmps10
    go_wp2_with fail
    refine (HF.out _ HB2.out).mono ?_
    rintro e w1 ⟨rfl, b1⟩
    have hb1 := HRF.out.trans (b1.mono HRF.out.size)
    clear b1 c0 c1 d0 d1
    obtain ⟨⟨c0, c1⟩, d0, d1⟩ := boxTD hb1
    have hb2 := HB2.out.trans (hb1.mono HB2.out.size)
    go_wp2_with fail
    go_ret
    exact ⟨by rw [HE.out]; rfl, hb2⟩
  | true =>
    rw [hf] at HF
    cases hd : depB c l r with
    | false =>
      have HE : Hid (holdsD c ll m l r = false) := Lib.hid (by unfold holdsD okD; rw [hd]; simp)
      rw [hd] at HD
      clear hf hd
      go_enter Try.func10, Try.ntmps10
      go_wp2_with fail
      refine (HF.out _ HB2.out).mono ?_
      rintro e w1 ⟨rfl, b1⟩
      have hb1 := HRF.out.trans (b1.mono HRF.out.size)
      clear b1 c0 c1 d0 d1
      obtain ⟨⟨c0, c1⟩, d0, d1⟩ := boxTD hb1
      have hb2 := HB2.out.trans (hb1.mono HB2.out.size)
      go_wp2_with fail
      refine (HD.out _).mono ?_
      rintro e w2 ⟨rfl, b2⟩
      have hb3 := hb1.trans (b2.mono hb1.size)
      clear b2 c0 c1 d0 d1 hb2
      obtain ⟨⟨c0, c1⟩, d0, d1⟩ := boxTD hb3
      have hb4 := HB2.out.trans (hb3.mono HB2.out.size)
      go_wp2_with fail
      go_ret
      exact ⟨by rw [HE.out]; rfl, hb4⟩
    | true =>
      rw [hd] at HD
      have hT := fineT_isT hf
      have hok : okD c ll m l r = true := by unfold okD; rw [hf, hd]; rfl
      obtain ⟨x, hx⟩ : ∃ x, x = (pairD c ll m l r).1 := ⟨_, rfl⟩
      have HE : Hid (holdsD c ll m l r = decide (x < 0)) := Lib.hid (by unfold holdsD; rw [hok, hx]; rfl)
      obtain ⟨L, R, rfl, rfl, hR⟩ := depB_nat hd
      have HQ := Lib.hid (fun w' hb => HP.out L R w' hb hT hR)
      unfold pairD at hx
      rw [show ((L : Int)).toNat = L from rfl, show ((R : Int)).toNat = R from rfl] at hx
      rw [← hx] at HQ
      clear hf hd hT hok hx HP
      go_enter Try.func10, Try.ntmps10
      go_wp2_with fail
      refine (HF.out _ HB2.out).mono ?_
      rintro e w1 ⟨rfl, b1⟩
      have hb1 := HRF.out.trans (b1.mono HRF.out.size)
      clear b1 c0 c1 d0 d1
      obtain ⟨⟨c0, c1⟩, d0, d1⟩ := boxTD hb1
      have hb2 := HB2.out.trans (hb1.mono HB2.out.size)
      go_wp2_with fail
      refine (HD.out _).mono ?_
      rintro e w2 ⟨rfl, b2⟩
      have hb3 := hb1.trans (b2.mono hb1.size)
      clear b2 c0 c1 d0 d1 hb2
      obtain ⟨⟨c0, c1⟩, d0, d1⟩ := boxTD hb3
      have hb4 := HB2.out.trans (hb3.mono HB2.out.size)
      go_wp2_with fail
      refine (HQ.out _ hb4).mono ?_
      rintro e w3 ⟨rfl, b3⟩
      have hb5 := hb4.trans (b3.mono hb4.size)
      clear b3 c0 c1 d0 d1
      go_wp2_with fail
      go_ret
      exact ⟨by rw [HE.out]; rfl, hb5⟩
theorem witnessOf_any (c m l r : Int) (v : Value) (ll : List (List Int)) (w : World) (hr : ReadSS w v ll) (hl : ll.length ≤ 1048576) (ht : ∀ i, i < ll.length → (ll.getD i []).length ≤ 1048576) :
    Calls Try.prog 9 #[.agg #[.int .i64 c, v], .int .i64 m, .agg #[.int .i64 l, .int .i64 r]] w fun e w' => e = .returned (.tuple #[.int .i64 (witI c ll m l r), .int .i64 (witK c ll m l r), .bool (witB c ll m l r)]) ∧ Below w.heap.size w w' := by
  have HF := Lib.hid (fun w' (hb : Below w.heap.size w w') => l4Fine_any c m v ll w' (hr.kept hb) hl ht)
  have HD := Lib.hid (isDep_any c l r)
  have HP := Lib.hid (fun (L R : Nat) w' (hb : Below w.heap.size w w') hT (hR : R < 5) => pair6_any c m L R v ll w' (hr.kept hb) hT hR)
  obtain ⟨a, cap, rfl, -⟩ := hr
  have hb1 := (Below.refl w.heap.size w).alloc (Nat.le_refl _) (.cells #[.int .i64 c, .slice a ll.length cap] 26)
  have hb2 := hb1.alloc hb1.size (.cells #[.int .i64 l, .int .i64 r] 28)
  have HB2 := Lib.hid hb2
  have HRF := Lib.hid (Below.refl ((w.alloc (.cells #[.int .i64 c, .slice a ll.length cap] 26)).alloc (.cells #[.int .i64 l, .int .i64 r] 28)).heap.size ((w.alloc (.cells #[.int .i64 c, .slice a ll.length cap] 26)).alloc (.cells #[.int .i64 l, .int .i64 r] 28)))
  obtain ⟨⟨c0, c1⟩, d0, d1⟩ := boxTD HRF.out
  clear hb1 hb2 ht
  cases hf : fineT c ll m with
  | false =>
    have HE : Hid (witI c ll m l r = -1 ∧ witK c ll m l r = -1 ∧ witB c ll m l r = false) := Lib.hid (by unfold witI witK witB okD; rw [hf]; exact ⟨rfl, rfl, rfl⟩)
    rw [hf] at HF
    clear hf
    go_enter Try.func9, Try.ntmps9
    go_wp2_with fail
    refine (HF.out _ HB2.out).mono ?_
    rintro e w1 ⟨rfl, b1⟩
    have hb1 := HRF.out.trans (b1.mono HRF.out.size)
    clear b1 c0 c1 d0 d1
    obtain ⟨⟨c0, c1⟩, d0, d1⟩ := boxTD hb1
    have hb2 := HB2.out.trans (hb1.mono HB2.out.size)
    go_wp2_with fail
    go_ret3
    exact ⟨by rw [HE.out.1, HE.out.2.1, HE.out.2.2]; rfl, hb2⟩
  | true =>
    rw [hf] at HF
    cases hd : depB c l r with
    | false =>
      have HE : Hid (witI c ll m l r = -1 ∧ witK c ll m l r = -1 ∧ witB c ll m l r = false) := Lib.hid (by unfold witI witK witB okD; rw [hd]; simp)
      rw [hd] at HD
      clear hf hd
      go_enter Try.func9, Try.ntmps9
      go_wp2_with fail
      refine (HF.out _ HB2.out).mono ?_
      rintro e w1 ⟨rfl, b1⟩
      have hb1 := HRF.out.trans (b1.mono HRF.out.size)
      clear b1 c0 c1 d0 d1
      obtain ⟨⟨c0, c1⟩, d0, d1⟩ := boxTD hb1
      have hb2 := HB2.out.trans (hb1.mono HB2.out.size)
      go_wp2_with fail
      refine (HD.out _).mono ?_
      rintro e w2 ⟨rfl, b2⟩
      have hb3 := hb1.trans (b2.mono hb1.size)
      clear b2 c0 c1 d0 d1 hb2
      obtain ⟨⟨c0, c1⟩, d0, d1⟩ := boxTD hb3
      have hb4 := HB2.out.trans (hb3.mono HB2.out.size)
      go_wp2_with fail
      go_ret3
      exact ⟨by rw [HE.out.1, HE.out.2.1, HE.out.2.2]; rfl, hb4⟩
    | true =>
      rw [hd] at HD
      have hT := fineT_isT hf
      have hok : okD c ll m l r = true := by unfold okD; rw [hf, hd]; rfl
      obtain ⟨x, hx⟩ : ∃ x, x = (pairD c ll m l r).1 := ⟨_, rfl⟩
      obtain ⟨y, hy⟩ : ∃ y, y = (pairD c ll m l r).2 := ⟨_, rfl⟩
      have HE : Hid (witI c ll m l r = x ∧ witK c ll m l r = y ∧ witB c ll m l r = decide (0 ≤ x)) := Lib.hid (by unfold witI witK witB; rw [hok, hx, hy]; exact ⟨rfl, rfl, rfl⟩)
      obtain ⟨L, R, rfl, rfl, hR⟩ := depB_nat hd
      have HQ := Lib.hid (fun w' hb => HP.out L R w' hb hT hR)
      unfold pairD at hx hy
      rw [show ((L : Int)).toNat = L from rfl, show ((R : Int)).toNat = R from rfl] at hx hy
      rw [← hx, ← hy] at HQ
      clear hf hd hT hok hx hy HP
      go_enter Try.func9, Try.ntmps9
      go_wp2_with fail
      refine (HF.out _ HB2.out).mono ?_
      rintro e w1 ⟨rfl, b1⟩
      have hb1 := HRF.out.trans (b1.mono HRF.out.size)
      clear b1 c0 c1 d0 d1
      obtain ⟨⟨c0, c1⟩, d0, d1⟩ := boxTD hb1
      have hb2 := HB2.out.trans (hb1.mono HB2.out.size)
      go_wp2_with fail
      refine (HD.out _).mono ?_
      rintro e w2 ⟨rfl, b2⟩
      have hb3 := hb1.trans (b2.mono hb1.size)
      clear b2 c0 c1 d0 d1 hb2
      obtain ⟨⟨c0, c1⟩, d0, d1⟩ := boxTD hb3
      have hb4 := HB2.out.trans (hb3.mono HB2.out.size)
      go_wp2_with fail
      refine (HQ.out _ hb4).mono ?_
      rintro e w3 ⟨rfl, b3⟩
      have hb5 := hb4.trans (b3.mono hb4.size)
      clear b3 c0 c1 d0 d1
      go_wp2_with fail
      go_ret3
      exact ⟨by rw [HE.out.1, HE.out.2.1, HE.out.2.2]; rfl, hb5⟩
end
end Go.Proofs.Ytfndnaldgaaieaa
