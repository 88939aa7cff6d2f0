/- Texts of this claim, merged: PrtE0, PmA, DepC. Conditions: as stated. -/
import Derived.Test.YtficnbeciohpfaaSg16
import Derived.Test.YtficnbeciohpfaaSg15
import Derived.Test.YtficnbeciohpfaaSg12
import Derived.Test.YtficnbeciohpfaaSg13
import Derived.Test.YtficnbeciohpfaaSg17
namespace Go.Proofs.Ytficnbeciohpfaa

theorem mem_mems {S : Nat} (hS : S < 32) {x : Int} : x ∈ mems (S : Int) ↔ ∃ j : Nat, j < 5 ∧ bitB S j = true ∧ x = (j : Int) := by
  unfold mems
  rw [if_pos (by omega), show ((S : Int)).toNat = S by omega]
  unfold memN
  rw [List.mem_map]
  constructor
  · rintro ⟨j, hj, rfl⟩
    rw [List.mem_filter, List.mem_range] at hj
    exact ⟨j, hj.1, hj.2, rfl⟩
  · rintro ⟨j, h1, h2, rfl⟩
    exact ⟨j, by rw [List.mem_filter, List.mem_range]; exact ⟨h1, h2⟩, rfl⟩
theorem bit_low : ∀ (c : Fin 6) (S : Fin 32) (j : Fin 5), S.val < 2 ^ c.val → bitB S.val j.val = true → j.val < c.val := by decide +kernel
theorem pad5_inj {r s : List Int} (h : r.length = s.length) (h5 : r.length ≤ 5) (he : pad5 r = pad5 s) : r = s := by
  apply List.ext_getElem h
  intro i h1 h2
  have e1 := pad5_get r i (by rw [pad5_len]; omega)
  have e2 := pad5_get s i (by rw [pad5_len]; omega)
  have e3 : (pad5 r)[i]'(by rw [pad5_len]; omega) = (pad5 s)[i]'(by rw [pad5_len]; omega) := by simp only [he]
  rw [e1, e2, ← get_getD r i h1, ← get_getD s i h2] at e3
  exact e3
/-- The record of the columns S of row i. -/
def recC (ll : List (List Int)) (S i : Nat) : List Int := (mems (S : Int)).map fun k => (ll.getD i []).getD k.toNat 0
/-- The key of a row: its record, if it is equal to itself. -/
def keyT (c : Nat) (ll : List (List Int)) (m : Int) (S i : Nat) : Option (List Int) := if agB c ll m (S : Int) i i = true then some (pad5 (recC ll S i)) else none
theorem rec_eq {ll : List (List Int)} {S i k : Nat} (hS : S < 32) : pad5 (recC ll S i) = pad5 (recC ll S k) ↔ ∀ j, j < 5 → bitB S j = true → (ll.getD i []).getD j 0 = (ll.getD k []).getD j 0 := by
  constructor
  · intro h j hj hb
    have h1 := pad5_inj (by simp [recC]) (by unfold recC; rw [List.length_map]; exact mems_len _) h
    unfold recC at h1
    have := List.map_inj_left.1 h1 (j : Int) ((mem_mems hS).2 ⟨j, hj, hb, rfl⟩)
    rw [show ((j : Int)).toNat = j by omega] at this
    exact this
  · intro h
    congr 1
    unfold recC
    apply List.map_congr_left
    intro x hx
    obtain ⟨j, h1, h2, rfl⟩ := (mem_mems hS).1 hx
    rw [show ((j : Int)).toNat = j by omega]
    exact h j h1 h2
theorem pow_lt32 {c S : Nat} (hc : c ≤ 5) (hS : S < 2 ^ c) : S < 32 := by
  have : 2 ^ c ≤ 32 := by
    rcases (show c = 0 ∨ c = 1 ∨ c = 2 ∨ c = 3 ∨ c = 4 ∨ c = 5 by omega) with rfl | rfl | rfl | rfl | rfl | rfl <;> decide
  omega
theorem eqC_of {m a b : Int} (h : eqC m a a = true) (he : a = b) : eqC m a b = true := by subst he; exact h
theorem eqC_val {m a b : Int} (h : eqC m a b = true) : a = b := by
  unfold eqC at h; simp only [decide_eq_true_eq] at h; exact h.2.1
/-- Two rows have one key if they agree. -/
theorem key_agree {c : Nat} {ll : List (List Int)} {m : Int} {S a b : Nat} {r : List Int} (hc : c ≤ 5) (hS : S < 2 ^ c) (hk : keyT c ll m S a = some r) : keyT c ll m S b = some r ↔ agB c ll m (S : Int) a b = true := by
  have h32 := pow_lt32 hc hS
  unfold keyT at *
  split at hk
  · next ha =>
    have hk' := (Option.some.inj hk).symm
    subst hk'
    have ha' := (agB_iff c ll m S a a hc hS).1 ha
    constructor
    · intro hb
      split at hb
      · have he := (rec_eq h32).1 (Option.some.inj hb)
        rw [agB_iff c ll m S _ _ hc hS]
        intro j hj hbit
        exact eqC_of (ha' j hj hbit) (he j (by omega) hbit).symm
      · cases hb
    · intro hab
      have hbb := agB_trans hc hS (agB_symm hc hS hab) hab
      rw [if_pos hbb]
      congr 1
      refine (rec_eq h32).2 fun j hj hbit => ?_
      have hjc := bit_low ⟨c, by omega⟩ ⟨S, h32⟩ ⟨j, hj⟩ hS hbit
      exact (eqC_val ((agB_iff c ll m S a b hc hS).1 hab j hjc hbit)).symm
  · cases hk
theorem pad5_r5 {r : List Int} (h : ∀ x ∈ r, -1 ≤ x ∧ x ≤ 40) : R5 (pad5 r) := by
  refine ⟨pad5_len r, fun j hj => ?_⟩
  rw [← get_getD (pad5 r) j (by rw [pad5_len]; exact hj), pad5_get]
  refine Go.WalkArith.wf_i64 ?_
  by_cases hjl : j < r.length
  · have := h (r.getD j 0) (by rw [← get_getD r j hjl]; exact List.getElem_mem _)
    omega
  · rw [getD_end r j (by omega)]; omega
theorem recC_bd {c : Int} {ll : List (List Int)} {S i : Nat} (hT : isT c ll = true) (hS : S < 2 ^ c.toNat) (hi : i < ll.length) : ∀ x ∈ recC ll S i, -1 ≤ x ∧ x ≤ 40 := by
  obtain ⟨c1, c5, -⟩ := isT_bd hT
  intro x hx
  unfold recC at hx
  obtain ⟨k, hk, rfl⟩ := List.mem_map.1 hx
  obtain ⟨j, h1, h2, rfl⟩ := (mem_mems (pow_lt32 (by omega) hS)).1 hk
  obtain ⟨hl, hb⟩ := isT_row hT hi
  have hjc := bit_low ⟨c.toNat, by omega⟩ ⟨S, pow_lt32 (by omega) hS⟩ ⟨j, h1⟩ hS h2
  simp only at hjc
  rw [show ((j : Int)).toNat = j by omega]
  exact hb _ (by rw [← get_getD _ j (by omega)]; exact List.getElem_mem _)
theorem mems_in {c : Int} {ll : List (List Int)} {S i : Nat} (hT : isT c ll = true) (hS : S < 2 ^ c.toNat) (hi : i < ll.length) : ∀ x ∈ mems (S : Int), 0 ≤ x ∧ x < ((ll.getD i []).length : Int) := by
  obtain ⟨c1, c5, -⟩ := isT_bd hT
  intro x hx
  obtain ⟨j, h1, h2, rfl⟩ := (mem_mems (pow_lt32 (by omega) hS)).1 hx
  obtain ⟨hl, -⟩ := isT_row hT hi
  have hjc := bit_low ⟨c.toNat, by omega⟩ ⟨S, pow_lt32 (by omega) hS⟩ ⟨j, h1⟩ hS h2
  simp only at hjc
  omega
end Go.Proofs.Ytficnbeciohpfaa
namespace Go.Proofs.Ytficnbeciohpfaa

theorem ascH_unique {α : Type} {r : α → α → Prop} (irr : ∀ x, ¬ r x x) (tr : ∀ x y z, r x y → r y z → r x z) : ∀ (a b : List α), a.Pairwise r → b.Pairwise r → (∀ x, x ∈ a ↔ x ∈ b) → a = b
  | [], [], _, _, _ => rfl
  | [], y :: t, _, _, h => by have := (h y).2 (by simp); cases this
  | x :: s, [], _, _, h => by have := (h x).1 (by simp); cases this
  | x :: s, y :: t, ha, hb, h => by
    rw [List.pairwise_cons] at ha hb
    have hxy : x = y := by
      rcases List.mem_cons.1 ((h x).1 (by simp)) with e | e
      · exact e
      · rcases List.mem_cons.1 ((h y).2 (by simp)) with e' | e'
        · exact e'.symm
        · exact (irr x (tr _ _ _ (ha.1 y e') (hb.1 x e))).elim
    subst hxy
    have hst : s = t := ascH_unique irr tr s t ha.2 hb.2 fun z => by
      have hz := h z
      rw [List.mem_cons, List.mem_cons] at hz
      constructor
      · intro hm
        rcases hz.1 (Or.inr hm) with e | e
        · subst e; exact (irr z (ha.1 z hm)).elim
        · exact e
      · intro hm
        rcases hz.2 (Or.inr hm) with e | e
        · subst e; exact (irr z (hb.1 z hm)).elim
        · exact e
    rw [hst]
section
variable {c : Nat} {ll : List (List Int)} {m : Int} {S : Nat}
/-- The rows that begin a class. -/
def reps (c : Nat) (ll : List (List Int)) (m : Int) (S : Nat) : List Nat := (List.range ll.length).filter fun a => repB c ll m (S : Int) a && decide (1 < (clsC c ll m (S : Int) a).length)
/-- The classes. -/
def parL (c : Nat) (ll : List (List Int)) (m : Int) (S : Nat) : List (List Int) := prtL c ll m (S : Int) ll.length
theorem parL_map : parL c ll m S = (reps c ll m S).map (clsC c ll m (S : Int)) := rfl
theorem reps_mem {a : Nat} : a ∈ reps c ll m S ↔ a < ll.length ∧ repB c ll m (S : Int) a = true ∧ 1 < (clsC c ll m (S : Int) a).length := by
  unfold reps
  rw [List.mem_filter, List.mem_range, Bool.and_eq_true, decide_eq_true_eq]
theorem reps_asc : (reps c ll m S).Pairwise (fun a b => a < b) := List.Pairwise.filter _ List.pairwise_lt_range
theorem parL_len : (parL c ll m S).length = (reps c ll m S).length := by rw [parL_map, List.length_map]
theorem parL_get {i : Nat} (hi : i < (parL c ll m S).length) : (parL c ll m S).getD i [] = clsC c ll m (S : Int) ((reps c ll m S).getD i 0) ∧ (reps c ll m S).getD i 0 ∈ reps c ll m S := by
  rw [parL_len] at hi
  rw [parL_map, List.getD_eq_getElem?_getD, List.getElem?_map, List.getD_eq_getElem?_getD, List.getElem?_eq_getElem hi]
  exact ⟨rfl, List.getElem_mem hi⟩
theorem rowsC_ascH (i : Nat) (s : Int) : ∀ n, (rowsC c ll m s i n).Pairwise (fun a b => a < b)
  | 0 => by simp [rowsC]
  | n + 1 => by
    have ih := rowsC_ascH i s n
    unfold rowsC
    split
    · rw [List.pairwise_append]
      refine ⟨ih, by simp, fun x hx y hy => ?_⟩
      rw [List.mem_singleton] at hy
      subst hy
      rw [rowsC_mem] at hx
      rcases hx with rfl | ⟨k, h1, h2, -, rfl⟩ <;> omega
    · exact ih
theorem clsC_asc (a : Nat) (s : Int) : (clsC c ll m s a).Pairwise (fun x y => x < y) := rowsC_ascH a s _
/-- A class of at least two rows has a partner for its first one. -/
theorem clsC_two {a : Nat} (ha : a < ll.length) : 1 < (clsC c ll m (S : Int) a).length ↔ ∃ k : Nat, a < k ∧ k < ll.length ∧ agB c ll m (S : Int) a k = true := by
  constructor
  · intro h
    cases hq : clsC c ll m (S : Int) a with
    | nil => rw [hq] at h; simp at h
    | cons x t =>
      cases t with
      | nil => rw [hq] at h; simp at h
      | cons y t =>
        have hx := (clsC_mem c ll m (S : Int) a ha x).1 (by rw [hq]; simp)
        have hy := (clsC_mem c ll m (S : Int) a ha y).1 (by rw [hq]; simp)
        have hxy : x < y := by
          have := clsC_asc (c := c) (ll := ll) (m := m) a (S : Int)
          rw [hq, List.pairwise_cons] at this
          exact this.1 y (by simp)
        rcases hy with rfl | ⟨k, h1, h2, h3, -⟩
        · rcases hx with rfl | ⟨k, h1, h2, h3, rfl⟩ <;> omega
        · exact ⟨k, h1, h2, h3⟩
  · rintro ⟨k, h1, h2, h3⟩
    have hk : (k : Int) ∈ clsC c ll m (S : Int) a := (clsC_mem c ll m _ a ha _).2 (.inr ⟨k, h1, h2, h3, rfl⟩)
    have hz : (a : Int) ∈ clsC c ll m (S : Int) a := (clsC_mem c ll m _ a ha _).2 (.inl rfl)
    cases hq : clsC c ll m (S : Int) a with
    | nil => rw [hq] at hk; cases hk
    | cons x t =>
      cases t with
      | nil =>
        rw [hq, List.mem_singleton] at hk hz
        omega
      | cons y t => simp
/-- The rows of the class of a first row are those that agree with it. -/
theorem rep_mem (hc : c ≤ 5) (hS : S < 2 ^ c) {a : Nat} (ha : a ∈ reps c ll m S) {x : Int} : x ∈ clsC c ll m (S : Int) a ↔ ∃ k : Nat, k < ll.length ∧ x = (k : Int) ∧ agB c ll m (S : Int) a k = true := by
  obtain ⟨h1, h2, h3⟩ := reps_mem.1 ha
  rw [clsC_mem c ll m _ a h1]
  obtain ⟨y, y1, y2, y3⟩ := (clsC_two h1).1 h3
  have haa := agB_trans hc hS y3 (agB_symm hc hS y3)
  constructor
  · rintro (rfl | ⟨k, g1, g2, g3, rfl⟩)
    · exact ⟨a, h1, rfl, haa⟩
    · exact ⟨k, g2, rfl, g3⟩
  · rintro ⟨k, g1, rfl, g3⟩
    rcases Nat.lt_trichotomy k a with hlt | rfl | hlt
    · unfold repB at h2
      rw [Bool.not_eq_true', List.any_eq_false] at h2
      exact (h2 k (List.mem_range.2 hlt) (agB_symm hc hS g3)).elim
    · exact .inl rfl
    · exact .inr ⟨k, hlt, g1, g3, rfl⟩
theorem parL_part (hc : c ≤ 5) (hS : S < 2 ^ c) (h40 : ll.length ≤ 40) : partP (parL c ll m S) (ll.length : Int) = true := by
  rw [partP_iff]
  refine ⟨by omega, fun i hi => ?_⟩
  obtain ⟨e, hm⟩ := parL_get hi
  obtain ⟨h1, h2, h3⟩ := reps_mem.1 hm
  have hfirst : ∀ j, j < (parL c ll m S).length → ∃ t, (parL c ll m S).getD j [] = (((reps c ll m S).getD j 0 : Nat) : Int) :: t := by
    intro j hj
    obtain ⟨ej, hmj⟩ := parL_get hj
    obtain ⟨g1, -, -⟩ := reps_mem.1 hmj
    rw [ej]
    cases hq : clsC c ll m (S : Int) ((reps c ll m S).getD j 0) with
    | nil =>
      have := (clsC_mem c ll m (S : Int) _ g1 _).2 (.inl rfl)
      rw [hq] at this; cases this
    | cons x t =>
      have hz := (clsC_mem c ll m (S : Int) _ g1 _).2 (.inl rfl)
      have hx := (clsC_mem c ll m (S : Int) _ g1 x).1 (by rw [hq]; simp)
      have hp := clsC_asc (c := c) (ll := ll) (m := m) ((reps c ll m S).getD j 0) (S : Int)
      rw [hq, List.pairwise_cons] at hp
      rw [hq] at hz
      rcases List.mem_cons.1 hz with hz | hz
      · exact ⟨t, by rw [hz]⟩
      · have := hp.1 _ hz
        rcases hx with hx | ⟨k, k1, -, -, hx⟩ <;> omega
  have hlt : ∀ j, j < i → (reps c ll m S).getD j 0 < (reps c ll m S).getD i 0 := fun j hj => by
    rw [parL_len] at hi
    have := (List.pairwise_iff_getElem.1 (reps_asc (c := c) (ll := ll) (m := m) (S := S))) j i (by omega) hi hj
    rw [List.getD_eq_getElem?_getD, List.getElem?_eq_getElem (by omega), List.getD_eq_getElem?_getD, List.getElem?_eq_getElem hi]
    exact this
  refine ⟨by rw [e]; omega, ?_, ?_, ?_, ?_⟩
  · obtain ⟨t, ht⟩ := hfirst i hi
    rw [ht]
    show lastTo _ i < (((reps c ll m S).getD i 0 : Nat) : Int)
    by_cases h0 : i = 0
    · subst h0
      show (-1 : Int) < _
      omega
    · obtain ⟨j, rfl⟩ : ∃ j, i = j + 1 := ⟨i - 1, by omega⟩
      obtain ⟨t', ht'⟩ := hfirst j (by omega)
      have hl : lastTo (parL c ll m S) (j + 1) = ((parL c ll m S).getD j []).getD 0 0 := rfl
      rw [hl, ht']
      have := hlt j (by omega)
      show (((reps c ll m S).getD j 0 : Nat) : Int) < _
      omega
  · intro k hk
    have hx : ((parL c ll m S).getD i []).getD k 0 ∈ (parL c ll m S).getD i [] := by rw [← get_getD _ k hk]; exact List.getElem_mem _
    rw [e] at hx ⊢
    obtain ⟨q, q1, q2, -⟩ := (rep_mem hc hS hm).1 hx
    rw [q2]
    omega
  · intro k hk
    have hp := clsC_asc (c := c) (ll := ll) (m := m) ((reps c ll m S).getD i 0) (S : Int)
    rw [e] at hk ⊢
    have := (List.pairwise_iff_getElem.1 hp) k (k + 1) (by omega) hk (by omega)
    rw [get_getD _ k (by omega), get_getD _ (k + 1) hk] at this
    exact this
  · intro x hx hf
    obtain ⟨j, hj, hxj⟩ := (mem_flatTo i (by omega)).1 hf
    obtain ⟨ej, hmj⟩ := parL_get (c := c) (ll := ll) (m := m) (S := S) (i := j) (by omega)
    rw [e] at hx
    rw [ej] at hxj
    obtain ⟨q, q1, rfl, q3⟩ := (rep_mem hc hS hm).1 hx
    obtain ⟨q', q1', q2', q3'⟩ := (rep_mem hc hS hmj).1 hxj
    obtain rfl : q = q' := by omega
    have hab := agB_trans hc hS q3' (agB_symm hc hS q3)
    unfold repB at h2
    rw [Bool.not_eq_true', List.any_eq_false] at h2
    exact h2 _ (List.mem_range.2 (hlt j hj)) hab
/-- The class of a row: those that agree with it. -/
theorem clsI_rep (hc : c ≤ 5) (hS : S < 2 ^ c) (h40 : ll.length ≤ 40) {i x : Nat} (hi : i < (parL c ll m S).length) (hx : x < ll.length) : clsI (parL c ll m S) (x : Int) = (i : Int) ↔ agB c ll m (S : Int) ((reps c ll m S).getD i 0) x = true := by
  obtain ⟨e, hm⟩ := parL_get hi
  rw [← clsI_part (parL_part hc hS h40) hi, e, rep_mem hc hS hm]
  constructor
  · rintro ⟨k, h1, h2, h3⟩
    obtain rfl : x = k := by omega
    exact h3
  · intro h
    exact ⟨x, hx, rfl, h⟩
/-- A row is in a class if another one agrees with it. -/
theorem clsI_in (hc : c ≤ 5) (hS : S < 2 ^ c) (h40 : ll.length ≤ 40) {x : Nat} (hx : x < ll.length) : 0 ≤ clsI (parL c ll m S) (x : Int) ↔ ∃ y : Nat, y < ll.length ∧ y ≠ x ∧ agB c ll m (S : Int) x y = true := by
  constructor
  · intro h
    have hge := clsI_ge (parL c ll m S) (x : Int)
    obtain ⟨i, hi⟩ : ∃ i : Nat, clsI (parL c ll m S) (x : Int) = (i : Int) := ⟨_, (Int.toNat_of_nonneg h).symm⟩
    have hil : i < (parL c ll m S).length := by omega
    have ha := (clsI_rep hc hS h40 hil hx).1 hi
    obtain ⟨-, hm⟩ := parL_get hil
    obtain ⟨h1, h2, h3⟩ := reps_mem.1 hm
    by_cases hxa : (reps c ll m S).getD i 0 = x
    · obtain ⟨k, k1, k2, k3⟩ := (clsC_two h1).1 h3
      rw [hxa] at k1 k3
      exact ⟨k, k2, by omega, k3⟩
    · exact ⟨_, h1, hxa, agB_symm hc hS ha⟩
  · rintro ⟨y, hy, hne, hxy⟩
    have key : ∀ a : Nat, a < ll.length → repB c ll m (S : Int) a = true → agB c ll m (S : Int) a x = true → (∃ k, a < k ∧ k < ll.length ∧ agB c ll m (S : Int) a k = true) → 0 ≤ clsI (parL c ll m S) (x : Int) := by
      intro a h1 h2 h3 h4
      have hm : a ∈ reps c ll m S := reps_mem.2 ⟨h1, h2, (clsC_two h1).2 h4⟩
      obtain ⟨i, hi, he⟩ := List.mem_iff_getElem.1 hm
      have hg : (reps c ll m S).getD i 0 = a := by rw [List.getD_eq_getElem?_getD, List.getElem?_eq_getElem hi]; exact he
      have := (clsI_rep hc hS h40 (i := i) (by rw [parL_len]; exact hi) hx).2 (by rw [hg]; exact h3)
      omega
    cases hr : repB c ll m (S : Int) x with
    | true =>
      refine key x hx hr (agB_trans hc hS hxy (agB_symm hc hS hxy)) ⟨y, ?_, hy, hxy⟩
      by_cases hlt : y < x
      · unfold repB at hr
        rw [Bool.not_eq_true', List.any_eq_false] at hr
        exact (hr y (List.mem_range.2 hlt) (agB_symm hc hS hxy)).elim
      · omega
    | false =>
      unfold repB at hr
      rw [Bool.not_eq_false', List.any_eq_true] at hr
      obtain ⟨b, hb, hbx⟩ := hr
      obtain ⟨a, h1, h2, h3⟩ := rep_least hc hS x (b + 1) b (by omega) (List.mem_range.1 hb) hbx
      exact key a (by omega) h2 h3 ⟨x, h1, hx, h3⟩
/-- Two different rows are in one class if they agree. -/
theorem clsI_same (hc : c ≤ 5) (hS : S < 2 ^ c) (h40 : ll.length ≤ 40) {x y : Nat} (hx : x < ll.length) (hy : y < ll.length) (hne : x ≠ y) : (clsI (parL c ll m S) (x : Int) = clsI (parL c ll m S) (y : Int) ∧ 0 ≤ clsI (parL c ll m S) (x : Int)) ↔ agB c ll m (S : Int) x y = true := by
  constructor
  · rintro ⟨h, h0⟩
    have hge := clsI_ge (parL c ll m S) (x : Int)
    obtain ⟨i, hi⟩ : ∃ i : Nat, clsI (parL c ll m S) (x : Int) = (i : Int) := ⟨_, (Int.toNat_of_nonneg h0).symm⟩
    have hil : i < (parL c ll m S).length := by omega
    have h1 := (clsI_rep hc hS h40 hil hx).1 hi
    have h2 := (clsI_rep hc hS h40 hil hy).1 (by omega)
    exact agB_trans hc hS (agB_symm hc hS h1) h2
  · intro h
    have h0 := (clsI_in hc hS h40 hx).2 ⟨y, hy, fun e => hne e.symm, h⟩
    have hge := clsI_ge (parL c ll m S) (x : Int)
    obtain ⟨i, hi⟩ : ∃ i : Nat, clsI (parL c ll m S) (x : Int) = (i : Int) := ⟨_, (Int.toNat_of_nonneg h0).symm⟩
    have hil : i < (parL c ll m S).length := by omega
    have h1 := (clsI_rep hc hS h40 hil hx).1 hi
    have h2 := (clsI_rep hc hS h40 hil hy).2 (agB_trans hc hS h1 h)
    omega
end
end Go.Proofs.Ytficnbeciohpfaa
namespace Go.Proofs.Ytficnbeciohpfaa
open Go.RowKit

/-- The first pair that violates the dependency. -/
noncomputable def pairD (c : Int) (ll : List (List Int)) (m l r : Int) : Int × Int := pairI (badB c.toNat ll m l.toNat r.toNat) ll.length
def okD (c : Int) (ll : List (List Int)) (m l r : Int) : Bool := fineT c ll m && depB c l r
noncomputable def holdsD (c : Int) (ll : List (List Int)) (m l r : Int) : Bool := okD c ll m l r && decide ((pairD c ll m l r).1 < 0)
noncomputable def witI (c : Int) (ll : List (List Int)) (m l r : Int) : Int := if okD c ll m l r = true then (pairD c ll m l r).1 else -1
noncomputable def witK (c : Int) (ll : List (List Int)) (m l r : Int) : Int := if okD c ll m l r = true then (pairD c ll m l r).2 else -1
noncomputable def witB (c : Int) (ll : List (List Int)) (m l r : Int) : Bool := okD c ll m l r && decide (0 ≤ (pairD c ll m l r).1)
theorem depB_nat {c l r : Int} (h : depB c l r = true) : ∃ L R : Nat, l = (L : Int) ∧ r = (R : Int) ∧ R < 5 := by
  obtain ⟨⟨h1, h5⟩, ha, h0, hr⟩ := depB_iff.1 h
  refine ⟨l.toNat, r.toNat, ?_, by omega, by omega⟩
  unfold isA at ha
  simp at ha
  omega
theorem fineT_isT {c : Int} {ll : List (List Int)} {m : Int} (h : fineT c ll m = true) : isT c ll = true := by unfold fineT at h; simp at h; exact h.1

section
set_option maxRecDepth 20000
set_option maxHeartbeats 1600000
theorem holdsDep_any (c m l r : Int) (v : Value) (ll : List (List Int)) (w : World) (hr : ReadSS w v ll) (hl : ll.length ≤ 1048576) (ht : ∀ i, i < ll.length → (ll.getD i []).length ≤ 1048576) :
    Calls Try.prog 14 #[.agg #[.int .i64 c, v], .int .i64 m, .agg #[.int .i64 l, .int .i64 r]] w fun e w' => e = .returned (.bool (holdsD c ll m l r)) ∧ Below w.heap.size w w' := by
  have HF := Lib.hid (fun w' (hb : Below w.heap.size w w') => l4Fine_any c m v ll w' (hr.kept hb) hl ht)
  have HD := Lib.hid (isDep_any c l r)
  have HP := Lib.hid (fun (L R : Nat) w' (hb : Below w.heap.size w w') hT (hR : R < 5) => pair6_any c m L R v ll w' (hr.kept hb) hT hR)
  obtain ⟨a, cap, rfl, -⟩ := hr
  have hb1 := (Below.refl w.heap.size w).alloc (Nat.le_refl _) (.cells #[.int .i64 c, .slice a ll.length cap] 33)
  have hb2 := hb1.alloc hb1.size (.cells #[.int .i64 l, .int .i64 r] 25)
  have HB2 := Lib.hid hb2
  have HRF := Lib.hid (Below.refl ((w.alloc (.cells #[.int .i64 c, .slice a ll.length cap] 33)).alloc (.cells #[.int .i64 l, .int .i64 r] 25)).heap.size ((w.alloc (.cells #[.int .i64 c, .slice a ll.length cap] 33)).alloc (.cells #[.int .i64 l, .int .i64 r] 25)))
  obtain ⟨⟨c0, c1⟩, d0, d1⟩ := boxTD HRF.out
  clear hb1 hb2 ht
  cases hf : fineT c ll m with
  | false =>
    have HE : Hid (holdsD c ll m l r = false) := Lib.hid (by unfold holdsD okD; rw [hf]; rfl)
    rw [hf] at HF
    clear hf
    go_enter Try.func14, Try.ntmps14
    go_wp2_with fail
    refine (HF.out _ HB2.out).mono ?_
    rintro e w1 ⟨rfl, b1⟩
    have hb1 := HRF.out.trans (b1.mono HRF.out.size)
    clear b1 c0 c1 d0 d1
    obtain ⟨⟨c0, c1⟩, d0, d1⟩ := boxTD hb1
    have hb2 := HB2.out.trans (hb1.mono HB2.out.size)
    go_wp2_with fail
    go_ret
    exact ⟨by rw [HE.out]; rfl, hb2⟩
  | true =>
    rw [hf] at HF
    cases hd : depB c l r with
    | false =>
      have HE : Hid (holdsD c ll m l r = false) := Lib.hid (by unfold holdsD okD; rw [hd]; simp)
      rw [hd] at HD
      clear hf hd
      go_enter Try.func14, Try.ntmps14
      go_wp2_with fail
      refine (HF.out _ HB2.out).mono ?_
      rintro e w1 ⟨rfl, b1⟩
      have hb1 := HRF.out.trans (b1.mono HRF.out.size)
      clear b1 c0 c1 d0 d1
      obtain ⟨⟨c0, c1⟩, d0, d1⟩ := boxTD hb1
      have hb2 := HB2.out.trans (hb1.mono HB2.out.size)
      go_wp2_with fail
      refine (HD.out _).mono ?_
      rintro e w2 ⟨rfl, b2⟩
      have hb3 := hb1.trans (b2.mono hb1.size)
      clear b2 c0 c1 d0 d1 hb2
      obtain ⟨⟨c0, c1⟩, d0, d1⟩ := boxTD hb3
      have hb4 := HB2.out.trans (hb3.mono HB2.out.size)
      go_wp2_with fail
      go_ret
      exact ⟨by rw [HE.out]; rfl, hb4⟩
    | true =>
      rw [hd] at HD
      have hT := fineT_isT hf
      have hok : okD c ll m l r = true := by unfold okD; rw [hf, hd]; rfl
      obtain ⟨x, hx⟩ : ∃ x, x = (pairD c ll m l r).1 := ⟨_, rfl⟩
      have HE : Hid (holdsD c ll m l r = decide (x < 0)) := Lib.hid (by unfold holdsD; rw [hok, hx]; rfl)
      obtain ⟨L, R, rfl, rfl, hR⟩ := depB_nat hd
      have HQ := Lib.hid (fun w' hb => HP.out L R w' hb hT hR)
      unfold pairD at hx
      rw [show ((L : Int)).toNat = L from rfl, show ((R : Int)).toNat = R from rfl] at hx
      rw [← hx] at HQ
      clear hf hd hT hok hx HP
      go_enter Try.func14, Try.ntmps14
      go_wp2_with fail
      refine (HF.out _ HB2.out).mono ?_
      rintro e w1 ⟨rfl, b1⟩
      have hb1 := HRF.out.trans (b1.mono HRF.out.size)
      clear b1 c0 c1 d0 d1
      obtain ⟨⟨c0, c1⟩, d0, d1⟩ := boxTD hb1
      have hb2 := HB2.out.trans (hb1.mono HB2.out.size)
      go_wp2_with fail
      refine (HD.out _).mono ?_
      rintro e w2 ⟨rfl, b2⟩
      have hb3 := hb1.trans (b2.mono hb1.size)
      clear b2 c0 c1 d0 d1 hb2
      obtain ⟨⟨c0, c1⟩, d0, d1⟩ := boxTD hb3
      have hb4 := HB2.out.trans (hb3.mono HB2.out.size)
      go_wp2_with fail
      refine (HQ.out _ hb4).mono ?_
      rintro e w3 ⟨rfl, b3⟩
      have hb5 := hb4.trans (b3.mono hb4.size)
      clear b3 c0 c1 d0 d1
      go_wp2_with fail
      go_ret
      exact ⟨by rw [HE.out]; rfl, hb5⟩
theorem witnessOf_any (c m l r : Int) (v : Value) (ll : List (List Int)) (w : World) (hr : ReadSS w v ll) (hl : ll.length ≤ 1048576) (ht : ∀ i, i < ll.length → (ll.getD i []).length ≤ 1048576) :
    Calls Try.prog 18 #[.agg #[.int .i64 c, v], .int .i64 m, .agg #[.int .i64 l, .int .i64 r]] w fun e w' => e = .returned (.tuple #[.int .i64 (witI c ll m l r), .int .i64 (witK c ll m l r), .bool (witB c ll m l r)]) ∧ Below w.heap.size w w' := by
  have HF := Lib.hid (fun w' (hb : Below w.heap.size w w') => l4Fine_any c m v ll w' (hr.kept hb) hl ht)
  have HD := Lib.hid (isDep_any c l r)
  have HP := Lib.hid (fun (L R : Nat) w' (hb : Below w.heap.size w w') hT (hR : R < 5) => pair6_any c m L R v ll w' (hr.kept hb) hT hR)
  obtain ⟨a, cap, rfl, -⟩ := hr
  have hb1 := (Below.refl w.heap.size w).alloc (Nat.le_refl _) (.cells #[.int .i64 c, .slice a ll.length cap] 33)
  have hb2 := hb1.alloc hb1.size (.cells #[.int .i64 l, .int .i64 r] 25)
  have HB2 := Lib.hid hb2
  have HRF := Lib.hid (Below.refl ((w.alloc (.cells #[.int .i64 c, .slice a ll.length cap] 33)).alloc (.cells #[.int .i64 l, .int .i64 r] 25)).heap.size ((w.alloc (.cells #[.int .i64 c, .slice a ll.length cap] 33)).alloc (.cells #[.int .i64 l, .int .i64 r] 25)))
  obtain ⟨⟨c0, c1⟩, d0, d1⟩ := boxTD HRF.out
  clear hb1 hb2 ht
  cases hf : fineT c ll m with
  | false =>
    have HE : Hid (witI c ll m l r = -1 ∧ witK c ll m l r = -1 ∧ witB c ll m l r = false) := Lib.hid (by unfold witI witK witB okD; rw [hf]; exact ⟨rfl, rfl, rfl⟩)
    rw [hf] at HF
    clear hf
    go_enter Try.func18, Try.ntmps18
    go_wp2_with fail
    refine (HF.out _ HB2.out).mono ?_
    rintro e w1 ⟨rfl, b1⟩
    have hb1 := HRF.out.trans (b1.mono HRF.out.size)
    clear b1 c0 c1 d0 d1
    obtain ⟨⟨c0, c1⟩, d0, d1⟩ := boxTD hb1
    have hb2 := HB2.out.trans (hb1.mono HB2.out.size)
    go_wp2_with fail
    go_ret3
    exact ⟨by rw [HE.out.1, HE.out.2.1, HE.out.2.2]; rfl, hb2⟩
  | true =>
    rw [hf] at HF
    cases hd : depB c l r with
    | false =>
      have HE : Hid (witI c ll m l r = -1 ∧ witK c ll m l r = -1 ∧ witB c ll m l r = false) := Lib.hid (by unfold witI witK witB okD; rw [hd]; simp)
      rw [hd] at HD
      clear hf hd
      go_enter Try.func18, Try.ntmps18
      go_wp2_with fail
      refine (HF.out _ HB2.out).mono ?_
      rintro e w1 ⟨rfl, b1⟩
      have hb1 := HRF.out.trans (b1.mono HRF.out.size)
      clear b1 c0 c1 d0 d1
      obtain ⟨⟨c0, c1⟩, d0, d1⟩ := boxTD hb1
      have hb2 := HB2.out.trans (hb1.mono HB2.out.size)
      go_wp2_with fail
      refine (HD.out _).mono ?_
      rintro e w2 ⟨rfl, b2⟩
      have hb3 := hb1.trans (b2.mono hb1.size)
      clear b2 c0 c1 d0 d1 hb2
      obtain ⟨⟨c0, c1⟩, d0, d1⟩ := boxTD hb3
      have hb4 := HB2.out.trans (hb3.mono HB2.out.size)
      go_wp2_with fail
      go_ret3
      exact ⟨by rw [HE.out.1, HE.out.2.1, HE.out.2.2]; rfl, hb4⟩
    | true =>
      rw [hd] at HD
      have hT := fineT_isT hf
      have hok : okD c ll m l r = true := by unfold okD; rw [hf, hd]; rfl
      obtain ⟨x, hx⟩ : ∃ x, x = (pairD c ll m l r).1 := ⟨_, rfl⟩
      obtain ⟨y, hy⟩ : ∃ y, y = (pairD c ll m l r).2 := ⟨_, rfl⟩
      have HE : Hid (witI c ll m l r = x ∧ witK c ll m l r = y ∧ witB c ll m l r = decide (0 ≤ x)) := Lib.hid (by unfold witI witK witB; rw [hok, hx, hy]; exact ⟨rfl, rfl, rfl⟩)
      obtain ⟨L, R, rfl, rfl, hR⟩ := depB_nat hd
      have HQ := Lib.hid (fun w' hb => HP.out L R w' hb hT hR)
      unfold pairD at hx hy
      rw [show ((L : Int)).toNat = L from rfl, show ((R : Int)).toNat = R from rfl] at hx hy
      rw [← hx, ← hy] at HQ
      clear hf hd hT hok hx hy HP
      go_enter Try.func18, Try.ntmps18
      go_wp2_with fail
      refine (HF.out _ HB2.out).mono ?_
      rintro e w1 ⟨rfl, b1⟩
      have hb1 := HRF.out.trans (b1.mono HRF.out.size)
      clear b1 c0 c1 d0 d1
      obtain ⟨⟨c0, c1⟩, d0, d1⟩ := boxTD hb1
      have hb2 := HB2.out.trans (hb1.mono HB2.out.size)
      go_wp2_with fail
      refine (HD.out _).mono ?_
      rintro e w2 ⟨rfl, b2⟩
      have hb3 := hb1.trans (b2.mono hb1.size)
      clear b2 c0 c1 d0 d1 hb2
      obtain ⟨⟨c0, c1⟩, d0, d1⟩ := boxTD hb3
      have hb4 := HB2.out.trans (hb3.mono HB2.out.size)
      go_wp2_with fail
      refine (HQ.out _ hb4).mono ?_
      rintro e w3 ⟨rfl, b3⟩
      have hb5 := hb4.trans (b3.mono hb4.size)
      clear b3 c0 c1 d0 d1
      go_wp2_with fail
      go_ret3
      exact ⟨by rw [HE.out.1, HE.out.2.1, HE.out.2.2]; rfl, hb5⟩
end
end Go.Proofs.Ytficnbeciohpfaa
