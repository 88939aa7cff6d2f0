/- What a partition is: its classes by their first rows. Conditions: as stated. -/
import Derived.Test.YtficnbeciohpfaaParG
namespace Go.Proofs.Ytficnbeciohpfaa
open Go.RowKit

theorem and_fin : ∀ (X s : Fin 32), (bits .and .i64 (X.val : Int) (s.val : Int) == (s.val : Int)) = (List.range 5).all (fun j => !(bitB s.val j) || bitB X.val j) := by decide +kernel
theorem add_fin : ∀ (n : Fin 5) (X : Fin 32) (j : Fin 5), X.val < 2 ^ n.val → bitB (X.val + 2 ^ n.val) j.val = (decide (j.val = n.val) || bitB X.val j.val) := by decide +kernel
theorem low_fin : ∀ (n : Fin 6) (X : Fin 32) (j : Fin 5), X.val < 2 ^ n.val → n.val ≤ j.val → bitB X.val j.val = false := by decide +kernel
theorem agrTo_bit (m : Int) (r s : List Int) : ∀ n, n ≤ 5 → ∃ X : Nat, agrTo m r s n = (X : Int) ∧ X < 2 ^ n ∧ X < 32 ∧ ∀ j, j < 5 → bitB X j = (decide (j < n) && eqC m (r.getD j 0) (s.getD j 0))
  | 0, _ => ⟨0, rfl, by decide, by decide, fun j hj => by
    have := low_fin ⟨0, by decide⟩ ⟨0, by decide⟩ ⟨j, hj⟩ (by decide) (Nat.zero_le _)
    simp only at this
    rw [this]; simp⟩
  | n + 1, hn => by
    obtain ⟨X, h1, h2, h3, h4⟩ := agrTo_bit m r s n (by omega)
    have h5 : X + 2 ^ n < 2 ^ (n + 1) := by rw [Nat.pow_succ]; omega
    have h6 : 2 ^ (n + 1) ≤ 32 := by
      rcases (show n = 0 ∨ n = 1 ∨ n = 2 ∨ n = 3 ∨ n = 4 by omega) with rfl | rfl | rfl | rfl | rfl <;> decide
    cases he : eqC m (r.getD n 0) (s.getD n 0) with
    | true =>
      refine ⟨X + 2 ^ n, by unfold agrTo; rw [h1, he]; simp, h5, by omega, fun j hj => ?_⟩
      have := add_fin ⟨n, by omega⟩ ⟨X, h3⟩ ⟨j, hj⟩ h2
      simp only at this
      rw [this, h4 j hj]
      by_cases hjn : j = n
      · subst hjn; rw [he, decide_eq_true (show j < j + 1 by omega)]; simp
      · rw [decide_eq_false hjn, Bool.false_or]
        congr 1
        rw [decide_eq_decide]; omega
    | false =>
      refine ⟨X, by unfold agrTo; rw [h1, he]; simp, by omega, h3, fun j hj => ?_⟩
      rw [h4 j hj]
      by_cases hjn : j = n
      · subst hjn; rw [he]; simp
      · congr 1
        rw [decide_eq_decide]; omega
/-- Two rows agree in a set if they are equal in each of its columns. -/
theorem agB_iff (c : Nat) (ll : List (List Int)) (m : Int) (S : Nat) (i k : Nat) (hc : c ≤ 5) (hS : S < 2 ^ c) :
    agB c ll m (S : Int) i k = true ↔ ∀ j, j < c → bitB S j = true → eqC m ((ll.getD i []).getD j 0) ((ll.getD k []).getD j 0) = true := by
  obtain ⟨X, h1, -, h3, h4⟩ := agrTo_bit m (ll.getD i []) (ll.getD k []) c hc
  have h32 : 2 ^ c ≤ 32 := by
    rcases (show c = 0 ∨ c = 1 ∨ c = 2 ∨ c = 3 ∨ c = 4 ∨ c = 5 by omega) with rfl | rfl | rfl | rfl | rfl | rfl <;> decide
  have hS32 : S < 32 := by omega
  unfold agB
  rw [h1]
  have h := and_fin ⟨X, h3⟩ ⟨S, hS32⟩
  simp only at h
  rw [h, List.all_eq_true]
  constructor
  · intro hall j hj hb
    have := hall j (List.mem_range.mpr (by omega))
    rw [hb, h4 j (by omega), decide_eq_true hj] at this
    simpa using this
  · intro hall j hj
    have hj5 := List.mem_range.mp hj
    by_cases hjc : j < c
    · rw [h4 j hj5, decide_eq_true hjc, Bool.true_and]
      cases hb : bitB S j with
      | false => rfl
      | true => rw [hall j hjc hb]; rfl
    · have := low_fin ⟨c, by omega⟩ ⟨S, hS32⟩ ⟨j, hj5⟩ hS (by show c ≤ j; omega)
      simp only at this
      rw [this]; rfl
theorem eqC_trans {m a b d : Int} (h1 : eqC m a b = true) (h2 : eqC m b d = true) : eqC m a d = true := by
  unfold eqC at *
  simp only [decide_eq_true_eq] at *
  obtain ⟨h3, rfl, h4⟩ := h1
  exact ⟨h3, h2.2.1, h4⟩
theorem agB_trans {c : Nat} {ll : List (List Int)} {m : Int} {S : Nat} {i k n : Nat} (hc : c ≤ 5) (hS : S < 2 ^ c) (h1 : agB c ll m (S : Int) i k = true) (h2 : agB c ll m (S : Int) k n = true) : agB c ll m (S : Int) i n = true := by
  rw [agB_iff c ll m S _ _ hc hS] at *
  exact fun j hj hb => eqC_trans (h1 j hj hb) (h2 j hj hb)
theorem agB_symm {c : Nat} {ll : List (List Int)} {m : Int} {S : Nat} {i k : Nat} (hc : c ≤ 5) (hS : S < 2 ^ c) (h1 : agB c ll m (S : Int) i k = true) : agB c ll m (S : Int) k i = true := by
  rw [agB_iff c ll m S _ _ hc hS] at *
  intro j hj hb
  have := h1 j hj hb
  unfold eqC at *
  simp only [decide_eq_true_eq] at *
  obtain ⟨h3, h4, h5⟩ := this
  exact ⟨h3, h4.symm, by rw [← h4]; exact h5⟩
theorem rowsC_mem (c : Nat) (ll : List (List Int)) (m s : Int) (i : Nat) (x : Int) : ∀ n, (x ∈ rowsC c ll m s i n ↔ x = (i : Int) ∨ ∃ k : Nat, i < k ∧ k ≤ i + n ∧ agB c ll m s i k = true ∧ x = (k : Int))
  | 0 => by
    simp [rowsC]
    intro k h1 h2; omega
  | n + 1 => by
    have ih := rowsC_mem c ll m s i x n
    unfold rowsC
    split
    · rename_i h
      rw [List.mem_append, ih, List.mem_singleton]
      constructor
      · rintro ((h' | ⟨k, h1, h2, h3, h4⟩) | h')
        · exact Or.inl h'
        · exact Or.inr ⟨k, h1, by omega, h3, h4⟩
        · exact Or.inr ⟨i + 1 + n, by omega, by omega, h, h'⟩
      · rintro (h' | ⟨k, h1, h2, h3, h4⟩)
        · exact Or.inl (Or.inl h')
        · by_cases e : k = i + 1 + n
          · subst e; exact Or.inr h4
          · exact Or.inl (Or.inr ⟨k, h1, by omega, h3, h4⟩)
    · rename_i h
      rw [ih]
      constructor
      · rintro (h' | ⟨k, h1, h2, h3, h4⟩)
        · exact Or.inl h'
        · exact Or.inr ⟨k, h1, by omega, h3, h4⟩
      · rintro (h' | ⟨k, h1, h2, h3, h4⟩)
        · exact Or.inl h'
        · by_cases e : k = i + 1 + n
          · subst e; exact (h h3).elim
          · exact Or.inr ⟨k, h1, by omega, h3, h4⟩
theorem clsC_mem (c : Nat) (ll : List (List Int)) (m s : Int) (i : Nat) (hi : i < ll.length) (x : Int) : x ∈ clsC c ll m s i ↔ x = (i : Int) ∨ ∃ k : Nat, i < k ∧ k < ll.length ∧ agB c ll m s i k = true ∧ x = (k : Int) := by
  unfold clsC
  rw [rowsC_mem]
  constructor
  · rintro (h | ⟨k, h1, h2, h3, h4⟩)
    · exact Or.inl h
    · exact Or.inr ⟨k, h1, by omega, h3, h4⟩
  · rintro (h | ⟨k, h1, h2, h3, h4⟩)
    · exact Or.inl h
    · exact Or.inr ⟨k, h1, by omega, h3, h4⟩
/-- No row before it agrees with it. -/
def repB (c : Nat) (ll : List (List Int)) (m s : Int) (a : Nat) : Bool := !(List.range a).any fun b => agB c ll m s b a
/-- The classes are those of the rows that have no equal one before them, in their order, but for those that are alone. -/
def prtL (c : Nat) (ll : List (List Int)) (m s : Int) (i : Nat) : List (List Int) := ((List.range i).filter fun a => repB c ll m s a && decide (1 < (clsC c ll m s a).length)).map (clsC c ll m s)
theorem rep_least {c : Nat} {ll : List (List Int)} {m : Int} {S : Nat} (hc : c ≤ 5) (hS : S < 2 ^ c) (i : Nat) : ∀ n b, b < n → b < i → agB c ll m (S : Int) b i = true → ∃ a, a < i ∧ repB c ll m (S : Int) a = true ∧ agB c ll m (S : Int) a i = true
  | 0, b, h, _, _ => absurd h (Nat.not_lt_zero _)
  | n + 1, b, hb, hbi, he => by
    cases hr : repB c ll m (S : Int) b with
    | true => exact ⟨b, hbi, hr, he⟩
    | false =>
      unfold repB at hr
      simp only [Bool.not_eq_false', List.any_eq_true] at hr
      obtain ⟨b', h1, h2⟩ := hr
      have h1' := List.mem_range.mp h1
      exact rep_least hc hS i n b' (by omega) (by omega) (agB_trans hc hS h2 he)
theorem clSt_eq {c : Nat} {ll : List (List Int)} {m : Int} {S : Nat} (hc : c ≤ 5) (hS : S < 2 ^ c) : ∀ i, i ≤ ll.length → (clSt c ll m (S : Int) i).1 = prtL c ll m (S : Int) i ∧ ∀ x, (x ∈ (clSt c ll m (S : Int) i).2 ↔ ∃ a, a < i ∧ repB c ll m (S : Int) a = true ∧ 1 < (clsC c ll m (S : Int) a).length ∧ x ∈ clsC c ll m (S : Int) a)
  | 0, _ => by simp [clSt, prtL]
  | i + 1, hi => by
    obtain ⟨ih1, ih2⟩ := clSt_eq (ll := ll) (m := m) hc hS i (by omega)
    have hL : prtL c ll m (S : Int) (i + 1) = prtL c ll m (S : Int) i ++ (if repB c ll m (S : Int) i = true ∧ 1 < (clsC c ll m (S : Int) i).length then [clsC c ll m (S : Int) i] else []) := by
      unfold prtL
      rw [List.range_succ, List.filter_append, List.map_append]
      congr 1
      by_cases h : repB c ll m (S : Int) i = true ∧ 1 < (clsC c ll m (S : Int) i).length
      · rw [if_pos h, List.filter_cons, if_pos (by rw [h.1, decide_eq_true h.2]; rfl)]; rfl
      · rw [if_neg h, List.filter_cons, if_neg (by rw [Bool.and_eq_true, decide_eq_true_eq]; exact h)]; rfl
    have hmem : (i : Int) ∈ (clSt c ll m (S : Int) i).2 ↔ repB c ll m (S : Int) i = false := by
      rw [ih2]
      constructor
      · rintro ⟨a, h1, h2, h3, h4⟩
        rw [clsC_mem c ll m _ a (by omega)] at h4
        rcases h4 with h4 | ⟨k, h5, h6, h7, h8⟩
        · omega
        · have : k = i := by omega
          subst this
          unfold repB
          simp only [Bool.not_eq_false', List.any_eq_true]
          exact ⟨a, List.mem_range.mpr h1, h7⟩
      · intro h
        unfold repB at h
        simp only [Bool.not_eq_false', List.any_eq_true] at h
        obtain ⟨b, h1, h2⟩ := h
        obtain ⟨a, h3, h4, h5⟩ := rep_least hc hS i (b + 1) b (by omega) (List.mem_range.mp h1) h2
        have h6 : (i : Int) ∈ clsC c ll m (S : Int) a := (clsC_mem c ll m _ a (by omega) _).mpr (Or.inr ⟨i, h3, by omega, h5, rfl⟩)
        have h7 : (a : Int) ∈ clsC c ll m (S : Int) a := (clsC_mem c ll m _ a (by omega) _).mpr (Or.inl rfl)
        refine ⟨a, h3, h4, ?_, h6⟩
        cases hq : clsC c ll m (S : Int) a with
        | nil => rw [hq] at h6; cases h6
        | cons x t =>
          cases t with
          | nil =>
            rw [hq, List.mem_singleton] at h6 h7
            omega
          | cons y t => simp
    rw [hL]
    unfold clSt
    by_cases hm : (i : Int) ∈ (clSt c ll m (S : Int) i).2
    · have hr := hmem.mp hm
      rw [if_pos hm, if_neg (by rw [hr]; simp), List.append_nil]
      refine ⟨ih1, fun x => ?_⟩
      rw [ih2]
      constructor
      · rintro ⟨a, h1, h2⟩; exact ⟨a, by omega, h2⟩
      · rintro ⟨a, h1, h2, h3⟩
        by_cases e : a = i
        · subst e; rw [hr] at h2; cases h2
        · exact ⟨a, by omega, h2, h3⟩
    · have hr : repB c ll m (S : Int) i = true := by
        cases h : repB c ll m (S : Int) i with
        | true => rfl
        | false => exact (hm (hmem.mpr h)).elim
      rw [if_neg hm]
      by_cases h1 : 1 < (clsC c ll m (S : Int) i).length
      · rw [if_pos h1, if_pos ⟨hr, h1⟩]
        refine ⟨by simp only; rw [ih1], fun x => ?_⟩
        simp only [List.mem_append]
        rw [ih2]
        constructor
        · rintro (⟨a, h2, h3⟩ | h2)
          · exact ⟨a, by omega, h3⟩
          · exact ⟨i, by omega, hr, h1, h2⟩
        · rintro ⟨a, h2, h3, h4, h5⟩
          by_cases e : a = i
          · subst e; exact Or.inr h5
          · exact Or.inl ⟨a, by omega, h3, h4, h5⟩
      · rw [if_neg h1, if_neg (fun h => h1 h.2), List.append_nil]
        refine ⟨ih1, fun x => ?_⟩
        rw [ih2]
        constructor
        · rintro ⟨a, h2, h3⟩; exact ⟨a, by omega, h3⟩
        · rintro ⟨a, h2, h3, h4, h5⟩
          by_cases e : a = i
          · subst e; exact (h1 h4).elim
          · exact ⟨a, by omega, h3, h4, h5⟩
/-- A valid set as a natural number. -/
theorem isA_nat {c : Nat} {s : Int} (h : isA (c : Int) s = true) : ∃ S : Nat, s = (S : Int) ∧ c ≤ 5 ∧ S < 2 ^ c := by
  unfold isA at h
  simp only [decide_eq_true_eq] at h
  obtain ⟨⟨h0, h1⟩, h2, h3⟩ := h
  refine ⟨s.toNat, by omega, by omega, ?_⟩
  have hp : (1 : Int) ≤ 2 ^ c := by
    rcases (show c = 0 ∨ c = 1 ∨ c = 2 ∨ c = 3 ∨ c = 4 ∨ c = 5 by omega) with rfl | rfl | rfl | rfl | rfl | rfl <;> decide
  have e : ((2 ^ c : Nat) : Int) = (2 : Int) ^ c := by simp
  rw [show ((c : Int)).toNat = c by omega] at h3
  omega
theorem prtS_eq (c : Int) (ll : List (List Int)) (m s : Int) (hf : fineT c ll m = true) (hs : isA c s = true) : prtS c ll m s = prtL c.toNat ll m s ll.length := by
  have hT : isT c ll = true := by unfold fineT at hf; simp at hf; exact hf.1
  obtain ⟨h1, h5, -⟩ := isT_bd hT
  obtain ⟨C, rfl⟩ : ∃ C : Nat, c = (C : Int) := ⟨c.toNat, by omega⟩
  obtain ⟨S, rfl, hC, hS⟩ := isA_nat hs
  unfold prtS
  rw [if_pos ⟨hf, hs⟩, show ((C : Int)).toNat = C by omega]
  exact (clSt_eq hC hS ll.length (Nat.le_refl _)).1
end Go.Proofs.Ytficnbeciohpfaa
