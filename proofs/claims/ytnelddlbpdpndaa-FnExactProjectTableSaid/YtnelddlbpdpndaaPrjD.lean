/- The program's different records in order, by contract. Conditions: as stated. -/
import Derived.Test.YtnelddlbpdpndaaPrjS
import Derived.Lib.SliceRun
import Derived.BigFrame
namespace Go.Proofs.Ytnelddlbpdpndaa
open Go.RowKit

/-- One record more: left out if the last one kept holds the same values. -/
def ddStep (D : List (Nat × List Int)) (p : Nat × List Int) : List (Nat × List Int) :=
  if D ≠ [] ∧ pad5 (D.getD (D.length - 1) (0, [])).2 = pad5 p.2 then D else D ++ [p]
def ddL (l : List (Nat × List Int)) : List (Nat × List Int) := l.foldl ddStep []
theorem ddL_snoc (l : List (Nat × List Int)) (p : Nat × List Int) : ddL (l ++ [p]) = ddStep (ddL l) p := by unfold ddL; rw [List.foldl_append]; rfl
theorem ddL_succ (l : List (Nat × List Int)) (i : Nat) (h : i < l.length) : ddL (l.take (i + 1)) = ddStep (ddL (l.take i)) (l.getD i (0, [])) := by
  rw [take_succ_getD l (0, []) i h, ddL_snoc]
theorem ddStep_len (D : List (Nat × List Int)) (p : Nat × List Int) : D.length ≤ (ddStep D p).length ∧ (ddStep D p).length ≤ D.length + 1 := by
  unfold ddStep; split
  · omega
  · rw [List.length_append, List.length_singleton]; omega
theorem ddL_len (l : List (Nat × List Int)) : ∀ i, i ≤ l.length → (ddL (l.take i)).length ≤ i := by
  intro i
  induction i with
  | zero => intro _; simp [ddL]
  | succ i ih =>
    intro h
    rw [ddL_succ l i (by omega)]
    have := (ddStep_len (ddL (l.take i)) (l.getD i (0, []))).2
    have := ih (by omega)
    omega
theorem ddL_sub (l : List (Nat × List Int)) : ∀ i, i ≤ l.length → ∀ p ∈ ddL (l.take i), p ∈ l := by
  intro i
  induction i with
  | zero => intro _ p hp; simp [ddL] at hp
  | succ i ih =>
    intro h p hp
    rw [ddL_succ l i (by omega)] at hp
    unfold ddStep at hp
    split at hp
    · exact ih (by omega) p hp
    · rw [List.mem_append] at hp
      rcases hp with hp | hp
      · exact ih (by omega) p hp
      · rw [List.mem_singleton] at hp; rw [hp]; exact getD_mem _ _ _ (by omega)
/-- The values of the records are those that came in. -/
theorem ddL_vals (l : List (Nat × List Int)) : ∀ i, i ≤ l.length → ∀ x, x ∈ (ddL (l.take i)).map (fun p => pad5 p.2) ↔ x ∈ (l.take i).map (fun p => pad5 p.2) := by
  intro i
  induction i with
  | zero => intro _ x; simp [ddL]
  | succ i ih =>
    intro h x
    rw [ddL_succ l i (by omega), take_succ_getD l (0, []) i (by omega), List.map_append, List.mem_append, ← ih (by omega) x]
    unfold ddStep
    split
    · next hh =>
      constructor
      · exact .inl
      · rintro (hx | hx)
        · exact hx
        · simp only [List.map_cons, List.map_nil, List.mem_singleton] at hx
          rw [hx, ← hh.2]
          exact List.mem_map.2 ⟨_, getD_mem _ _ _ (by have := List.length_pos_iff.2 hh.1; omega), rfl⟩
    · rw [List.map_append, List.mem_append]
/-- Of records in order those that are left ascend. -/
theorem ddL_asc (l : List (Nat × List Int)) (ho : Ordd l) : ∀ i, i ≤ l.length → ((ddL (l.take i)).Pairwise fun p q => lessR (pad5 p.2) (pad5 q.2) = true) := by
  intro i
  induction i with
  | zero => intro _; simp [ddL]
  | succ i ih =>
    intro h
    rw [ddL_succ l i (by omega)]
    have hi := ih (by omega)
    have hmem := ddL_vals l i (by omega)
    have hle : ∀ p ∈ ddL (l.take i), lessR (pad5 (l.getD i (0, [])).2) (pad5 p.2) = false := fun p hp => by
      have h1 := (hmem (pad5 p.2)).1 (List.mem_map.2 ⟨p, hp, rfl⟩)
      obtain ⟨q, hq, hqp⟩ := List.mem_map.1 h1
      rw [← hqp]
      obtain ⟨j, hj, rfl⟩ := List.mem_iff_getElem.1 hq
      rw [List.length_take] at hj
      rw [List.getElem_take]
      have := List.pairwise_iff_getElem.1 ho j i (by omega) (by omega) (by omega)
      rw [getD_get _ _ _ (by omega)]; exact this
    unfold ddStep
    split
    · exact hi
    · next hh =>
      rw [List.pairwise_append]
      refine ⟨hi, List.pairwise_singleton _ _, fun p hp q hq => ?_⟩
      rw [List.mem_singleton] at hq
      subst hq
      have h1 := hle p hp
      cases h2 : lessR (pad5 p.2) (pad5 (l.getD i (0, [])).2) with
      | true => rfl
      | false =>
        exfalso
        have he := lessR_total _ _ h2 h1
        apply hh
        have hne : ddL (l.take i) ≠ [] := List.ne_nil_of_mem hp
        refine ⟨hne, ?_⟩
        have hlen := List.length_pos_iff.2 hne
        obtain ⟨j, hj, rfl⟩ := List.mem_iff_getElem.1 hp
        by_cases hjl : j = (ddL (l.take i)).length - 1
        · subst hjl; rw [getD_get _ _ _ hj]; exact he
        · have h3 := List.pairwise_iff_getElem.1 hi j ((ddL (l.take i)).length - 1) hj (by omega) (by omega)
          have h4 := hle _ (List.getElem_mem (by omega : (ddL (l.take i)).length - 1 < (ddL (l.take i)).length))
          rw [he] at h3
          rw [h3] at h4; cases h4
end Go.Proofs.Ytnelddlbpdpndaa
