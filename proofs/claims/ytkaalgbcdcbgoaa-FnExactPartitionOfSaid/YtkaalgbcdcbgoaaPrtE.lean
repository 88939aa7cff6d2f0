/- The groups by a record of a row are the classes of the model: plain facts. Conditions: none. -/
import Derived.Test.YtkaalgbcdcbgoaaPrtC
import Derived.Test.YtkaalgbcdcbgoaaRecO
import Derived.Test.YtkaalgbcdcbgoaaImA
namespace Go.Proofs.Ytkaalgbcdcbgoaa

theorem mem_mems {S : Nat} (hS : S < 32) {x : Int} : x ∈ mems (S : Int) ↔ ∃ j : Nat, j < 5 ∧ bitB S j = true ∧ x = (j : Int) := by
  unfold mems
  rw [if_pos (by omega), show ((S : Int)).toNat = S by omega]
  unfold memN
  rw [List.mem_map]
  constructor
  · rintro ⟨j, hj, rfl⟩
    rw [List.mem_filter, List.mem_range] at hj
    exact ⟨j, hj.1, hj.2, rfl⟩
  · rintro ⟨j, h1, h2, rfl⟩
    exact ⟨j, by rw [List.mem_filter, List.mem_range]; exact ⟨h1, h2⟩, rfl⟩
theorem bit_low : ∀ (c : Fin 6) (S : Fin 32) (j : Fin 5), S.val < 2 ^ c.val → bitB S.val j.val = true → j.val < c.val := by decide +kernel
theorem pad5_inj {r s : List Int} (h : r.length = s.length) (h5 : r.length ≤ 5) (he : pad5 r = pad5 s) : r = s := by
  apply List.ext_getElem h
  intro i h1 h2
  have e1 := pad5_get r i (by rw [pad5_len]; omega)
  have e2 := pad5_get s i (by rw [pad5_len]; omega)
  have e3 : (pad5 r)[i]'(by rw [pad5_len]; omega) = (pad5 s)[i]'(by rw [pad5_len]; omega) := by simp only [he]
  rw [e1, e2, ← get_getD r i h1, ← get_getD s i h2] at e3
  exact e3
/-- The record of the columns S of row i. -/
def recC (ll : List (List Int)) (S i : Nat) : List Int := (mems (S : Int)).map fun k => (ll.getD i []).getD k.toNat 0
/-- The key of a row: its record, if it is equal to itself. -/
def keyT (c : Nat) (ll : List (List Int)) (m : Int) (S i : Nat) : Option (List Int) := if agB c ll m (S : Int) i i = true then some (pad5 (recC ll S i)) else none
theorem rec_eq {ll : List (List Int)} {S i k : Nat} (hS : S < 32) : pad5 (recC ll S i) = pad5 (recC ll S k) ↔ ∀ j, j < 5 → bitB S j = true → (ll.getD i []).getD j 0 = (ll.getD k []).getD j 0 := by
  constructor
  · intro h j hj hb
    have h1 := pad5_inj (by simp [recC]) (by unfold recC; rw [List.length_map]; exact mems_len _) h
    unfold recC at h1
    have := List.map_inj_left.1 h1 (j : Int) ((mem_mems hS).2 ⟨j, hj, hb, rfl⟩)
    rw [show ((j : Int)).toNat = j by omega] at this
    exact this
  · intro h
    congr 1
    unfold recC
    apply List.map_congr_left
    intro x hx
    obtain ⟨j, h1, h2, rfl⟩ := (mem_mems hS).1 hx
    rw [show ((j : Int)).toNat = j by omega]
    exact h j h1 h2
theorem pow_lt32 {c S : Nat} (hc : c ≤ 5) (hS : S < 2 ^ c) : S < 32 := by
  have : 2 ^ c ≤ 32 := by
    rcases (show c = 0 ∨ c = 1 ∨ c = 2 ∨ c = 3 ∨ c = 4 ∨ c = 5 by omega) with rfl | rfl | rfl | rfl | rfl | rfl <;> decide
  omega
theorem eqC_of {m a b : Int} (h : eqC m a a = true) (he : a = b) : eqC m a b = true := by subst he; exact h
theorem eqC_val {m a b : Int} (h : eqC m a b = true) : a = b := by
  unfold eqC at h; simp only [decide_eq_true_eq] at h; exact h.2.1
/-- Two rows have one key if they agree. -/
theorem key_agree {c : Nat} {ll : List (List Int)} {m : Int} {S a b : Nat} {r : List Int} (hc : c ≤ 5) (hS : S < 2 ^ c) (hk : keyT c ll m S a = some r) : keyT c ll m S b = some r ↔ agB c ll m (S : Int) a b = true := by
  have h32 := pow_lt32 hc hS
  unfold keyT at *
  split at hk
  · next ha =>
    have hk' := (Option.some.inj hk).symm
    subst hk'
    have ha' := (agB_iff c ll m S a a hc hS).1 ha
    constructor
    · intro hb
      split at hb
      · have he := (rec_eq h32).1 (Option.some.inj hb)
        rw [agB_iff c ll m S _ _ hc hS]
        intro j hj hbit
        exact eqC_of (ha' j hj hbit) (he j (by omega) hbit).symm
      · cases hb
    · intro hab
      have hbb := agB_trans hc hS (agB_symm hc hS hab) hab
      rw [if_pos hbb]
      congr 1
      refine (rec_eq h32).2 fun j hj hbit => ?_
      have hjc := bit_low ⟨c, by omega⟩ ⟨S, h32⟩ ⟨j, hj⟩ hS hbit
      exact (eqC_val ((agB_iff c ll m S a b hc hS).1 hab j hjc hbit)).symm
  · cases hk
theorem rowsC_asc (c : Nat) (ll : List (List Int)) (m s : Int) (i : Nat) : ∀ n, (rowsC c ll m s i n).Pairwise (fun a b => a < b)
  | 0 => by simp [rowsC]
  | n + 1 => by
    have ih := rowsC_asc c ll m s i n
    unfold rowsC
    split
    · rw [List.pairwise_append]
      refine ⟨ih, by simp, fun x hx y hy => ?_⟩
      rw [List.mem_singleton] at hy
      subst hy
      rw [rowsC_mem] at hx
      rcases hx with rfl | ⟨k, h1, h2, -, rfl⟩ <;> omega
    · exact ih
theorem clsC_grp {c : Nat} {ll : List (List Int)} {m : Int} {S a : Nat} {r : List Int} (hc : c ≤ 5) (hS : S < 2 ^ c) (ha : a < ll.length) (hk : keyT c ll m S a = some r) (hf : ∀ b, b < a → keyT c ll m S b ≠ some r) : clsC c ll m (S : Int) a = grpOf (keyT c ll m S) ll.length r := by
  refine ascG_unique (r := fun x y => x < y) (fun x => by omega) (fun x y z => by omega) _ _ (rowsC_asc _ _ _ _ _ _) (grpOf_asc _ _ _) fun x => ?_
  rw [clsC_mem c ll m _ a ha, grpOf_mem]
  constructor
  · rintro (rfl | ⟨k, h1, h2, h3, rfl⟩)
    · exact ⟨a, ha, hk, rfl⟩
    · exact ⟨k, h2, (key_agree hc hS hk).2 h3, rfl⟩
  · rintro ⟨i, h1, h2, rfl⟩
    rcases Nat.lt_trichotomy i a with h | rfl | h
    · exact (hf i h h2).elim
    · exact .inl rfl
    · exact .inr ⟨i, h, h1, (key_agree hc hS hk).1 h2, rfl⟩
theorem pad5_r5 {r : List Int} (h : ∀ x ∈ r, -1 ≤ x ∧ x ≤ 40) : R5 (pad5 r) := by
  refine ⟨pad5_len r, fun j hj => ?_⟩
  rw [← get_getD (pad5 r) j (by rw [pad5_len]; exact hj), pad5_get]
  refine Go.WalkArith.wf_i64 ?_
  by_cases hjl : j < r.length
  · have := h (r.getD j 0) (by rw [← get_getD r j hjl]; exact List.getElem_mem _)
    omega
  · rw [getD_end r j (by omega)]; omega
theorem recC_bd {c : Int} {ll : List (List Int)} {S i : Nat} (hT : isT c ll = true) (hS : S < 2 ^ c.toNat) (hi : i < ll.length) : ∀ x ∈ recC ll S i, -1 ≤ x ∧ x ≤ 40 := by
  obtain ⟨c1, c5, -⟩ := isT_bd hT
  intro x hx
  unfold recC at hx
  obtain ⟨k, hk, rfl⟩ := List.mem_map.1 hx
  obtain ⟨j, h1, h2, rfl⟩ := (mem_mems (pow_lt32 (by omega) hS)).1 hk
  obtain ⟨hl, hb⟩ := isT_row hT hi
  have hjc := bit_low ⟨c.toNat, by omega⟩ ⟨S, pow_lt32 (by omega) hS⟩ ⟨j, h1⟩ hS h2
  simp only at hjc
  rw [show ((j : Int)).toNat = j by omega]
  exact hb _ (by rw [← get_getD _ j (by omega)]; exact List.getElem_mem _)
theorem mems_in {c : Int} {ll : List (List Int)} {S i : Nat} (hT : isT c ll = true) (hS : S < 2 ^ c.toNat) (hi : i < ll.length) : ∀ x ∈ mems (S : Int), 0 ≤ x ∧ x < ((ll.getD i []).length : Int) := by
  obtain ⟨c1, c5, -⟩ := isT_bd hT
  intro x hx
  obtain ⟨j, h1, h2, rfl⟩ := (mem_mems (pow_lt32 (by omega) hS)).1 hx
  obtain ⟨hl, -⟩ := isT_row hT hi
  have hjc := bit_low ⟨c.toNat, by omega⟩ ⟨S, pow_lt32 (by omega) hS⟩ ⟨j, h1⟩ hS h2
  simp only at hjc
  omega
theorem table_eq {c m : Int} {ll : List (List Int)} {S : Nat} (hf : fineT c ll m = true) (hs : isA c (S : Int) = true) (hS : S < 2 ^ c.toNat) {L rs : List (List Int)} (hpm : L.Perm (rs.map (grpOf (keyT c.toNat ll m S) ll.length)))
    (ho : L.Pairwise (fun p q => lessR q p = false)) (hn : rs.Nodup) (hm : ∀ x, R5 x → (x ∈ rs ↔ 2 ≤ (grpOf (keyT c.toNat ll m S) ll.length x).length)) (h5 : ∀ x ∈ rs, R5 x) : L = prtS c ll m (S : Int) := by
  rw [prtS_eq c ll m _ hf hs]
  have hT : isT c ll = true := by unfold fineT at hf; simp at hf; exact hf.1
  obtain ⟨c1, c5, -⟩ := isT_bd hT
  have hc : c.toNat ≤ 5 := by omega
  refine groups_eq (fun i r hi hk => ?_) hpm ho hn hm h5 (fun a ha => ?_) (fun a ha r hk hfst => clsC_grp hc hS ha hk hfst)
  · unfold keyT at hk
    split at hk
    · cases hk
      exact pad5_r5 (recC_bd hT hS hi)
    · cases hk
  · rw [Bool.and_eq_true, decide_eq_true_eq]
    have hrep : ∀ r, keyT c.toNat ll m S a = some r → (repB c.toNat ll m (S : Int) a = true ↔ ∀ b, b < a → keyT c.toNat ll m S b ≠ some r) := by
      intro r hk
      unfold repB
      rw [Bool.not_eq_true', List.any_eq_false]
      constructor
      · intro h b hb e
        exact h b (List.mem_range.mpr hb) (agB_symm hc hS ((key_agree hc hS hk).1 e))
      · intro h b hb e
        exact h b (List.mem_range.mp hb) ((key_agree hc hS hk).2 (agB_symm hc hS e))
    constructor
    · rintro ⟨h1, h2⟩
      have haa : agB c.toNat ll m (S : Int) a a = true := by
        cases hq : clsC c.toNat ll m (S : Int) a with
        | nil => rw [hq] at h2; simp at h2
        | cons x t =>
          cases t with
          | nil => rw [hq] at h2; simp at h2
          | cons y t =>
            have hx := (clsC_mem c.toNat ll m (S : Int) a ha x).1 (by rw [hq]; simp)
            have hy := (clsC_mem c.toNat ll m (S : Int) a ha y).1 (by rw [hq]; simp)
            have hxy : x < y := by
              have := rowsC_asc c.toNat ll m (S : Int) a (ll.length - (a + 1))
              unfold clsC at hq
              rw [hq, List.pairwise_cons] at this
              exact this.1 y (by simp)
            rcases hy with rfl | ⟨k, -, -, h, -⟩
            · rcases hx with rfl | ⟨k, h3, -, -, rfl⟩ <;> omega
            · exact agB_trans hc hS h (agB_symm hc hS h)
      have hk : keyT c.toNat ll m S a = some (pad5 (recC ll S a)) := by unfold keyT; rw [if_pos haa]
      have hfst := (hrep _ hk).1 h1
      exact ⟨_, hk, hfst, by rw [← clsC_grp hc hS ha hk hfst]; omega⟩
    · rintro ⟨r, hk, hfst, h2⟩
      exact ⟨(hrep r hk).2 hfst, by rw [clsC_grp hc hS ha hk hfst]; omega⟩
end Go.Proofs.Ytkaalgbcdcbgoaa
