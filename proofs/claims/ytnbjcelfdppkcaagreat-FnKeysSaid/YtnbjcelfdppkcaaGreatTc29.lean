/- Texts of this claim, merged: PrtE0, CntK, SidM, DepE, ImC, DdA. Conditions: as stated. -/
import Derived.Test.YtnbjcelfdppkcaaGreatTc28
import Derived.Test.YtnbjcelfdppkcaaGreatTc11
import Derived.Test.YtnbjcelfdppkcaaGreatTc17
import Derived.Test.YtnbjcelfdppkcaaGreatTc27
import Derived.Test.YtnbjcelfdppkcaaGreatTc19
import Derived.Test.YtnbjcelfdppkcaaGreatTc4
import Derived.Test.YtnbjcelfdppkcaaGreatTc23
import Derived.Lib.OthersKept
namespace Go.Proofs.YtnbjcelfdppkcaaGreat

theorem mem_mems {S : Nat} (hS : S < 32) {x : Int} : x ∈ mems (S : Int) ↔ ∃ j : Nat, j < 5 ∧ bitB S j = true ∧ x = (j : Int) := by
  unfold mems
  rw [if_pos (by omega), show ((S : Int)).toNat = S by omega]
  unfold memN
  rw [List.mem_map]
  constructor
  · rintro ⟨j, hj, rfl⟩
    rw [List.mem_filter, List.mem_range] at hj
    exact ⟨j, hj.1, hj.2, rfl⟩
  · rintro ⟨j, h1, h2, rfl⟩
    exact ⟨j, by rw [List.mem_filter, List.mem_range]; exact ⟨h1, h2⟩, rfl⟩
theorem bit_low : ∀ (c : Fin 6) (S : Fin 32) (j : Fin 5), S.val < 2 ^ c.val → bitB S.val j.val = true → j.val < c.val := by decide +kernel
theorem pad5_inj {r s : List Int} (h : r.length = s.length) (h5 : r.length ≤ 5) (he : pad5 r = pad5 s) : r = s := by
  apply List.ext_getElem h
  intro i h1 h2
  have e1 := pad5_get r i (by rw [pad5_len]; omega)
  have e2 := pad5_get s i (by rw [pad5_len]; omega)
  have e3 : (pad5 r)[i]'(by rw [pad5_len]; omega) = (pad5 s)[i]'(by rw [pad5_len]; omega) := by simp only [he]
  rw [e1, e2, ← get_getD r i h1, ← get_getD s i h2] at e3
  exact e3
/-- The record of the columns S of row i. -/
def recC (ll : List (List Int)) (S i : Nat) : List Int := (mems (S : Int)).map fun k => (ll.getD i []).getD k.toNat 0
/-- The key of a row: its record, if it is equal to itself. -/
def keyT (c : Nat) (ll : List (List Int)) (m : Int) (S i : Nat) : Option (List Int) := if agB c ll m (S : Int) i i = true then some (pad5 (recC ll S i)) else none
theorem rec_eq {ll : List (List Int)} {S i k : Nat} (hS : S < 32) : pad5 (recC ll S i) = pad5 (recC ll S k) ↔ ∀ j, j < 5 → bitB S j = true → (ll.getD i []).getD j 0 = (ll.getD k []).getD j 0 := by
  constructor
  · intro h j hj hb
    have h1 := pad5_inj (by simp [recC]) (by unfold recC; rw [List.length_map]; exact mems_len _) h
    unfold recC at h1
    have := List.map_inj_left.1 h1 (j : Int) ((mem_mems hS).2 ⟨j, hj, hb, rfl⟩)
    rw [show ((j : Int)).toNat = j by omega] at this
    exact this
  · intro h
    congr 1
    unfold recC
    apply List.map_congr_left
    intro x hx
    obtain ⟨j, h1, h2, rfl⟩ := (mem_mems hS).1 hx
    rw [show ((j : Int)).toNat = j by omega]
    exact h j h1 h2
theorem pow_lt32 {c S : Nat} (hc : c ≤ 5) (hS : S < 2 ^ c) : S < 32 := by
  have : 2 ^ c ≤ 32 := by
    rcases (show c = 0 ∨ c = 1 ∨ c = 2 ∨ c = 3 ∨ c = 4 ∨ c = 5 by omega) with rfl | rfl | rfl | rfl | rfl | rfl <;> decide
  omega
theorem eqC_of {m a b : Int} (h : eqC m a a = true) (he : a = b) : eqC m a b = true := by subst he; exact h
theorem eqC_val {m a b : Int} (h : eqC m a b = true) : a = b := by
  unfold eqC at h; simp only [decide_eq_true_eq] at h; exact h.2.1
/-- Two rows have one key if they agree. -/
theorem key_agree {c : Nat} {ll : List (List Int)} {m : Int} {S a b : Nat} {r : List Int} (hc : c ≤ 5) (hS : S < 2 ^ c) (hk : keyT c ll m S a = some r) : keyT c ll m S b = some r ↔ agB c ll m (S : Int) a b = true := by
  have h32 := pow_lt32 hc hS
  unfold keyT at *
  split at hk
  · next ha =>
    have hk' := (Option.some.inj hk).symm
    subst hk'
    have ha' := (agB_iff c ll m S a a hc hS).1 ha
    constructor
    · intro hb
      split at hb
      · have he := (rec_eq h32).1 (Option.some.inj hb)
        rw [agB_iff c ll m S _ _ hc hS]
        intro j hj hbit
        exact eqC_of (ha' j hj hbit) (he j (by omega) hbit).symm
      · cases hb
    · intro hab
      have hbb := agB_trans hc hS (agB_symm hc hS hab) hab
      rw [if_pos hbb]
      congr 1
      refine (rec_eq h32).2 fun j hj hbit => ?_
      have hjc := bit_low ⟨c, by omega⟩ ⟨S, h32⟩ ⟨j, hj⟩ hS hbit
      exact (eqC_val ((agB_iff c ll m S a b hc hS).1 hab j hjc hbit)).symm
  · cases hk
theorem pad5_r5 {r : List Int} (h : ∀ x ∈ r, -1 ≤ x ∧ x ≤ 40) : R5 (pad5 r) := by
  refine ⟨pad5_len r, fun j hj => ?_⟩
  rw [← get_getD (pad5 r) j (by rw [pad5_len]; exact hj), pad5_get]
  refine Go.WalkArith.wf_i64 ?_
  by_cases hjl : j < r.length
  · have := h (r.getD j 0) (by rw [← get_getD r j hjl]; exact List.getElem_mem _)
    omega
  · rw [getD_end r j (by omega)]; omega
theorem recC_bd {c : Int} {ll : List (List Int)} {S i : Nat} (hT : isT c ll = true) (hS : S < 2 ^ c.toNat) (hi : i < ll.length) : ∀ x ∈ recC ll S i, -1 ≤ x ∧ x ≤ 40 := by
  obtain ⟨c1, c5, -⟩ := isT_bd hT
  intro x hx
  unfold recC at hx
  obtain ⟨k, hk, rfl⟩ := List.mem_map.1 hx
  obtain ⟨j, h1, h2, rfl⟩ := (mem_mems (pow_lt32 (by omega) hS)).1 hk
  obtain ⟨hl, hb⟩ := isT_row hT hi
  have hjc := bit_low ⟨c.toNat, by omega⟩ ⟨S, pow_lt32 (by omega) hS⟩ ⟨j, h1⟩ hS h2
  simp only at hjc
  rw [show ((j : Int)).toNat = j by omega]
  exact hb _ (by rw [← get_getD _ j (by omega)]; exact List.getElem_mem _)
theorem mems_in {c : Int} {ll : List (List Int)} {S i : Nat} (hT : isT c ll = true) (hS : S < 2 ^ c.toNat) (hi : i < ll.length) : ∀ x ∈ mems (S : Int), 0 ≤ x ∧ x < ((ll.getD i []).length : Int) := by
  obtain ⟨c1, c5, -⟩ := isT_bd hT
  intro x hx
  obtain ⟨j, h1, h2, rfl⟩ := (mem_mems (pow_lt32 (by omega) hS)).1 hx
  obtain ⟨hl, -⟩ := isT_row hT hi
  have hjc := bit_low ⟨c.toNat, by omega⟩ ⟨S, pow_lt32 (by omega) hS⟩ ⟨j, h1⟩ hS h2
  simp only at hjc
  omega
end Go.Proofs.YtnbjcelfdppkcaaGreat
namespace Go.Proofs.YtnbjcelfdppkcaaGreat
section
variable {α β : Type} [DecidableEq α] [DecidableEq β]
theorem perm_mem {a b : List α} (ha : a.Nodup) (hb : b.Nodup) (h : ∀ x, x ∈ a ↔ x ∈ b) : a.Perm b :=
  List.perm_iff_count.2 fun x => by
    by_cases hx : x ∈ a
    · rw [List.Nodup.count ha, List.Nodup.count hb, if_pos hx, if_pos ((h x).1 hx)]
    · rw [List.Nodup.count ha, List.Nodup.count hb, if_neg hx, if_neg (fun e => hx ((h x).2 e))]
theorem perm_sumN {a b : List Nat} (h : a.Perm b) : a.sum = b.sum := by
  induction h with
  | nil => rfl
  | cons x _ ih => simp [ih]
  | swap x y l => simp; omega
  | trans _ _ h1 h2 => rw [h1, h2]
theorem sum_split {γ : Type} (l : List γ) (f g : γ → Nat) : (l.map fun x => f x + g x).sum = (l.map f).sum + (l.map g).sum := by
  induction l with
  | nil => rfl
  | cons a t ih => simp only [List.map_cons, List.sum_cons, ih]; omega
theorem sum_none (k : α) : ∀ rs : List α, k ∉ rs → (rs.map fun r => if k = r then 1 else 0).sum = 0
  | [], _ => rfl
  | r :: t, h => by
    rw [List.map_cons, List.sum_cons, sum_none k t (fun e => h (List.mem_cons_of_mem _ e)), if_neg (fun e => h (by rw [e]; exact List.mem_cons_self))]
theorem sum_one (k : α) : ∀ rs : List α, rs.Nodup → k ∈ rs → (rs.map fun r => if k = r then 1 else 0).sum = 1
  | [], _, h => by cases h
  | r :: t, hn, h => by
    obtain ⟨h1, h2⟩ := List.nodup_cons.1 hn
    rw [List.map_cons, List.sum_cons]
    by_cases e : k = r
    · subst e
      rw [if_pos rfl, sum_none k t h1]
    · rw [if_neg e, sum_one k t h2 (by rcases List.mem_cons.1 h with h | h; exact absurd h e; exact h)]
omit [DecidableEq β] in
theorem sum_groups (K : β → α) {rs : List α} (hn : rs.Nodup) : ∀ l : List β, (∀ x ∈ l, K x ∈ rs) → (rs.map fun r => (l.filter fun x => decide (K x = r)).length).sum = l.length
  | [], _ => by
    have : ∀ rs : List α, (rs.map fun _ => 0).sum = 0 := fun rs => by induction rs with
      | nil => rfl
      | cons a t ih => simp [ih]
    simpa using this rs
  | x :: t, h => by
    have ih := sum_groups K hn t (fun y hy => h y (List.mem_cons_of_mem _ hy))
    have e : (fun r => ((x :: t).filter fun x => decide (K x = r)).length) = fun r => (if K x = r then 1 else 0) + (t.filter fun x => decide (K x = r)).length := by
      funext r
      by_cases hr : K x = r
      · rw [List.filter_cons_of_pos (by simpa using hr), if_pos hr, List.length_cons]; omega
      · rw [List.filter_cons_of_neg (by simpa using hr), if_neg hr]; omega
    rw [e, sum_split, ih, sum_one (K x) rs hn (h x List.mem_cons_self), List.length_cons]; omega
/-- How often a key is there among the first n. -/
def cntK (K : Nat → α) (n : Nat) (r : α) : Nat := ((List.range n).filter fun i => decide (K i = r)).length
theorem cntK_succ (K : Nat → α) (n : Nat) (r : α) : cntK K (n + 1) r = if r = K n then cntK K n r + 1 else cntK K n r := by
  unfold cntK
  rw [List.range_succ, List.filter_append, List.length_append]
  by_cases h : r = K n
  · rw [if_pos h, List.filter_cons_of_pos (by simpa using h.symm)]; rfl
  · rw [if_neg h, List.filter_cons_of_neg (by simpa using fun e => h e.symm)]; rfl
theorem cntK_le (K : Nat → α) (n : Nat) (r : α) : cntK K n r ≤ n := by
  have := List.length_filter_le (fun i => decide (K i = r)) (List.range n)
  rw [List.length_range] at this
  exact this
theorem cntK_mono (K : Nat → α) (r : α) (n : Nat) : ∀ d, cntK K n r ≤ cntK K (n + d) r
  | 0 => Nat.le_refl _
  | d + 1 => by
    have h := cntK_mono K r n d
    rw [show n + (d + 1) = n + d + 1 by omega, cntK_succ]
    split <;> omega
theorem cntK_pos {K : Nat → α} {n i : Nat} (h : i < n) : 1 ≤ cntK K n (K i) := by
  have : i ∈ (List.range n).filter fun j => decide (K j = K i) := List.mem_filter.2 ⟨List.mem_range.2 h, by simp⟩
  exact List.length_pos_of_mem this
/-- How often the most frequent one is there, for each key. -/
def stayK (K : Nat → α) (S : Nat → β) : Nat → α → Nat
  | 0, _ => 0
  | n + 1, r => if r = K n then max (stayK K S n r) (cntK S (n + 1) (S n)) else stayK K S n r
theorem stayK_ge (K : Nat → α) (S : Nat → β) (hKS : ∀ i j, S i = S j → K i = K j) : ∀ n j, j < n → cntK S n (S j) ≤ stayK K S n (K j)
  | 0, j, h => absurd h (Nat.not_lt_zero _)
  | n + 1, j, h => by
    show _ ≤ if K j = K n then max (stayK K S n (K j)) (cntK S (n + 1) (S n)) else stayK K S n (K j)
    by_cases hs : S j = S n
    · rw [if_pos (hKS j n hs), hs]; omega
    · have hjn : j < n := by
        rcases Nat.lt_or_ge j n with h' | h'
        · exact h'
        · exact absurd (congrArg S (show j = n by omega)) hs
      have ih := stayK_ge K S hKS n j hjn
      rw [cntK_succ, if_neg hs]
      split <;> omega
theorem stayK_is (K : Nat → α) (S : Nat → β) (r : α) : ∀ n, stayK K S n r = 0 ∨ ∃ j, j < n ∧ K j = r ∧ stayK K S n r ≤ cntK S n (S j)
  | 0 => .inl rfl
  | n + 1 => by
    by_cases hr : r = K n
    · refine .inr ?_
      have hd : stayK K S (n + 1) r = max (stayK K S n r) (cntK S (n + 1) (S n)) := if_pos hr
      by_cases hm : stayK K S n r ≤ cntK S (n + 1) (S n)
      · exact ⟨n, by omega, hr.symm, by rw [hd]; omega⟩
      · rcases stayK_is K S r n with h0 | ⟨j, hj, hk, hle⟩
        · omega
        · have := cntK_mono S (S j) n 1
          exact ⟨j, by omega, hk, by rw [hd]; omega⟩
    · have hd : stayK K S (n + 1) r = stayK K S n r := if_neg hr
      rcases stayK_is K S r n with h0 | ⟨j, hj, hk, hle⟩
      · exact .inl (hd.trans h0)
      · have := cntK_mono S (S j) n 1
        exact .inr ⟨j, by omega, hk, by rw [hd]; omega⟩
theorem stayK_le (K : Nat → α) (S : Nat → β) (r : α) (n : Nat) : stayK K S n r ≤ n := by
  rcases stayK_is K S r n with h | ⟨j, -, -, h⟩
  · omega
  · have := cntK_le S n (S j)
    omega
theorem stayK_has (K : Nat → α) (S : Nat → β) (hKS : ∀ i j, S i = S j → K i = K j) (n : Nat) (r : α) : stayK K S n r ≠ 0 ↔ ∃ i, i < n ∧ K i = r := by
  constructor
  · intro h
    rcases stayK_is K S r n with h0 | ⟨j, hj, hk, -⟩
    · exact absurd h0 h
    · exact ⟨j, hj, hk⟩
  · rintro ⟨i, hi, rfl⟩
    have := stayK_ge K S hKS n i hi
    have := cntK_pos (K := S) hi
    omega
theorem stayK_grp (K : Nat → α) (S : Nat → β) (hKS : ∀ i j, S i = S j → K i = K j) (n : Nat) (r : α) : stayK K S n r ≤ cntK K n r := by
  rcases stayK_is K S r n with h | ⟨j, hj, rfl, h⟩
  · omega
  · refine Nat.le_trans h ?_
    unfold cntK
    rw [← List.countP_eq_length_filter, ← List.countP_eq_length_filter]
    exact List.countP_mono_left fun i _ hi => by
      simp at hi ⊢
      exact hKS _ _ hi
/-- The first rows of their keys. -/
def firstK (K : Nat → α) (n : Nat) : List Nat := (List.range n).filter fun a => !(List.range a).any fun b => decide (K b = K a)
theorem firstK_mem {K : Nat → α} {n a : Nat} : a ∈ firstK K n ↔ a < n ∧ ∀ b, b < a → K b ≠ K a := by
  unfold firstK
  rw [List.mem_filter, List.mem_range]
  refine and_congr_right fun _ => ?_
  rw [Bool.not_eq_true', List.any_eq_false]
  exact ⟨fun h b hb => by have := h b (List.mem_range.2 hb); simpa using this, fun h b hb => by have := h b (List.mem_range.1 hb); simpa using this⟩
theorem firstK_nodup (K : Nat → α) (n : Nat) : ((firstK K n).map K).Nodup := by
  refine List.pairwise_map.2 ?_
  have h := (List.pairwise_lt_range (n := n)).filter (fun a => !(List.range a).any fun b => decide (K b = K a))
  refine h.imp_of_mem fun {a b} ha hb hab => ?_
  exact (firstK_mem.1 hb).2 a hab
theorem firstK_all (K : Nat → α) : ∀ n i, i < n → K i ∈ (firstK K n).map K := by
  intro n i
  induction i using Nat.strongRecOn with
  | _ i ih =>
    intro hi
    by_cases h : ∀ b, b < i → K b ≠ K i
    · exact List.mem_map.2 ⟨i, firstK_mem.2 ⟨hi, h⟩, rfl⟩
    · have ⟨b, hb, he⟩ : ∃ b, b < i ∧ K b = K i := by
        by_cases hx : ∃ b, b < i ∧ K b = K i
        · exact hx
        · exact absurd (fun b hb e => hx ⟨b, hb, e⟩) h
      rw [← he]
      exact ih b hb (by omega)
theorem sum_subN {γ : Type} (l : List γ) (f g : γ → Nat) (h : ∀ x ∈ l, g x ≤ f x) : (l.map f).sum - (l.map g).sum = (l.map fun x => f x - g x).sum ∧ (l.map g).sum ≤ (l.map f).sum := by
  induction l with
  | nil => exact ⟨rfl, Nat.le_refl _⟩
  | cons a t ih =>
    obtain ⟨i1, i2⟩ := ih (fun x hx => h x (List.mem_cons_of_mem _ hx))
    have := h a List.mem_cons_self
    simp only [List.map_cons, List.sum_cons]
    exact ⟨by omega, by omega⟩
theorem sum_filter {γ : Type} (l : List γ) (f : γ → Nat) (p : γ → Bool) (h : ∀ x ∈ l, p x = false → f x = 0) : (l.map f).sum = ((l.filter p).map f).sum := by
  induction l with
  | nil => rfl
  | cons a t ih =>
    have i1 := ih (fun x hx => h x (List.mem_cons_of_mem _ hx))
    cases hp : p a with
    | true => rw [List.filter_cons_of_pos hp]; simp only [List.map_cons, List.sum_cons, i1]
    | false => rw [List.filter_cons_of_neg (by rw [hp]; exact Bool.false_ne_true)]; simp only [List.map_cons, List.sum_cons, i1, h a List.mem_cons_self hp]; omega
/-- What is left of n when the numbers of a list of all keys are taken away. -/
theorem left_sum (K : Nat → α) (S : Nat → β) (hKS : ∀ i j, S i = S j → K i = K j) (n : Nat) {rs : List α} (hn : rs.Nodup) (hm : ∀ x, x ∈ rs ↔ ∃ i, i < n ∧ K i = x) :
    (rs.map (stayK K S n)).sum ≤ n ∧ n - (rs.map (stayK K S n)).sum = (((firstK K n).filter fun a => decide (1 < cntK K n (K a))).map fun a => cntK K n (K a) - stayK K S n (K a)).sum := by
  have hp : rs.Perm ((firstK K n).map K) := perm_mem hn (firstK_nodup K n) fun x => by
    rw [hm]
    constructor
    · rintro ⟨i, hi, rfl⟩; exact firstK_all K n i hi
    · intro hx
      obtain ⟨a, ha, rfl⟩ := List.mem_map.1 hx
      exact ⟨a, (firstK_mem.1 ha).1, rfl⟩
  have h1 := perm_sumN (hp.map (stayK K S n))
  have h2 := perm_sumN (hp.map (cntK K n))
  have h3 := sum_groups K hn (List.range n) (fun i hi => (hm _).2 ⟨i, List.mem_range.1 hi, rfl⟩)
  rw [List.length_range] at h3
  have h3' : (rs.map (cntK K n)).sum = n := h3
  rw [h3', List.map_map] at h2
  rw [h1, List.map_map]
  obtain ⟨h4, h5⟩ := sum_subN (firstK K n) (cntK K n ∘ K) (stayK K S n ∘ K) (fun a _ => stayK_grp K S hKS n (K a))
  rw [← h2] at h4 h5
  refine ⟨h5, h4.trans (sum_filter _ _ _ fun a ha hb => ?_)⟩
  have hc : cntK K n (K a) ≤ 1 := by simpa using hb
  have hl := (firstK_mem.1 ha).1
  have := stayK_ge K S hKS n a hl
  have := cntK_pos (K := S) hl
  show cntK K n (K a) - stayK K S n (K a) = 0
  omega
end
end Go.Proofs.YtnbjcelfdppkcaaGreat
namespace Go.Proofs.YtnbjcelfdppkcaaGreat
open Go.RowKit

/-- The rows told apart. -/
def tld (m : Int) (ll : List (List Int)) : List (List Int) := (List.range ll.length).map fun i => tapR m i (ll.getD i [])
theorem tld_get (m : Int) {ll : List (List Int)} {i : Nat} (hi : i < ll.length) : (tld m ll).getD i [] = tapR m i (ll.getD i []) := by
  unfold tld
  rw [List.getD_eq_getElem?_getD, List.getElem?_map, List.getElem?_range hi]; rfl
/-- The record of the left side of row i, and its sides. -/
def kyL (m : Int) (ll : List (List Int)) (L i : Nat) : List Int := pad5 (recC (tld m ll) L i)
def kyS (m : Int) (ll : List (List Int)) (L R i : Nat) : List Int := kyL m ll L i ++ [((tld m ll).getD i []).getD R 0]
theorem kyL_len (m : Int) (ll : List (List Int)) (L i : Nat) : (kyL m ll L i).length = 5 := pad5_len _
theorem kyS_take (m : Int) (ll : List (List Int)) (L R i : Nat) : (kyS m ll L R i).take 5 = kyL m ll L i := by
  unfold kyS
  rw [List.take_append_of_le_length (by rw [kyL_len]; omega), List.take_of_length_le (by rw [kyL_len]; omega)]
theorem kyS_iff {m : Int} {ll : List (List Int)} {L R i k : Nat} : kyS m ll L R i = kyS m ll L R k ↔ kyL m ll L i = kyL m ll L k ∧ ((tld m ll).getD i []).getD R 0 = ((tld m ll).getD k []).getD R 0 := by
  unfold kyS
  constructor
  · intro h
    obtain ⟨h1, h2⟩ := List.append_inj h (by rw [kyL_len, kyL_len])
    exact ⟨h1, by simpa using h2⟩
  · rintro ⟨h1, h2⟩; rw [h1, h2]
def sdL (m : Int) (ll : List (List Int)) (L R n : Nat) : List (List Int) := (List.range n).map (kyS m ll L R)
theorem sdL_len (m : Int) (ll : List (List Int)) (L R n : Nat) : (sdL m ll L R n).length = n := by unfold sdL; rw [List.length_map, List.length_range]
theorem sdL_get (m : Int) (ll : List (List Int)) (L R n : Nat) {i : Nat} (hi : i < n) : (sdL m ll L R n).getD i [] = kyS m ll L R i := by
  unfold sdL
  rw [List.getD_eq_getElem?_getD, List.getElem?_map, List.getElem?_range hi]; rfl
theorem sdL_succ (m : Int) (ll : List (List Int)) (L R n : Nat) : sdL m ll L R (n + 1) = sdL m ll L R n ++ [kyS m ll L R n] := by
  unfold sdL
  rw [List.range_succ, List.map_append]; rfl
theorem tap_eq {m : Int} (hm : m = 0 ∨ m = 1) {i k : Nat} (hik : i ≠ k) {a b : Int} (ha : -1 ≤ a) (hb : -1 ≤ b) : tapC m i a = tapC m k b ↔ eqC m a b = true := by
  unfold tapC
  rcases hm with rfl | rfl
  · have e0 : ∀ x y : Int, eqC 0 x y = decide (x = y) := fun x y => by unfold eqC; simp
    simp only [e0, decide_eq_true_eq, if_true]
  · have e1 : ∀ x y : Int, eqC 1 x y = decide (x = y ∧ x ≠ -1) := fun x y => by unfold eqC; simp
    simp only [e1, decide_eq_true_eq, true_and]
    by_cases h1 : a = -1
    · rw [if_neg (fun h => h h1)]
      by_cases h2 : b = -1
      · rw [if_neg (fun h => h h2)]
        constructor
        · intro h; omega
        · rintro ⟨-, h⟩; exact absurd h1 h
      · rw [if_pos h2]
        constructor
        · intro h; omega
        · rintro ⟨-, h⟩; exact absurd h1 h
    · rw [if_pos h1]
      by_cases h2 : b = -1
      · rw [if_neg (fun h => h h2)]
        constructor
        · intro h; omega
        · rintro ⟨h, -⟩; omega
      · rw [if_pos h2]
        constructor
        · intro h; exact ⟨h, h1⟩
        · rintro ⟨h, -⟩; exact h
section
variable {c : Int} {ll : List (List Int)} {m : Int} {L R : Nat}
theorem cell_bd (hT : isT c ll = true) {i j : Nat} (hi : i < ll.length) (hj : j < c.toNat) : -1 ≤ (ll.getD i []).getD j 0 ∧ (ll.getD i []).getD j 0 ≤ 40 := by
  obtain ⟨c1, c5, -⟩ := isT_bd hT
  obtain ⟨hl, hb⟩ := isT_row hT hi
  exact hb _ (by rw [← get_getD _ j (by omega)]; exact List.getElem_mem _)
theorem tld_cell (hT : isT c ll = true) {i j : Nat} (hi : i < ll.length) (hj : j < c.toNat) : ((tld m ll).getD i []).getD j 0 = tapC m i ((ll.getD i []).getD j 0) := by
  obtain ⟨c1, c5, -⟩ := isT_bd hT
  obtain ⟨hl, -⟩ := isT_row hT hi
  rw [tld_get m hi, tapR_get m i _ j (by omega)]
theorem ky_agree (hT : isT c ll = true) (hm : m = 0 ∨ m = 1) (hL : L < 2 ^ c.toNat) {i k : Nat} (hik : i ≠ k) (hi : i < ll.length) (hk : k < ll.length) : kyL m ll L i = kyL m ll L k ↔ agB c.toNat ll m (L : Int) i k = true := by
  obtain ⟨c1, c5, -⟩ := isT_bd hT
  have h32 := pow_lt32 (by omega) hL
  unfold kyL
  rw [rec_eq h32, agB_iff c.toNat ll m L i k (by omega) hL]
  constructor
  · intro h j hj hb
    have := h j (by omega) hb
    rw [tld_cell hT hi hj, tld_cell hT hk hj, tap_eq hm hik (cell_bd hT hi hj).1 (cell_bd hT hk hj).1] at this
    exact this
  · intro h j hj hb
    have hjc := bit_low ⟨c.toNat, by omega⟩ ⟨L, h32⟩ ⟨j, hj⟩ hL hb
    simp only at hjc
    rw [tld_cell hT hi hjc, tld_cell hT hk hjc, tap_eq hm hik (cell_bd hT hi hjc).1 (cell_bd hT hk hjc).1]
    exact h j hjc hb
theorem ky_right (hT : isT c ll = true) (hm : m = 0 ∨ m = 1) (hR : R < c.toNat) {i k : Nat} (hik : i ≠ k) (hi : i < ll.length) (hk : k < ll.length) :
    ((tld m ll).getD i []).getD R 0 = ((tld m ll).getD k []).getD R 0 ↔ bitB (agrTo m (ll.getD i []) (ll.getD k []) c.toNat).toNat R = true := by
  obtain ⟨c1, c5, -⟩ := isT_bd hT
  obtain ⟨X, hX, -, -, hb⟩ := agrTo_bit m (ll.getD i []) (ll.getD k []) c.toNat (by omega)
  rw [hX, show ((X : Int)).toNat = X from rfl, hb R (by omega), decide_eq_true hR, Bool.true_and, tld_cell hT hi hR, tld_cell hT hk hR]
  exact tap_eq hm hik (cell_bd hT hi hR).1 (cell_bd hT hk hR).1
theorem vio_bad (hT : isT c ll = true) (hm : m = 0 ∨ m = 1) (hL : L < 2 ^ c.toNat) (hR : R < c.toNat) {i k : Nat} (hik : i < k) (hk : k < ll.length) : vioB (sdL m ll L R ll.length) i k = badB c.toNat ll m L R i k := by
  unfold vioB badB
  rw [sdL_get m ll L R _ (by omega), sdL_get m ll L R _ hk, kyS_take, kyS_take]
  have h1 := ky_agree hT hm hL (show i ≠ k by omega) (by omega) hk
  have h2 := ky_right hT hm hR (show i ≠ k by omega) (by omega) hk
  cases ha : agB c.toNat ll m (L : Int) i k with
  | false =>
    rw [ha] at h1
    rw [decide_eq_false (fun e => Bool.false_ne_true (h1.1 e))]; rfl
  | true =>
    rw [ha] at h1
    have e1 := h1.2 rfl
    rw [decide_eq_true e1, Bool.true_and, Bool.true_and]
    congr 1
    rw [Bool.eq_iff_iff, decide_eq_true_iff, kyS_iff]
    exact ⟨fun e => h2.1 e.2, fun e => ⟨e1, h2.2 e⟩⟩
theorem PairIs.congr {bad bad' : Nat → Nat → Bool} {N : Nat} (e : ∀ i k, i < k → k < N → bad i k = bad' i k) {a b : Int} (h : PairIs bad N a b) : PairIs bad' N a b := by
  rcases h with ⟨ha, hb, h⟩ | ⟨i, k, ha, hb, h1, h2, h3, h4, h5⟩
  · exact .inl ⟨ha, hb, fun i k hik hk => by rw [← e i k hik hk]; exact h i k hik hk⟩
  · exact .inr ⟨i, k, ha, hb, h1, h2, by rw [← e i k h1 h2]; exact h3, fun i' k' g1 g2 g3 => by rw [← e i' k' g2 g3]; exact h4 i' k' g1 g2 g3, fun k' g1 g2 => by rw [← e i k' g1 (by omega)]; exact h5 k' g1 g2⟩
theorem vio_pair (hT : isT c ll = true) (hm : m = 0 ∨ m = 1) (hL : L < 2 ^ c.toNat) (hR : R < c.toNat) : pairI (vioB (sdL m ll L R ll.length)) ll.length = pairI (badB c.toNat ll m L R) ll.length := by
  have h := (pairI_is (vioB (sdL m ll L R ll.length)) ll.length).congr (bad' := badB c.toNat ll m L R) (fun i k h1 h2 => vio_bad hT hm hL hR h1 h2)
  exact (pairI_eq h).symm
theorem tap_bd {i : Nat} (hi : i ≤ 40) {x : Int} (h : -1 ≤ x ∧ x ≤ 40) : -42 ≤ tapC m i x ∧ tapC m i x ≤ 40 := by
  unfold tapC
  split <;> omega
theorem kyL_r5 (hT : isT c ll = true) (hL : L < 2 ^ c.toNat) {i : Nat} (hi : i < ll.length) : R5 (kyL m ll L i) := by
  obtain ⟨c1, c5, h40⟩ := isT_bd hT
  have h32 := pow_lt32 (by omega) hL
  refine ⟨kyL_len _ _ _ _, fun j hj => Go.WalkArith.wf_i64 ?_⟩
  unfold kyL
  rw [← get_getD (pad5 _) j (by rw [pad5_len]; exact hj), pad5_get]
  by_cases hjl : j < (recC (tld m ll) L i).length
  · have hmem : (recC (tld m ll) L i).getD j 0 ∈ recC (tld m ll) L i := by rw [← get_getD _ j hjl]; exact List.getElem_mem _
    unfold recC at hmem
    obtain ⟨k, hk, e⟩ := List.mem_map.1 hmem
    obtain ⟨q, h1, h2, rfl⟩ := (mem_mems h32).1 hk
    have hqc := bit_low ⟨c.toNat, by omega⟩ ⟨L, h32⟩ ⟨q, h1⟩ hL h2
    simp only at hqc
    rw [show ((q : Int)).toNat = q from rfl, tld_cell hT hi hqc] at e
    have := tap_bd (m := m) (i := i) (by omega) (cell_bd hT hi hqc)
    unfold recC
    omega
  · rw [getD_end _ j (by omega)]; omega
theorem kyS_s6 (hT : isT c ll = true) (hL : L < 2 ^ c.toNat) (hR : R < c.toNat) {i : Nat} (hi : i < ll.length) : S6 (kyS m ll L R i) := by
  obtain ⟨c1, c5, h40⟩ := isT_bd hT
  have h5 := kyL_r5 (m := m) hT hL hi
  refine ⟨by unfold kyS; rw [List.length_append, kyL_len]; rfl, fun j hj => ?_⟩
  unfold kyS
  rw [getD_app]
  split
  · rw [tld_cell hT hi hR]
    have := tap_bd (m := m) (i := i) (by omega) (cell_bd hT hi hR)
    exact Go.WalkArith.wf_i64 (by omega)
  · next h =>
    rw [kyL_len] at h
    exact h5.2 j (by omega)
end
end Go.Proofs.YtnbjcelfdppkcaaGreat
namespace Go.Proofs.YtnbjcelfdppkcaaGreat
open Go.RowKit

theorem fmtA_empty (x : Int) : (fmtA x).toList.isEmpty = !valB x := by
  rw [ByteArray.toList_eq]
  unfold fmtA valB
  by_cases h : 0 ≤ x ∧ x ≤ 31
  · rw [if_pos h, decide_eq_true h]
    split
    · rfl
    · next hl =>
      cases hq : lets x.toNat 5 with
      | nil => exact absurd hq hl
      | cons a b => rfl
  · rw [if_neg h, decide_eq_false h]; rfl
/-- The text of a dependency, empty if it has none. -/
def fmtD (l r : Int) : ByteArray := if valB l = true ∧ 0 ≤ r ∧ r ≤ 4 then fmtA l ++ ⟨#[62]⟩ ++ fmtA (2 ^ r.toNat : Nat) else ⟨#[]⟩
theorem fmtA_size (x : Int) : (fmtA x).size ≤ 5 := by
  rw [str_size]
  unfold fmtA
  split
  · split
    · decide
    · have := lets_len x.toNat 5; simpa using this
  · decide
end Go.Proofs.YtnbjcelfdppkcaaGreat
namespace Go.Proofs.YtnbjcelfdppkcaaGreat
open Go.RowKit

theorem info8s : (Tryz.prog.info? 5).map (fun i => (i.zero, i.size, i.bytes)) = some (some (.int .u8 0), 1, 1) := by kernel_rfl
/-- The letters of columns. -/
def ltr (l : List Int) : List UInt8 := l.map fun i => UInt8.ofNat (65 + i).toNat
theorem ltr_take {l : List Int} {k : Nat} (h : k < l.length) : ltr (l.take (k + 1)) = ltr (l.take k) ++ [UInt8.ofNat (65 + l[k]).toNat] := by
  unfold ltr; rw [List.take_succ_eq_append_getElem h, List.map_append]; rfl
theorem ltr_len (l : List Int) (k : Nat) : (ltr (l.take k)).length ≤ k := by
  unfold ltr; rw [List.length_map]; exact List.length_take_le _ _
theorem ltr_fmt : ∀ X : Fin 32, X.val ≠ 0 → (⟨(ltr (mems ((X.val : Nat) : Int))).toArray⟩ : ByteArray) = fmtA ((X.val : Nat) : Int) := by
  intro X h
  apply str_ext
  revert X
  decide +kernel
theorem own_apart {w : World} {B B' : Nat} {v v' : Value} {l : List UInt8} {l' : List Int} (h : OwnB w B 5 v l) (h' : OwnI w B' v' l') : ∀ g, v.ownBlock = some g → v'.ownBlock ≠ some g := by
  intro g hg hg'
  rcases h.2 with ⟨rfl, _⟩ | ⟨g1, cap, cur, rfl, hB, hgg, rest⟩
  · cases hg
  · rcases h'.2 with ⟨rfl, _⟩ | ⟨g2, cap2, cur2, rfl, hB2, hgg2, rest2⟩
    · cases hg'
    · simp [Value.ownBlock] at hg hg'
      subst hg hg'
      rw [hgg] at hgg2
      simp at hgg2
end Go.Proofs.YtnbjcelfdppkcaaGreat
namespace Go.Proofs.YtnbjcelfdppkcaaGreat
open Go.RowKit

theorem isA_cols {n x : Int} (h : isA n x = true) : 0 ≤ n ∧ n ≤ 5 := by unfold isA at h; rw [decide_eq_true_iff] at h; exact h.1
theorem depB_eq (n l r : Int) : depB n l r = (isA n l && (decide (0 ≤ r) && decide (r < n))) := by
  rw [Bool.eq_iff_iff, depB_iff, Bool.and_eq_true, Bool.and_eq_true, decide_eq_true_iff, decide_eq_true_iff]
  constructor
  · rintro ⟨h1, h2, h3, h4⟩; exact ⟨h2, h3, by omega⟩
  · rintro ⟨h1, h2, h3⟩
    have hn := isA_cols h1
    exact ⟨by omega, h1, h2, by omega⟩
theorem depB_five {l r : Int} (h : depB 5 l r = true) : ∃ L R : Nat, l = (L : Int) ∧ r = (R : Int) ∧ L < 32 ∧ R ≤ 4 := by
  rw [depB_iff] at h
  obtain ⟨-, h2, h3, h4⟩ := h
  unfold isA at h2
  rw [decide_eq_true_iff] at h2
  obtain ⟨-, h5, h6⟩ := h2
  have h7 : l ≤ 31 := h6
  exact ⟨l.toNat, r.toNat, by omega, by omega, by omega, by omega⟩
theorem fmtD_dep (l r : Int) : fmtD l r = if depB 5 l r = true then fmtA l ++ ⟨#[62]⟩ ++ fmtA (2 ^ r.toNat : Nat) else ⟨#[]⟩ := by
  have h : (depB 5 l r = true) ↔ (valB l = true ∧ 0 ≤ r ∧ r ≤ 4) := by
    rw [depB_iff]
    unfold isA valB
    rw [decide_eq_true_iff, decide_eq_true_iff]
    have : (2 : Int) ^ (5 : Int).toNat - 1 = 31 := rfl
    rw [this]
    constructor
    · rintro ⟨-, ⟨-, h1⟩, h2, h3⟩; exact ⟨h1, h2, by omega⟩
    · rintro ⟨h1, h2, h3⟩; exact ⟨by omega, ⟨by omega, h1⟩, h2, by omega⟩
  unfold fmtD
  by_cases h' : depB 5 l r = true
  · rw [if_pos h', if_pos (h.1 h')]
  · rw [if_neg h', if_neg (fun e => h' (h.2 e))]
end Go.Proofs.YtnbjcelfdppkcaaGreat
