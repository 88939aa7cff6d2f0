/- Texts of this claim, merged: PmD, CovB, CovC, PmE, PmF, CovD. Conditions: as stated. -/
import Derived.Test.YtnbjcelfdppkcadGreatXz10
import Derived.Test.YtnbjcelfdppkcadGreatDepDm
import Derived.Test.YtnbjcelfdppkcadGreatXz9
import Derived.Test.YtnbjcelfdppkcadGreatXz4
namespace Go.Proofs.YtnbjcelfdppkcadGreat

section
variable {c : Nat} {ll : List (List Int)} {m : Int} {L R : Nat}
theorem clSt_parL (hc : c ≤ 5) (hL : L < 2 ^ c) : (clSt c ll m (L : Int) ll.length).1 = parL c ll m L := (clSt_eq hc hL ll.length (Nat.le_refl _)).1
theorem mostTo_ge (p : List Int) (k : Nat) : ∀ n, k < n → sameTo c ll m R p k p.length ≤ mostTo c ll m R p n
  | 0, h => absurd h (Nat.not_lt_zero _)
  | n + 1, h => by
    unfold mostTo
    by_cases hk : k = n
    · subst hk; omega
    · have := mostTo_ge p k n (by omega)
      omega
theorem mostTo_is (p : List Int) : ∀ n, mostTo c ll m R p n = 0 ∧ n = 0 ∨ ∃ k, k < n ∧ mostTo c ll m R p n = sameTo c ll m R p k p.length
  | 0 => .inl ⟨rfl, rfl⟩
  | n + 1 => by
    right
    unfold mostTo
    rcases mostTo_is p n with ⟨h, h0⟩ | ⟨k, hk, h⟩
    · exact ⟨n, by omega, by rw [h]; omega⟩
    · by_cases hle : mostTo c ll m R p n ≤ sameTo c ll m R p n p.length
      · exact ⟨n, by omega, by omega⟩
      · exact ⟨k, by omega, by rw [← h]; omega⟩
theorem sameTo_lt (p : List Int) (k : Nat) : ∀ j, sameTo c ll m R p k j + (if j ≤ k then 0 else 1) ≤ j + 1
  | 0 => by simp [sameTo]
  | j + 1 => by
    have ih := sameTo_lt p k j
    unfold sameTo
    by_cases hjk : j = k
    · subst hjk
      rw [if_neg (fun h => h.1 rfl), if_neg (by omega)]
      rw [if_pos (Nat.le_refl _)] at ih
      omega
    · split
      · split at ih <;> split <;> omega
      · split at ih <;> split <;> omega
theorem mostTo_len (p : List Int) : mostTo c ll m R p p.length ≤ p.length := by
  rcases mostTo_is (c := c) (ll := ll) (m := m) (R := R) p p.length with ⟨h, -⟩ | ⟨k, hk, h⟩
  · omega
  · have := sameTo_lt (c := c) (ll := ll) (m := m) (R := R) p k p.length
    rw [if_neg (by omega)] at this
    omega
theorem remTo_sum (P : List (List Int)) : ∀ i, i ≤ P.length → remTo c ll m R P i = ((((P.take i).map fun r => r.length - mostTo c ll m R r r.length).sum : Nat) : Int)
  | 0, _ => rfl
  | i + 1, hi => by
    rw [take_succ_getD P [] i (by omega), List.map_append, List.sum_append]
    unfold remTo
    rw [remTo_sum P i (by omega)]
    have := mostTo_len (c := c) (ll := ll) (m := m) (R := R) (P.getD i [])
    simp only [List.map_cons, List.map_nil, List.sum_cons, List.sum_nil]
    omega
/-- The kept rows of a class, all equal on the right, are no more than the most. -/
theorem kept_same (p : List Int) (M : Int → Bool) (k : Nat) (hMk : M (p.getD k 0) = true) (hall : ∀ j, j < p.length → j ≠ k → M (p.getD j 0) = true → eqR c ll m R (p.getD k 0) (p.getD j 0) = true) :
    ∀ j, j ≤ p.length → ((p.take j).filter M).length + (if j ≤ k then 1 else 0) ≤ sameTo c ll m R p k j
  | 0, _ => by simp [sameTo]
  | j + 1, hj => by
    have ih := kept_same p M k hMk hall j (by omega)
    have es : sameTo c ll m R p k (j + 1) = if j ≠ k ∧ eqR c ll m R (p.getD k 0) (p.getD j 0) = true then sameTo c ll m R p k j + 1 else sameTo c ll m R p k j := rfl
    rw [take_succ_getD p 0 j (by omega), List.filter_append, List.length_append]
    by_cases hjk : j = k
    · subst hjk
      have es2 : sameTo c ll m R p j (j + 1) = sameTo c ll m R p j j := by rw [es]; exact if_neg (fun h => h.1 rfl)
      rw [es2, if_neg (show ¬ j + 1 ≤ j by omega), List.filter_cons, if_pos hMk]
      rw [if_pos (Nat.le_refl _)] at ih
      simp only [List.filter_nil, List.length_cons, List.length_nil]
      omega
    · have h1 : (if j + 1 ≤ k then 1 else 0) ≤ (if j ≤ k then 1 else 0) := by split <;> split <;> omega
      cases hM : M (p.getD j 0) with
      | true =>
        have es2 : sameTo c ll m R p k (j + 1) = sameTo c ll m R p k j + 1 := by rw [es]; exact if_pos ⟨hjk, hall j (by omega) hjk hM⟩
        rw [es2, List.filter_cons, if_pos hM]
        simp only [List.filter_nil, List.length_cons, List.length_nil]
        omega
      | false =>
        have es2 : sameTo c ll m R p k j ≤ sameTo c ll m R p k (j + 1) := by rw [es]; split <;> omega
        rw [List.filter_cons, if_neg (by rw [hM]; simp)]
        simp only [List.filter_nil, List.length_nil]
        omega
theorem kept_most (p : List Int) (M : Int → Bool) (hall : ∀ j k, j < p.length → k < p.length → j ≠ k → M (p.getD k 0) = true → M (p.getD j 0) = true → eqR c ll m R (p.getD k 0) (p.getD j 0) = true) : (p.filter M).length ≤ mostTo c ll m R p p.length := by
  by_cases hex : ∃ k, k < p.length ∧ M (p.getD k 0) = true
  · obtain ⟨k, hk, hM⟩ := hex
    have h1 := kept_same (c := c) (ll := ll) (m := m) (R := R) p M k hM (fun j hj hne hMj => hall j k hj hk hne hM hMj) p.length (Nat.le_refl _)
    rw [List.take_length] at h1
    have h2 := mostTo_ge (c := c) (ll := ll) (m := m) (R := R) p k p.length hk
    omega
  · have : p.filter M = [] := by
      rw [List.filter_eq_nil_iff]
      intro x hx hMx
      obtain ⟨j, hj, rfl⟩ := mem_getD'.mp hx
      exact hex ⟨j, hj, hMx⟩
    rw [this]; exact Nat.zero_le _
theorem filter_split {α : Type} (l : List α) (p : α → Bool) : l.length = (l.filter p).length + (l.filter fun x => !p x).length := by
  induction l with
  | nil => rfl
  | cons x t ih =>
    rw [List.filter_cons, List.filter_cons, List.length_cons, ih]
    cases h : p x with
    | true => simp; omega
    | false => simp; omega
theorem sum_le {α : Type} (l : List α) (f g : α → Nat) (h : ∀ x ∈ l, f x ≤ g x) : (l.map f).sum ≤ (l.map g).sum := by
  induction l with
  | nil => exact Nat.le_refl _
  | cons x t ih =>
    have h1 := h x (by simp)
    have h2 := ih fun y hy => h y (by simp [hy])
    simp only [List.map_cons, List.sum_cons]
    omega
theorem asc_one (l : List Nat) (hp : l.Pairwise fun a b => a < b) (h : ∀ a ∈ l, ∀ b ∈ l, a = b) : l.length ≤ 1 := by
  match l, hp, h with
  | [], _, _ => exact Nat.zero_le _
  | [x], _, _ => exact Nat.le_refl _
  | x :: y :: t, hp, h =>
    rw [List.pairwise_cons] at hp
    have h1 := hp.1 y (by simp)
    have h2 := h x (by simp) y (by simp)
    omega
/-- What was removed, class by class, is no more than what was removed. -/
theorem removed_le (hc : c ≤ 5) (hL : L < 2 ^ c) (M : Nat → Bool) : ((parL c ll m L).map fun r => (r.filter fun x => !M x.toNat).length).sum ≤ ((List.range ll.length).filter fun k => !M k).length := by
  rw [parL_map, List.map_map]
  have h1 : ((reps c ll m L).map ((fun r : List Int => (r.filter fun x => !M x.toNat).length) ∘ clsC c ll m (L : Int))).sum = ((reps c ll m L).map fun a => ((List.range ll.length).map fun k => if (agB c ll m (L : Int) a k && !M k) = true then 1 else 0).sum).sum := by
    congr 1
    refine List.map_congr_left fun a ha => ?_
    rw [sum_ind]
    have e : (clsC c ll m (L : Int) a).filter (fun x => !M x.toNat) = ((List.range ll.length).filter fun k => agB c ll m (L : Int) a k && !M k).map fun (k : Nat) => (k : Int) := by
      refine ascH_unique (r := fun x y => x < y) (fun x => by omega) (fun x y z => by omega) _ _ ((clsC_asc _ _).filter _) ?_ fun x => ?_
      · rw [List.pairwise_map]
        exact (List.pairwise_lt_range.filter _).imp fun {x y} h => by omega
      · rw [List.mem_filter, rep_mem hc hL ha, List.mem_map]
        constructor
        · rintro ⟨⟨k, k1, rfl, k3⟩, h⟩
          exact ⟨k, by rw [List.mem_filter, List.mem_range, Bool.and_eq_true]; exact ⟨k1, k3, h⟩, rfl⟩
        · rintro ⟨k, hk, rfl⟩
          rw [List.mem_filter, List.mem_range, Bool.and_eq_true] at hk
          exact ⟨⟨k, hk.1, rfl, hk.2.1⟩, hk.2.2⟩
    show ((clsC c ll m (L : Int) a).filter fun x => !M x.toNat).length = _
    rw [e, List.length_map]
  rw [h1, sum_swap, ← sum_ind]
  refine sum_le _ _ _ fun k hk => ?_
  rw [sum_ind]
  cases hM : M k with
  | true => simp
  | false =>
    rw [if_pos (by simp)]
    refine asc_one _ (reps_asc.filter _) fun a ha b hb => ?_
    rw [List.mem_filter, Bool.and_eq_true] at ha hb
    obtain ⟨a1, a2, -⟩ := reps_mem.1 ha.1
    obtain ⟨b1, b2, -⟩ := reps_mem.1 hb.1
    have hab := agB_trans hc hL ha.2.1 (agB_symm hc hL hb.2.1)
    rcases Nat.lt_trichotomy a b with hlt | he | hlt
    · unfold repB at b2
      rw [Bool.not_eq_true', List.any_eq_false] at b2
      exact (b2 a (List.mem_range.2 hlt) hab).elim
    · exact he
    · unfold repB at a2
      rw [Bool.not_eq_true', List.any_eq_false] at a2
      exact (a2 b (List.mem_range.2 hlt) (agB_symm hc hL hab)).elim
/-- Rows are kept without a violation only if as many are removed as are stated. -/
theorem rem_least (hc : c ≤ 5) (hL : L < 2 ^ c) (hR : R < c) (M : Nat → Bool) (hM : ∀ i k, i < k → k < ll.length → M i = true → M k = true → agB c ll m (L : Int) i k = true → agB c ll m ((2 ^ R : Nat) : Int) i k = true) :
    remTo c ll m R (parL c ll m L) (parL c ll m L).length ≤ (((List.range ll.length).filter fun k => !M k).length : Int) := by
  have hP : 2 ^ R < 2 ^ c := Nat.pow_lt_pow_right (by omega) hR
  rw [remTo_sum _ _ (Nat.le_refl _), List.take_length]
  refine Int.ofNat_le.2 (Nat.le_trans (sum_le _ _ _ fun r hr => ?_) (removed_le (m := m) hc hL M))
  obtain ⟨j, hj, rfl⟩ := List.mem_iff_getElem.1 hr
  obtain ⟨e, hm⟩ := parL_get hj
  rw [List.getD_eq_getElem?_getD, List.getElem?_eq_getElem hj] at e
  simp only [Option.getD_some] at e
  have hsp := filter_split ((parL c ll m L)[j]) (fun x => M x.toNat)
  have hk := kept_most (c := c) (ll := ll) (m := m) (R := R) ((parL c ll m L)[j]) (fun x => M x.toNat) (fun t s ht hs hne hMs hMt => by
    rw [e] at ht hs hMs hMt ⊢
    have hmt : (clsC c ll m (L : Int) ((reps c ll m L).getD j 0)).getD t 0 ∈ clsC c ll m (L : Int) ((reps c ll m L).getD j 0) := by rw [← get_getD _ t ht]; exact List.getElem_mem _
    have hms : (clsC c ll m (L : Int) ((reps c ll m L).getD j 0)).getD s 0 ∈ clsC c ll m (L : Int) ((reps c ll m L).getD j 0) := by rw [← get_getD _ s hs]; exact List.getElem_mem _
    obtain ⟨y, y1, y2, y3⟩ := (rep_mem hc hL hm).1 hmt
    obtain ⟨x, x1, x2, x3⟩ := (rep_mem hc hL hm).1 hms
    have hxy : x ≠ y := by
      intro he
      have hp := clsC_asc (c := c) (ll := ll) (m := m) ((reps c ll m L).getD j 0) (L : Int)
      have hpg := List.pairwise_iff_getElem.1 hp
      rcases Nat.lt_trichotomy s t with hlt | he2 | hlt
      · have := hpg s t hs ht hlt
        rw [get_getD _ s hs, get_getD _ t ht, x2, y2] at this
        omega
      · exact hne he2.symm
      · have := hpg t s ht hs hlt
        rw [get_getD _ s hs, get_getD _ t ht, x2, y2] at this
        omega
    rw [x2] at hMs ⊢
    rw [y2] at hMt ⊢
    simp only [show ∀ n : Nat, ((n : Int)).toNat = n from fun n => rfl] at hMs hMt
    have hag := agB_trans hc hL (agB_symm hc hL x3) y3
    have hrr : agB c ll m ((2 ^ R : Nat) : Int) x y = true := by
      rcases Nat.lt_trichotomy x y with hlt | he | hlt
      · exact hM x y hlt y1 hMs hMt hag
      · exact (hxy he).elim
      · exact agB_symm hc hP (hM y x hlt x1 hMt hMs (agB_symm hc hL hag))
    rw [agB_one hc hR] at hrr
    exact hrr)
  show ((parL c ll m L)[j]).length - mostTo c ll m R ((parL c ll m L)[j]) ((parL c ll m L)[j]).length ≤ _
  omega
theorem same_miss (p : List Int) (k t : Nat) (htk : t ≠ k) (h : eqR c ll m R (p.getD k 0) (p.getD t 0) = false) : ∀ j, t < j → sameTo c ll m R p k j + (if j ≤ k then 0 else 1) ≤ j
  | 0, hj => absurd hj (Nat.not_lt_zero _)
  | j + 1, hj => by
    have es : sameTo c ll m R p k (j + 1) = if j ≠ k ∧ eqR c ll m R (p.getD k 0) (p.getD j 0) = true then sameTo c ll m R p k j + 1 else sameTo c ll m R p k j := rfl
    by_cases htj : t = j
    · subst htj
      have h0 := sameTo_lt (c := c) (ll := ll) (m := m) (R := R) p k t
      have es2 : sameTo c ll m R p k (t + 1) = sameTo c ll m R p k t := by rw [es]; exact if_neg (fun g => by rw [h] at g; cases g.2)
      rw [es2]
      split at h0 <;> split <;> omega
    · have ih := same_miss p k t htk h j (by omega)
      by_cases hjk : j = k
      · subst hjk
        have es2 : sameTo c ll m R p j (j + 1) = sameTo c ll m R p j j := by rw [es]; exact if_neg (fun g => g.1 rfl)
        rw [es2, if_neg (by omega)]
        rw [if_pos (Nat.le_refl _)] at ih
        omega
      · have es2 : sameTo c ll m R p k (j + 1) ≤ sameTo c ll m R p k j + 1 := by rw [es]; split <;> omega
        split at ih <;> split <;> omega
theorem sum_zero {α : Type} (l : List α) (f : α → Nat) (h : (l.map f).sum = 0) : ∀ x ∈ l, f x = 0 := by
  induction l with
  | nil => intro x hx; cases hx
  | cons y t ih =>
    simp only [List.map_cons, List.sum_cons] at h
    intro x hx
    rcases List.mem_cons.1 hx with rfl | hx
    · omega
    · exact ih (by omega) x hx
theorem remTo_nat (P : List (List Int)) : 0 ≤ remTo c ll m R P P.length := by
  rw [remTo_sum _ _ (Nat.le_refl _)]; omega
/-- No rows have to be removed just if it holds. -/
theorem rem_zero (hc : c ≤ 5) (hL : L < 2 ^ c) (hR : R < c) : remTo c ll m R (parL c ll m L) (parL c ll m L).length = 0 ↔ HoldsAll c ll m L R := by
  have hP : 2 ^ R < 2 ^ c := Nat.pow_lt_pow_right (by omega) hR
  constructor
  · intro h0 i k hik hk hag
    rw [remTo_sum _ _ (Nat.le_refl _), List.take_length] at h0
    have hz := sum_zero _ _ (Int.ofNat.inj h0)
    -- the class of both rows
    have h40 : ∃ a, a ∈ reps c ll m L ∧ agB c ll m (L : Int) a i = true := by
      cases hr : repB c ll m (L : Int) i with
      | true => exact ⟨i, reps_mem.2 ⟨by omega, hr, (clsC_two (by omega)).2 ⟨k, hik, hk, hag⟩⟩, agB_trans hc hL hag (agB_symm hc hL hag)⟩
      | false =>
        unfold repB at hr
        rw [Bool.not_eq_false', List.any_eq_true] at hr
        obtain ⟨b, hb, hbi⟩ := hr
        obtain ⟨a, g1, g2, g3⟩ := rep_least hc hL i (b + 1) b (by omega) (List.mem_range.1 hb) hbi
        exact ⟨a, reps_mem.2 ⟨by omega, g2, (clsC_two (by omega)).2 ⟨i, g1, by omega, g3⟩⟩, g3⟩
    obtain ⟨a, ham, hai⟩ := h40
    obtain ⟨a1, a2, a3⟩ := reps_mem.1 ham
    have hrm : clsC c ll m (L : Int) a ∈ parL c ll m L := by rw [parL_map]; exact List.mem_map.2 ⟨a, ham, rfl⟩
    have hmost := hz _ hrm
    have hml := mostTo_len (c := c) (ll := ll) (m := m) (R := R) (clsC c ll m (L : Int) a)
    rcases mostTo_is (c := c) (ll := ll) (m := m) (R := R) (clsC c ll m (L : Int) a) (clsC c ll m (L : Int) a).length with ⟨-, g0⟩ | ⟨s, hs, g⟩
    · omega
    · have hall : ∀ t, t < (clsC c ll m (L : Int) a).length → t ≠ s → eqR c ll m R ((clsC c ll m (L : Int) a).getD s 0) ((clsC c ll m (L : Int) a).getD t 0) = true := by
        intro t ht hts
        cases he : eqR c ll m R ((clsC c ll m (L : Int) a).getD s 0) ((clsC c ll m (L : Int) a).getD t 0) with
        | true => rfl
        | false =>
          have hmi := same_miss (c := c) (ll := ll) (m := m) (R := R) (clsC c ll m (L : Int) a) s t hts he _ ht
          rw [if_neg (by omega)] at hmi
          omega
      have hms : (clsC c ll m (L : Int) a).getD s 0 ∈ clsC c ll m (L : Int) a := by rw [← get_getD _ s hs]; exact List.getElem_mem _
      obtain ⟨x, x1, x2, x3⟩ := (rep_mem hc hL ham).1 hms
      have hto : ∀ y : Nat, y < ll.length → agB c ll m (L : Int) a y = true → y ≠ x → agB c ll m ((2 ^ R : Nat) : Int) x y = true := by
        intro y hy hay hyx
        obtain ⟨t, ht, he⟩ := mem_getD'.mp ((rep_mem hc hL ham).2 ⟨y, hy, rfl, hay⟩)
        have hts : t ≠ s := fun e => by rw [e, x2] at he; omega
        have := hall t ht hts
        rw [x2, ← he] at this
        rw [agB_one hc hR]
        exact this
      have hak := agB_trans hc hL hai hag
      by_cases hix : i = x
      · subst hix
        exact hto k hk hak (by omega)
      · by_cases hkx : k = x
        · subst hkx
          exact agB_symm hc hP (hto i (by omega) hai hix)
        · exact agB_trans hc hP (agB_symm hc hP (hto i (by omega) hai hix)) (hto k hk hak hkx)
  · intro h
    have h1 := rem_least (ll := ll) (m := m) hc hL hR (fun _ => true) (fun i k hik hk _ _ => h i k hik hk)
    have h2 := remTo_nat (c := c) (ll := ll) (m := m) (R := R) (parL c ll m L)
    have h3 : ((List.range ll.length).filter fun _ => !true) = [] := by simp
    rw [h3] at h1
    simp only [List.length_nil] at h1
    omega
/-- A row stays. -/
theorem rem_lt (hc : c ≤ 5) (hL : L < 2 ^ c) (h : 0 < remTo c ll m R (parL c ll m L) (parL c ll m L).length) : remTo c ll m R (parL c ll m L) (parL c ll m L).length < (ll.length : Int) := by
  have he := parL_error (ll := ll) (m := m) hc hL
  rw [errTo_sum _ _ (Nat.le_refl _), List.take_length] at he
  rw [remTo_sum _ _ (Nat.le_refl _), List.take_length] at h ⊢
  have h1 := sum_le (parL c ll m L) (fun r => r.length - mostTo c ll m R r r.length) (fun r => r.length - 1) (fun r hr => by
    rcases mostTo_is (c := c) (ll := ll) (m := m) (R := R) r r.length with ⟨-, g0⟩ | ⟨s, hs, g⟩
    · omega
    · have := (sameTo_le c ll m R r s r.length).1
      omega)
  have h2 : (nonreps c ll m L).length + 1 ≤ ll.length ∨ ll.length = 0 := by
    by_cases h0 : ll.length = 0
    · exact .inr h0
    · left
      have hsp := filter_split (List.range ll.length) (fun k => !repB c ll m (L : Int) k)
      rw [List.length_range] at hsp
      have h3 : 0 ∈ (List.range ll.length).filter fun x => !(!repB c ll m (L : Int) x) := by
        rw [List.mem_filter, List.mem_range]
        exact ⟨by omega, by unfold repB; simp⟩
      have h4 : 0 < ((List.range ll.length).filter fun x => !(!repB c ll m (L : Int) x)).length := List.length_pos_of_mem h3
      unfold nonreps
      omega
  have h3 : (nonreps c ll m L).length ≤ ll.length := by unfold nonreps; exact Nat.le_trans (List.length_filter_le _ _) (by simp)
  omega
end
end Go.Proofs.YtnbjcelfdppkcadGreat
namespace Go.Proofs.YtnbjcelfdppkcadGreat
open Go.RowKit

/-- The sets below n that g takes, in order. -/
def brdTo (g : Nat → Bool) : Nat → List Int
  | 0 => []
  | x + 1 => if g x = true then brdTo g x ++ [(x : Int)] else brdTo g x
theorem brdTo_mem (g : Nat → Bool) (y : Int) : ∀ n, (y ∈ brdTo g n ↔ ∃ x, x < n ∧ g x = true ∧ y = (x : Int))
  | 0 => by simp [brdTo]
  | n + 1 => by
    have ih := brdTo_mem g y n
    unfold brdTo
    constructor
    · intro h
      split at h
      · rename_i hg
        rcases List.mem_append.1 h with h | h
        · obtain ⟨x, x1, x2, x3⟩ := ih.1 h
          exact ⟨x, by omega, x2, x3⟩
        · rw [List.mem_singleton] at h
          exact ⟨n, by omega, hg, h⟩
      · obtain ⟨x, x1, x2, x3⟩ := ih.1 h
        exact ⟨x, by omega, x2, x3⟩
    · rintro ⟨x, x1, x2, x3⟩
      by_cases e : x = n
      · subst e
        rw [if_pos x2]
        exact List.mem_append.2 (.inr (by rw [x3]; exact List.mem_singleton.2 rfl))
      · have := ih.2 ⟨x, by omega, x2, x3⟩
        split
        · exact List.mem_append.2 (.inl this)
        · exact this
theorem brdTo_len (g : Nat → Bool) : ∀ n, (brdTo g n).length ≤ n
  | 0 => by simp [brdTo]
  | n + 1 => by
    have := brdTo_len g n
    unfold brdTo
    split
    · rw [List.length_append, List.length_singleton]; omega
    · omega
theorem brdTo_ok (g : Nat → Bool) {n : Nat} (hn : n ≤ 32) : setsOk (brdTo g n) = true := by
  unfold setsOk
  rw [Bool.and_eq_true, decide_eq_true_iff, List.all_eq_true]
  refine ⟨fun y hy => ?_, by have := brdTo_len g n; omega⟩
  obtain ⟨x, x1, -, rfl⟩ := (brdTo_mem g y n).1 hy
  have h : ∀ x : Fin 32, valB ((x.val : Nat) : Int) = true := by decide +kernel
  exact h ⟨x, by omega⟩
theorem and_sub (a b : Nat) (ha : a < 32) (hb : b < 32) : (bits .and .i64 (a : Int) (b : Int) == (a : Int)) = subN a b := by
  have h : ∀ a b : Fin 32, (bits .and .i64 ((a.val : Nat) : Int) ((b.val : Nat) : Int) == ((a.val : Nat) : Int)) = subN a.val b.val := by decide +kernel
  exact h ⟨a, ha⟩ ⟨b, hb⟩
theorem and_sub' (a b : Nat) (ha : a < 32) (hb : b < 32) : (bits .and .i64 (b : Int) (a : Int) == (a : Int)) = subN a b := by
  have h : ∀ a b : Fin 32, (bits .and .i64 ((b.val : Nat) : Int) ((a.val : Nat) : Int) == ((a.val : Nat) : Int)) = subN a.val b.val := by decide +kernel
  exact h ⟨a, ha⟩ ⟨b, hb⟩
/-- The members of the greatest sets of a family. -/
theorem maxS_brd (g : Nat → Bool) {n : Nat} (hn : n ≤ 32) (y : Int) : y ∈ maxS (brdTo g n) ↔ ∃ x, x < n ∧ g x = true ∧ y = (x : Int) ∧ ∀ z, z < n → g z = true → subN x z = true → z = x := by
  unfold maxS
  rw [if_pos (brdTo_ok g hn), mxTo_mem]
  constructor
  · rintro ⟨t, ht, rfl, hk⟩
    obtain ⟨x, x1, x2, x3⟩ := (brdTo_mem g _ n).1 (mem_getD.2 ⟨t, ht, rfl⟩)
    refine ⟨x, x1, x2, x3, fun z hz hg hs => ?_⟩
    obtain ⟨s, hsl, e⟩ := mem_getD.1 ((brdTo_mem g (z : Int) n).2 ⟨z, hz, hg, rfl⟩)
    have h := (topK_iff _ _ _).1 hk s hsl
    rw [← e, x3, Bool.or_eq_true, beq_iff_eq] at h
    rcases h with h | h
    · omega
    · have hb := and_sub x z (by omega) (by omega)
      rw [hs, beq_iff_eq] at hb
      rw [hb] at h
      simp at h
  · rintro ⟨x, x1, x2, rfl, h⟩
    obtain ⟨s, hsl, e⟩ := mem_getD.1 ((brdTo_mem g (x : Int) n).2 ⟨x, x1, x2, rfl⟩)
    refine ⟨s, hsl, e, (topK_iff _ _ _).2 fun t ht => ?_⟩
    obtain ⟨z, z1, z2, z3⟩ := (brdTo_mem g _ n).1 (mem_getD.2 ⟨t, ht, rfl⟩)
    rw [z3, Bool.or_eq_true, beq_iff_eq]
    by_cases hs : subN x z = true
    · exact .inl (by rw [h z z1 z2 hs])
    · have hb := and_sub x z (by omega) (by omega)
      refine .inr ?_
      rw [bne, hb]
      simpa using hs
/-- The members of the smallest sets of a family. -/
theorem minS_brd (g : Nat → Bool) {n : Nat} (hn : n ≤ 32) (y : Int) : y ∈ minS (brdTo g n) ↔ ∃ x, x < n ∧ g x = true ∧ y = (x : Int) ∧ ∀ z, z < n → g z = true → subN z x = true → z = x := by
  unfold minS
  rw [if_pos (brdTo_ok g hn), mnTo_mem]
  constructor
  · rintro ⟨t, ht, rfl, hk⟩
    obtain ⟨x, x1, x2, x3⟩ := (brdTo_mem g _ n).1 (mem_getD.2 ⟨t, ht, rfl⟩)
    refine ⟨x, x1, x2, x3, fun z hz hg hs => ?_⟩
    obtain ⟨s, hsl, e⟩ := mem_getD.1 ((brdTo_mem g (z : Int) n).2 ⟨z, hz, hg, rfl⟩)
    have h := (lowK_iff _ _ _).1 hk s hsl
    rw [← e, x3, Bool.or_eq_true, beq_iff_eq] at h
    rcases h with h | h
    · omega
    · have hb := and_sub' z x (by omega) (by omega)
      rw [hs, beq_iff_eq] at hb
      rw [hb] at h
      simp at h
  · rintro ⟨x, x1, x2, rfl, h⟩
    obtain ⟨s, hsl, e⟩ := mem_getD.1 ((brdTo_mem g (x : Int) n).2 ⟨x, x1, x2, rfl⟩)
    refine ⟨s, hsl, e, (lowK_iff _ _ _).2 fun t ht => ?_⟩
    obtain ⟨z, z1, z2, z3⟩ := (brdTo_mem g _ n).1 (mem_getD.2 ⟨t, ht, rfl⟩)
    rw [z3, Bool.or_eq_true, beq_iff_eq]
    by_cases hs : subN z x = true
    · exact .inl (by rw [h z z1 z2 hs])
    · have hb := and_sub' z x (by omega) (by omega)
      refine .inr ?_
      rw [bne, hb]
      simpa using hs
/-- A set without column R is in one of the border just if its dependency does not hold. -/
theorem border_iff {C R : Nat} (hC : C ≤ 5) (hR : R < C) {f : Nat → Prop} (hu : UpN (2 ^ C) f) {g : Nat → Bool} (hg : ∀ x, x < 2 ^ C → (g x = true ↔ ¬ f x ∧ bitB x R = false)) {x : Nat} (hx : x < 2 ^ C) (hr : bitB x R = false) :
    (∃ y : Nat, y < 2 ^ C ∧ (y : Int) ∈ maxS (brdTo g (2 ^ C)) ∧ subN x y = true) ↔ ¬ f x := by
  have h32 : 2 ^ C ≤ 32 := Nat.le_trans (Nat.pow_le_pow_right (by omega) hC) (by decide)
  constructor
  · rintro ⟨y, hy, hm, hs⟩ hf
    obtain ⟨z, z1, z2, z3, -⟩ := (maxS_brd g h32 _).1 hm
    obtain rfl : y = z := by omega
    exact ((hg y z1).1 z2).1 (hu x y hx z1 hs hf)
  · intro hf
    obtain ⟨y, y1, y2, y3⟩ := most_ex hC hR 32 x (by omega) hx hr hf
    obtain ⟨m1, m2, m3⟩ := (most_iff hC hu hR y1).1 y3
    exact ⟨y, y1, (maxS_brd g h32 _).2 ⟨y, y1, (hg y y1).2 ⟨m1, m2⟩, rfl, fun z hz hgz hs => by
      obtain ⟨g1, g2⟩ := (hg z hz).1 hgz
      exact m3 z hz g1 g2 hs⟩, y2⟩
/-- What a list of dependencies is built like: for each column in order, the sets of ps that f takes. -/
def mdIn (f : Int → Nat → Bool) (ps : List Int) (r : Nat) (l0 : List (Int × Int)) : Nat → List (Int × Int)
  | 0 => l0
  | i + 1 => if f (ps.getD i 0) r = true then mdIn f ps r l0 i ++ [(ps.getD i 0, (r : Int))] else mdIn f ps r l0 i
def mdOut (f : Int → Nat → Bool) (ps : List Int) : Nat → List (Int × Int)
  | 0 => []
  | r + 1 => mdIn f ps r (mdOut f ps r) ps.length
theorem mdIn_mem (f : Int → Nat → Bool) (ps : List Int) (r : Nat) (l0 : List (Int × Int)) (d : Int × Int) : ∀ n, (d ∈ mdIn f ps r l0 n ↔ d ∈ l0 ∨ ∃ t, t < n ∧ f (ps.getD t 0) r = true ∧ d = (ps.getD t 0, (r : Int)))
  | 0 => by simp [mdIn]
  | n + 1 => by
    have ih := mdIn_mem f ps r l0 d n
    unfold mdIn
    constructor
    · intro h
      split at h
      · rename_i hf
        rcases List.mem_append.1 h with h | h
        · rcases ih.1 h with h | ⟨t, t1, t2, t3⟩
          · exact .inl h
          · exact .inr ⟨t, by omega, t2, t3⟩
        · rw [List.mem_singleton] at h
          exact .inr ⟨n, by omega, hf, h⟩
      · rcases ih.1 h with h | ⟨t, t1, t2, t3⟩
        · exact .inl h
        · exact .inr ⟨t, by omega, t2, t3⟩
    · intro h
      have key : (d ∈ l0 ∨ ∃ t, t < n ∧ f (ps.getD t 0) r = true ∧ d = (ps.getD t 0, (r : Int))) ∨ (f (ps.getD n 0) r = true ∧ d = (ps.getD n 0, (r : Int))) := by
        rcases h with h | ⟨t, t1, t2, t3⟩
        · exact .inl (.inl h)
        · by_cases e : t = n
          · subst e; exact .inr ⟨t2, t3⟩
          · exact .inl (.inr ⟨t, by omega, t2, t3⟩)
      rcases key with h | ⟨h, h'⟩
      · split
        · exact List.mem_append.2 (.inl (ih.2 h))
        · exact ih.2 h
      · rw [if_pos h]
        exact List.mem_append.2 (.inr (List.mem_singleton.2 h'))
theorem mdOut_mem (f : Int → Nat → Bool) (ps : List Int) (d : Int × Int) : ∀ C, (d ∈ mdOut f ps C ↔ ∃ r, r < C ∧ ∃ S, S ∈ ps ∧ f S r = true ∧ d = (S, (r : Int)))
  | 0 => by simp [mdOut]
  | C + 1 => by
    have ih := mdOut_mem f ps d C
    unfold mdOut
    rw [mdIn_mem, ih]
    constructor
    · rintro (⟨r, r1, S, r2, r3, r4⟩ | ⟨t, t1, t2, t3⟩)
      · exact ⟨r, by omega, S, r2, r3, r4⟩
      · exact ⟨C, by omega, _, mem_getD.2 ⟨t, t1, rfl⟩, t2, t3⟩
    · rintro ⟨r, r1, S, r2, r3, r4⟩
      by_cases e : r = C
      · subst e
        obtain ⟨t, t1, rfl⟩ := mem_getD.1 r2
        exact .inr ⟨t, t1, r3, r4⟩
      · exact .inl ⟨r, by omega, S, r2, r3, r4⟩
theorem mdIn_same {f f' : Int → Nat → Bool} {ps : List Int} {r : Nat} (l0 : List (Int × Int)) (h : ∀ S ∈ ps, f S r = f' S r) : ∀ n, n ≤ ps.length → mdIn f ps r l0 n = mdIn f' ps r l0 n
  | 0, _ => rfl
  | n + 1, hn => by
    unfold mdIn
    rw [mdIn_same l0 h n (by omega), h _ (mem_getD.2 ⟨n, by omega, rfl⟩)]
theorem mdOut_same {f f' : Int → Nat → Bool} {ps : List Int} : ∀ C, (∀ S ∈ ps, ∀ r, r < C → f S r = f' S r) → mdOut f ps C = mdOut f' ps C
  | 0, _ => rfl
  | C + 1, h => by
    unfold mdOut
    rw [mdOut_same C (fun S hS r hr => h S hS r (by omega)), mdIn_same _ (fun S hS => h S hS C (by omega)) _ (Nat.le_refl _)]
theorem mdIn_len (f : Int → Nat → Bool) (ps : List Int) (r : Nat) (l0 : List (Int × Int)) : ∀ n, (mdIn f ps r l0 n).length ≤ l0.length + n
  | 0 => by simp [mdIn]
  | n + 1 => by
    have := mdIn_len f ps r l0 n
    unfold mdIn
    split
    · rw [List.length_append, List.length_singleton]; omega
    · omega
theorem mdOut_len (f : Int → Nat → Bool) (ps : List Int) : ∀ C, (mdOut f ps C).length ≤ C * ps.length
  | 0 => by simp [mdOut]
  | C + 1 => by
    have h1 := mdOut_len f ps C
    have h2 := mdIn_len f ps C (mdOut f ps C) ps.length
    unfold mdOut
    rw [Nat.succ_mul]
    omega
end Go.Proofs.YtnbjcelfdppkcadGreat
namespace Go.Proofs.YtnbjcelfdppkcadGreat
open Go.RowKit

/-- Whether no pair of rows violates it. -/
noncomputable def h7 (C : Nat) (ll : List (List Int)) (m : Int) (L R : Nat) : Bool := decide ((pairI (badB C ll m L R) ll.length).1 < 0)
/-- Minimal. -/
noncomputable def minN (C : Nat) (ll : List (List Int)) (m : Int) (L R : Nat) : Bool := !bitB L R && h7 C ll m L R && (List.range C).all (fun i => !(bitB L i && h7 C ll m (L - 2 ^ i) R))
theorem h7_iff {C : Nat} {ll : List (List Int)} {m : Int} {L R : Nat} (hC : C ≤ 5) (hR : R < C) : h7 C ll m L R = true ↔ HoldsAll C ll m L R := by
  unfold h7
  rw [decide_eq_true_iff]
  exact pairI_holds hC hR
theorem two5 {C : Nat} (hC : C ≤ 5) : 2 ^ C ≤ 32 := Nat.le_trans (Nat.pow_le_pow_right (by omega) hC) (by decide)
theorem minN_iff {C : Nat} {ll : List (List Int)} {m : Int} {L R : Nat} (hC : C ≤ 5) (hR : R < C) (hL : L < 2 ^ C) : minN C ll m L R = true ↔ bitB L R = false ∧ LeastN (fun S => HoldsAll C ll m S R) L := by
  have h32 := two5 hC
  unfold minN LeastN
  rw [Bool.and_eq_true, Bool.and_eq_true, Bool.not_eq_true', h7_iff hC hR, List.all_eq_true]
  constructor
  · rintro ⟨⟨h1, h2⟩, h3⟩
    refine ⟨h1, h2, fun j hj hb hf => ?_⟩
    have hjC := bit_lt ⟨C, by omega⟩ ⟨L, by omega⟩ ⟨j, hj⟩ hL hb
    have h := h3 j (List.mem_range.2 hjC)
    rw [hb, (h7_iff hC hR).2 hf] at h
    cases h
  · rintro ⟨h1, h2, h3⟩
    refine ⟨⟨h1, h2⟩, fun j hj => ?_⟩
    rw [Bool.not_eq_true', Bool.and_eq_false_iff]
    cases hb : bitB L j with
    | false => exact .inl rfl
    | true =>
      refine .inr (Bool.eq_false_iff.2 fun h => ?_)
      exact h3 j (by have := List.mem_range.1 hj; omega) hb ((h7_iff hC hR).1 h)
theorem parts_fin : ∀ (C : Fin 6) (x : Fin 32), ((x.val : Nat) : Int) ∈ parts ((C.val : Nat) : Int) ↔ x.val < 2 ^ C.val := by decide +kernel
theorem parts_nat : ∀ C : Fin 6, ∀ S ∈ parts ((C.val : Nat) : Int), 0 ≤ S ∧ S < 32 := by decide +kernel
theorem parts_mem {C : Nat} (hC : C ≤ 5) (S : Int) : S ∈ parts (C : Int) ↔ ∃ x : Nat, x < 2 ^ C ∧ S = (x : Int) := by
  have h32 := two5 hC
  constructor
  · intro h
    obtain ⟨s0, s1⟩ := parts_nat ⟨C, by omega⟩ S h
    obtain ⟨x, rfl⟩ : ∃ x : Nat, S = (x : Int) := ⟨S.toNat, by omega⟩
    exact ⟨x, (parts_fin ⟨C, by omega⟩ ⟨x, by omega⟩).1 h, rfl⟩
  · rintro ⟨x, hx, rfl⟩
    exact (parts_fin ⟨C, by omega⟩ ⟨x, by omega⟩).2 hx
/-- A part has no column that the whole has not. -/
theorem sub_bit {C y x R : Nat} (hC : C ≤ 5) (hR : R < C) (hy : y < 2 ^ C) (hx : x < 2 ^ C) (hs : subN y x = true) (hb : bitB x R = false) : bitB y R = false := by
  have h32 := two5 hC
  refine Bool.eq_false_iff.2 fun h => ?_
  have := (subN_bit ⟨y, by omega⟩ ⟨x, by omega⟩).1 hs ⟨R, by omega⟩ h
  simp only at this
  rw [hb] at this
  cases this
/-- Every set without column R for which the dependency holds covers the left side of a minimal one, and no other does. -/
theorem cover_iff {C : Nat} {ll : List (List Int)} {m : Int} {R x : Nat} (hC : C ≤ 5) (hR : R < C) (hx : x < 2 ^ C) (hr : bitB x R = false) :
    (∃ y : Nat, y < 2 ^ C ∧ ((y : Int), (R : Int)) ∈ mdOut (fun S r => minN C ll m S.toNat r) (parts (C : Int)) C ∧ subN y x = true) ↔ HoldsAll C ll m x R := by
  have h32 := two5 hC
  constructor
  · rintro ⟨y, hy, hm, hs⟩
    obtain ⟨r, r1, S, r2, r3, r4⟩ := (mdOut_mem _ _ _ _).1 hm
    obtain ⟨e1, e2⟩ := Prod.mk.inj r4
    obtain rfl : R = r := by omega
    subst e1
    have h := ((minN_iff hC hR (by simpa using hy)).1 r3).2.1
    exact holds_up hC y x hy hx hs (by simpa using h)
  · intro h
    obtain ⟨y, y1, y2, y3, y4⟩ := least_ex (f := fun S => HoldsAll C ll m S R) x (by omega) h
    have hy : y < 2 ^ C := by omega
    exact ⟨y, hy, (mdOut_mem _ _ _ _).2 ⟨R, hR, (y : Int), (parts_mem hC _).2 ⟨y, hy, rfl⟩, (minN_iff hC hR (by simpa using hy)).2 ⟨sub_bit hC hR (by simpa using hy) hx (by simpa using y3) hr, by simpa using y4⟩, rfl⟩, y3⟩
/-- Those of a list that g takes, in its order. -/
def fltTo (g : Int → Bool) (ps : List Int) : Nat → List Int
  | 0 => []
  | i + 1 => if g (ps.getD i 0) = true then fltTo g ps i ++ [ps.getD i 0] else fltTo g ps i
theorem fltTo_mem (g : Int → Bool) (ps : List Int) (y : Int) : ∀ n, (y ∈ fltTo g ps n ↔ ∃ t, t < n ∧ g (ps.getD t 0) = true ∧ y = ps.getD t 0)
  | 0 => by simp [fltTo]
  | n + 1 => by
    have ih := fltTo_mem g ps y n
    unfold fltTo
    constructor
    · intro h
      split at h
      · rename_i hf
        rcases List.mem_append.1 h with h | h
        · obtain ⟨t, t1, t2, t3⟩ := ih.1 h
          exact ⟨t, by omega, t2, t3⟩
        · rw [List.mem_singleton] at h
          exact ⟨n, by omega, hf, h⟩
      · obtain ⟨t, t1, t2, t3⟩ := ih.1 h
        exact ⟨t, by omega, t2, t3⟩
    · rintro ⟨t, t1, t2, t3⟩
      by_cases e : t = n
      · subst e
        rw [if_pos t2]
        exact List.mem_append.2 (.inr (List.mem_singleton.2 t3))
      · have := ih.2 ⟨t, by omega, t2, t3⟩
        split
        · exact List.mem_append.2 (.inl this)
        · exact this
theorem fltTo_len (g : Int → Bool) (ps : List Int) : ∀ n, (fltTo g ps n).length ≤ n
  | 0 => by simp [fltTo]
  | n + 1 => by
    have := fltTo_len g ps n
    unfold fltTo
    split
    · rw [List.length_append, List.length_singleton]; omega
    · omega
/-- The smallest sets of a list of small sets. -/
theorem minS_mem {l : List Int} (hl : setsOk l = true) (hb : ∀ y ∈ l, ∃ x : Nat, x < 32 ∧ y = (x : Int)) (x : Nat) : (x : Int) ∈ minS l ↔ (x : Int) ∈ l ∧ ∀ z : Nat, (z : Int) ∈ l → subN z x = true → z = x := by
  unfold minS
  rw [if_pos hl, mnTo_mem]
  constructor
  · rintro ⟨t, ht, e, hk⟩
    have hm : (x : Int) ∈ l := mem_getD.2 ⟨t, ht, e⟩
    obtain ⟨x', x1, x2⟩ := hb _ hm
    refine ⟨hm, fun z hz hs => ?_⟩
    obtain ⟨z', z1, z2⟩ := hb _ hz
    obtain ⟨s, hsl, e'⟩ := mem_getD.1 hz
    have h := (lowK_iff _ _ _).1 hk s hsl
    rw [← e', Bool.or_eq_true, beq_iff_eq] at h
    rcases h with h | h
    · omega
    · have hb := and_sub' z x (by omega) (by omega)
      rw [hs, beq_iff_eq] at hb
      rw [hb] at h
      simp at h
  · rintro ⟨hm, h⟩
    obtain ⟨x', x1, x2⟩ := hb _ hm
    obtain ⟨s, hsl, e⟩ := mem_getD.1 hm
    refine ⟨s, hsl, e, (lowK_iff _ _ _).2 fun t ht => ?_⟩
    have hz : l.getD t 0 ∈ l := mem_getD.2 ⟨t, ht, rfl⟩
    obtain ⟨z, z1, z2⟩ := hb _ hz
    rw [z2] at hz ⊢
    rw [Bool.or_eq_true, beq_iff_eq]
    by_cases hs : subN z x = true
    · exact .inl (by rw [h z hz hs])
    · have hb := and_sub' z x (by omega) (by omega)
      refine .inr ?_
      rw [bne, hb]
      simpa using hs
/-- A family's smallest sets without column R are the minimal left sides, if the family is what holds. -/
theorem low_min {C : Nat} {ll : List (List Int)} {m : Int} {R : Nat} (hC : C ≤ 5) (hR : R < C) {g : Int → Bool} (hg : ∀ x : Nat, x < 2 ^ C → (g (x : Int) = true ↔ bitB x R = false ∧ HoldsAll C ll m x R)) {x : Nat} (hx : x < 2 ^ C) :
    (x : Int) ∈ minS (fltTo g (parts (C : Int)) (parts (C : Int)).length) ↔ minN C ll m x R = true := by
  have h32 := two5 hC
  have hmem : ∀ y, y ∈ fltTo g (parts (C : Int)) (parts (C : Int)).length ↔ ∃ x : Nat, x < 2 ^ C ∧ g (x : Int) = true ∧ y = (x : Int) := by
    intro y
    rw [fltTo_mem]
    constructor
    · rintro ⟨t, t1, t2, t3⟩
      obtain ⟨z, z1, z2⟩ := (parts_mem hC _).1 (mem_getD.2 ⟨t, t1, t3⟩)
      exact ⟨z, z1, by rw [← z2, t3]; exact t2, z2⟩
    · rintro ⟨z, z1, z2, z3⟩
      obtain ⟨t, t1, t2⟩ := mem_getD.1 ((parts_mem hC y).2 ⟨z, z1, z3⟩)
      exact ⟨t, t1, by rw [← t2, z3]; exact z2, t2⟩
  have hok : setsOk (fltTo g (parts (C : Int)) (parts (C : Int)).length) = true := by
    unfold setsOk
    rw [Bool.and_eq_true, decide_eq_true_iff, List.all_eq_true]
    refine ⟨fun y hy => ?_, ?_⟩
    · obtain ⟨z, z1, -, rfl⟩ := (hmem y).1 hy
      have h : ∀ x : Fin 32, valB ((x.val : Nat) : Int) = true := by decide +kernel
      exact h ⟨z, by omega⟩
    · have h1 := fltTo_len g (parts (C : Int)) (parts (C : Int)).length
      have h2 : ∀ C : Fin 6, (parts ((C.val : Nat) : Int)).length ≤ 32 := by decide +kernel
      have h3 := h2 ⟨C, by omega⟩
      simp only at h3
      omega
  rw [minS_mem hok (fun y hy => by obtain ⟨z, z1, -, z3⟩ := (hmem y).1 hy; exact ⟨z, by omega, z3⟩), minN_iff hC hR hx, least_iff h32 (holds_up hC) hx]
  constructor
  · rintro ⟨h1, h2⟩
    obtain ⟨z, z1, z2, z3⟩ := (hmem _).1 h1
    obtain rfl : x = z := by omega
    obtain ⟨g1, g2⟩ := (hg x hx).1 z2
    refine ⟨g1, g2, fun z hz hf hs => h2 z ((hmem _).2 ⟨z, hz, (hg z hz).2 ⟨sub_bit hC hR hz hx hs g1, hf⟩, rfl⟩) hs⟩
  · rintro ⟨h1, h2, h3⟩
    refine ⟨(hmem _).2 ⟨x, hx, (hg x hx).2 ⟨h1, h2⟩, rfl⟩, fun z hz hs => ?_⟩
    obtain ⟨z', z1, z2, z3⟩ := (hmem _).1 hz
    obtain rfl : z = z' := by omega
    exact h3 z z1 ((hg z z1).1 z2).2 hs
end Go.Proofs.YtnbjcelfdppkcadGreat
namespace Go.Proofs.YtnbjcelfdppkcadGreat

section
variable {c : Nat} {ll : List (List Int)} {m : Int} {L R : Nat} {M : Nat → Bool}
/-- The kept ones among the first n rows. -/
def subT (M : Nat → Bool) (ll : List (List Int)) : Nat → List (List Int)
  | 0 => []
  | n + 1 => if M n = true then subT M ll n ++ [ll.getD n []] else subT M ll n
theorem subT_succ (n : Nat) : subT M ll (n + 1) = if M n = true then subT M ll n ++ [ll.getD n []] else subT M ll n := rfl
theorem subT_len : ∀ n, (subT M ll n).length = ((List.range n).filter M).length
  | 0 => rfl
  | n + 1 => by
    rw [List.range_succ, List.filter_append, List.length_append, ← subT_len n, subT_succ]
    by_cases h : M n = true
    · rw [if_pos h]; simp [h]
    · rw [if_neg h]; simp [h]
theorem subT_grow (i : Nat) : ∀ n, i ≤ n → ∃ X, subT M ll n = subT M ll i ++ X
  | 0, h => by
    obtain rfl : i = 0 := by omega
    exact ⟨[], rfl⟩
  | n + 1, h => by
    by_cases e : i = n + 1
    · subst e; exact ⟨[], (List.append_nil _).symm⟩
    · obtain ⟨X, hX⟩ := subT_grow i n (by omega)
      rw [subT_succ]
      by_cases hM : M n = true
      · rw [if_pos hM, hX]; exact ⟨X ++ [ll.getD n []], List.append_assoc _ _ _⟩
      · rw [if_neg hM]; exact ⟨X, hX⟩
theorem subT_at (i n : Nat) (hi : i < n) (hM : M i = true) : (subT M ll i).length < (subT M ll n).length ∧ (subT M ll n).getD (subT M ll i).length [] = ll.getD i [] := by
  obtain ⟨X, hX⟩ := subT_grow (M := M) (ll := ll) (i + 1) n hi
  have hs : subT M ll (i + 1) = subT M ll i ++ [ll.getD i []] := by rw [subT_succ, if_pos hM]
  rw [hX, hs]
  refine ⟨by simp, ?_⟩
  rw [List.append_assoc, List.getD_eq_getElem?_getD, List.getElem?_append_right (Nat.le_refl _), Nat.sub_self]
  rfl
theorem subT_mem (n : Nat) : ∀ r ∈ subT M ll n, ∃ i, i < n ∧ M i = true ∧ r = ll.getD i [] := by
  induction n with
  | zero => intro r hr; simp [subT] at hr
  | succ n ih =>
    intro r hr
    rw [subT_succ] at hr
    by_cases hM : M n = true
    · rw [if_pos hM] at hr
      rcases List.mem_append.1 hr with h | h
      · obtain ⟨i, h1, h2, h3⟩ := ih r h
        exact ⟨i, by omega, h2, h3⟩
      · exact ⟨n, by omega, hM, List.mem_singleton.1 h⟩
    · rw [if_neg hM] at hr
      obtain ⟨i, h1, h2, h3⟩ := ih r hr
      exact ⟨i, by omega, h2, h3⟩
theorem sub_least (hc : c ≤ 5) (hL : L < 2 ^ c) (hR : R < c) (h : HoldsAll c (subT M ll ll.length) m L R) :
    remTo c ll m R (parL c ll m L) (parL c ll m L).length + ((subT M ll ll.length).length : Int) ≤ (ll.length : Int) := by
  have h1 := rem_least (c := c) (ll := ll) (m := m) hc hL hR M (fun i k hik hk hMi hMk ha => by
    obtain ⟨p1, p2⟩ := subT_at (M := M) (ll := ll) i ll.length (by omega) hMi
    obtain ⟨q1, q2⟩ := subT_at (M := M) (ll := ll) k ll.length hk hMk
    obtain ⟨s1, -⟩ := subT_at (M := M) (ll := ll) i k hik hMi
    have := h _ _ s1 q1
    unfold agB at this ha ⊢
    rw [p2, q2] at this
    exact this ha)
  have h2 := filter_split (List.range ll.length) M
  rw [List.length_range] at h2
  rw [subT_len]
  omega
end
end Go.Proofs.YtnbjcelfdppkcadGreat
namespace Go.Proofs.YtnbjcelfdppkcadGreat

section
variable {c : Int} {ll : List (List Int)} {m l r : Int} {M : Nat → Bool}
theorem okD_nat (h : okD c ll m l r = true) : ∃ C L R : Nat, c = (C : Int) ∧ l = (L : Int) ∧ r = (R : Int) ∧ C ≤ 5 ∧ L < 2 ^ C ∧ R < C := by
  unfold okD at h
  rw [Bool.and_eq_true, depB_iff] at h
  obtain ⟨-, ⟨h1, h2⟩, h3, h4, h5⟩ := h
  unfold isA at h3
  rw [decide_eq_true_iff] at h3
  obtain ⟨-, h6, h7⟩ := h3
  refine ⟨c.toNat, l.toNat, r.toNat, by omega, by omega, by omega, by omega, ?_, by omega⟩
  have h8 : ((2 ^ c.toNat : Nat) : Int) = 2 ^ c.toNat := by rw [Int.natCast_pow]; rfl
  omega
theorem rem_neg (h : remD c ll m l r < 0) : okD c ll m l r = false := by
  cases ho : okD c ll m l r with
  | false => rfl
  | true =>
    exfalso
    have := remTo_nat (c := c.toNat) (ll := ll) (m := m) (R := r.toNat) (clSt c.toNat ll m l ll.length).1
    unfold remD at h
    rw [if_pos ho] at h
    omega
theorem rem_ok (h : 0 ≤ remD c ll m l r) : okD c ll m l r = true := by
  cases ho : okD c ll m l r with
  | true => rfl
  | false =>
    exfalso
    unfold remD at h
    rw [if_neg (by rw [ho]; exact Bool.false_ne_true)] at h
    omega
theorem ok_holds (ho : okD c ll m l r = false) : holdsD c ll m l r = false ∧ witB c ll m l r = false := by
  unfold holdsD witB
  rw [ho]
  exact ⟨rfl, rfl⟩
theorem holds_wit (ho : okD c ll m l r = true) : holdsD c ll m l r = !witB c ll m l r := by
  unfold holdsD witB
  rw [ho, Bool.true_and, Bool.true_and, Bool.eq_iff_iff]
  simp
theorem holds_iff (ho : okD c ll m l r = true) {C L R : Nat} (h1 : c = (C : Int)) (h2 : l = (L : Int)) (h3 : r = (R : Int)) (hC : C ≤ 5) (hR : R < C) : holdsD c ll m l r = true ↔ HoldsAll C ll m L R := by
  subst h1 h2 h3
  unfold holdsD pairD
  rw [ho, Bool.true_and, decide_eq_true_iff]
  exact pairI_holds hC hR
theorem holds_all {C L R : Nat} (h1 : c = (C : Int)) (h2 : l = (L : Int)) (h3 : r = (R : Int)) (hC : C ≤ 5) (hR : R < C) (h : holdsD c ll m l r = true) : HoldsAll C ll m L R := by
  have ho : okD c ll m l r = true := by
    unfold holdsD at h
    rw [Bool.and_eq_true] at h
    exact h.1
  exact (holds_iff ho h1 h2 h3 hC hR).1 h
theorem remD_nat (ho : okD c ll m l r = true) {C L R : Nat} (h1 : c = (C : Int)) (h2 : l = (L : Int)) (h3 : r = (R : Int)) (hC : C ≤ 5) (hL : L < 2 ^ C) : remD c ll m l r = remTo C ll m R (parL C ll m L) (parL C ll m L).length := by
  subst h1 h2 h3
  unfold remD
  rw [if_pos ho]
  simp only [Int.toNat_natCast]
  rw [clSt_parL hC hL]
/-- It holds exactly if no rows have to be removed. -/
theorem holds_rem (ho : okD c ll m l r = true) : holdsD c ll m l r = decide (remD c ll m l r = 0) := by
  obtain ⟨C, L, R, h1, h2, h3, hC, hL, hR⟩ := okD_nat ho
  rw [Bool.eq_iff_iff, decide_eq_true_iff, holds_iff ho h1 h2 h3 hC hR, remD_nat ho h1 h2 h3 hC hL]
  exact (rem_zero hC hL hR).symm
/-- Fewer rows than there are have to be removed. -/
theorem rem_fewer (ho : okD c ll m l r = true) (h : 0 < remD c ll m l r) : remD c ll m l r < (ll.length : Int) := by
  obtain ⟨C, L, R, h1, h2, h3, hC, hL, hR⟩ := okD_nat ho
  rw [remD_nat ho h1 h2 h3 hC hL] at h ⊢
  exact rem_lt hC hL h
/-- If it holds in a table of kept rows, then at least as many rows are missing. -/
theorem rem_sub (ho : okD c ll m l r = true) (h : holdsD c (subT M ll ll.length) m l r = true) : remD c ll m l r + ((subT M ll ll.length).length : Int) ≤ (ll.length : Int) := by
  obtain ⟨C, L, R, h1, h2, h3, hC, hL, hR⟩ := okD_nat ho
  rw [remD_nat ho h1 h2 h3 hC hL]
  exact sub_least hC hL hR (holds_all h1 h2 h3 hC hR h)
end
end Go.Proofs.YtnbjcelfdppkcadGreat
namespace Go.Proofs.YtnbjcelfdppkcadGreat
open Go.RowKit

theorem isA_fit {C S : Nat} (hC : C ≤ 5) (hS : S < 2 ^ C) : isA (C : Int) (S : Int) = true := by
  unfold isA
  rw [decide_eq_true_iff]
  have : ((2 ^ C : Nat) : Int) = (2 : Int) ^ C := by rw [Int.natCast_pow]; rfl
  rw [show ((C : Int)).toNat = C from rfl]
  omega
/-- In a valid table every set and column of it is a dependency. -/
theorem okD_all {C : Nat} {ll : List (List Int)} {m : Int} {S R : Nat} (hf : fineT (C : Int) ll m = true) (h1 : 1 ≤ C) (hC : C ≤ 5) (hS : S < 2 ^ C) (hR : R < C) : okD (C : Int) ll m (S : Int) (R : Int) = true := by
  unfold okD
  rw [hf, Bool.true_and, depB_iff]
  exact ⟨by omega, isA_fit hC hS, by omega⟩
noncomputable def appB (c : Int) (ll : List (List Int)) (m rows : Int) (r : Nat) (S : Int) : Bool := !bitB S.toNat r && decide (remD c ll m S (r : Int) ≤ rows)
noncomputable def lowL (C : Nat) (ll : List (List Int)) (m rows : Int) (r : Nat) : List Int := minS (fltTo (appB (C : Int) ll m rows r) (parts (C : Int)) (parts (C : Int)).length)
noncomputable def appD (C : Nat) (ll : List (List Int)) (m rows : Int) : List (Int × Int) := mdOut (fun S r => decide (S ∈ lowL C ll m rows r)) (parts (C : Int)) C
noncomputable def minD (C : Nat) (ll : List (List Int)) (m : Int) : List (Int × Int) := mdOut (fun S r => minN C ll m S.toNat r) (parts (C : Int)) C
theorem app_zero {C : Nat} {ll : List (List Int)} {m : Int} (hf : fineT (C : Int) ll m = true) (h1 : 1 ≤ C) (hC : C ≤ 5) : appD C ll m 0 = minD C ll m := by
  unfold appD minD
  refine mdOut_same _ fun S hS r hr => ?_
  obtain ⟨x, hx, rfl⟩ := (parts_mem hC S).1 hS
  rw [Bool.eq_iff_iff, decide_eq_true_iff]
  show _ ↔ minN C ll m x r = true
  refine low_min hC hr (fun z hz => ?_) hx
  unfold appB
  rw [Bool.and_eq_true, Bool.not_eq_true', decide_eq_true_iff]
  have ho := okD_all (S := z) (R := r) hf h1 hC hz hr
  have h2 := holds_rem ho
  have h3 := holds_iff ho rfl rfl rfl hC hr
  have h4 : 0 ≤ remD (C : Int) ll m (z : Int) (r : Int) := by
    refine Int.not_lt.1 fun h => ?_
    have := rem_neg h
    rw [ho] at this
    cases this
  rw [← h3, h2, decide_eq_true_iff]
  constructor
  · rintro ⟨a, b⟩; exact ⟨a, by omega⟩
  · rintro ⟨a, b⟩; exact ⟨a, by omega⟩
theorem flt_small {C : Nat} (hC : C ≤ 5) (g : Int → Bool) : setsOk (fltTo g (parts (C : Int)) (parts (C : Int)).length) = true ∧ ∀ y ∈ fltTo g (parts (C : Int)) (parts (C : Int)).length, ∃ x : Nat, x < 32 ∧ y = (x : Int) := by
  have h32 := two5 hC
  have hb : ∀ y ∈ fltTo g (parts (C : Int)) (parts (C : Int)).length, ∃ x : Nat, x < 32 ∧ y = (x : Int) := by
    intro y hy
    obtain ⟨t, t1, -, t3⟩ := (fltTo_mem _ _ _ _).1 hy
    obtain ⟨z, z1, z2⟩ := (parts_mem hC _).1 (mem_getD.2 ⟨t, t1, t3⟩)
    exact ⟨z, by omega, z2⟩
  refine ⟨?_, hb⟩
  unfold setsOk
  rw [Bool.and_eq_true, decide_eq_true_iff, List.all_eq_true]
  refine ⟨fun y hy => ?_, ?_⟩
  · obtain ⟨z, z1, rfl⟩ := hb y hy
    have h : ∀ x : Fin 32, valB ((x.val : Nat) : Int) = true := by decide +kernel
    exact h ⟨z, z1⟩
  · have h1 := fltTo_len g (parts (C : Int)) (parts (C : Int)).length
    have h2 : ∀ C : Fin 6, (parts ((C.val : Nat) : Int)).length ≤ 32 := by decide +kernel
    have h3 := h2 ⟨C, by omega⟩
    simp only at h3
    omega
/-- What an approximate dependency removes. -/
theorem app_rows {C : Nat} {ll : List (List Int)} {m rows : Int} (hC : C ≤ 5) {d : Int × Int} (hd : d ∈ appD C ll m rows) : remD (C : Int) ll m d.1 d.2 ≤ rows := by
  obtain ⟨r, r1, S, r2, r3, rfl⟩ := (mdOut_mem _ _ _ _).1 hd
  obtain ⟨x, hx, rfl⟩ := (parts_mem hC S).1 r2
  have hm := of_decide_eq_true r3
  obtain ⟨k1, k2⟩ := flt_small hC (appB (C : Int) ll m rows r)
  have h := ((minS_mem k1 k2 x).1 hm).1
  obtain ⟨t, t1, t2, t3⟩ := (fltTo_mem _ _ _ _).1 h
  rw [← t3] at t2
  unfold appB at t2
  rw [Bool.and_eq_true, decide_eq_true_iff] at t2
  exact t2.2
theorem minD_len {C : Nat} {ll : List (List Int)} {m : Int} (hC : C ≤ 5) : (minD C ll m).length ≤ 160 := by
  have h1 := mdOut_len (fun S r => minN C ll m S.toNat r) (parts (C : Int)) C
  have h2 : ∀ C : Fin 6, C.val * (parts ((C.val : Nat) : Int)).length ≤ 160 := by decide +kernel
  have h3 := h2 ⟨C, by omega⟩
  exact Nat.le_trans h1 h3
theorem appD_len {C : Nat} {ll : List (List Int)} {m rows : Int} (hC : C ≤ 5) : (appD C ll m rows).length ≤ 160 := by
  have h1 := mdOut_len (fun S r => decide (S ∈ lowL C ll m rows r)) (parts (C : Int)) C
  have h2 : ∀ C : Fin 6, C.val * (parts ((C.val : Nat) : Int)).length ≤ 160 := by decide +kernel
  have h3 := h2 ⟨C, by omega⟩
  exact Nat.le_trans h1 h3
/-- Whether one of the first k is so. -/
def anyTo (p : Nat → Bool) : Nat → Bool
  | 0 => false
  | k + 1 => anyTo p k || p k
theorem anyTo_iff (p : Nat → Bool) : ∀ n, (anyTo p n = true ↔ ∃ t, t < n ∧ p t = true)
  | 0 => by simp [anyTo]
  | n + 1 => by
    have ih := anyTo_iff p n
    unfold anyTo
    rw [Bool.or_eq_true, ih]
    constructor
    · rintro (⟨t, t1, t2⟩ | h)
      · exact ⟨t, by omega, t2⟩
      · exact ⟨n, by omega, h⟩
    · rintro ⟨t, t1, t2⟩
      by_cases e : t = n
      · subst e; exact .inr t2
      · exact .inl ⟨t, by omega, t2⟩
/-- The border's list. -/
noncomputable def brdL (C : Nat) (ll : List (List Int)) (m : Int) (R : Nat) : List Int := maxS (brdTo (fun x => !bitB x R && !h7 C ll m x R) (2 ^ C))
/-- For a set without column R: it is in none of the border, its dependency holds, and a minimal left side is part of it, all or none. -/
theorem border_holds {C : Nat} {ll : List (List Int)} {m : Int} {R x : Nat} (hC : C ≤ 5) (hR : R < C) (hx : x < 2 ^ C) (hr : bitB x R = false) :
    (anyTo (fun i => bits .and .i64 ((brdL C ll m R).getD i 0) (x : Int) == (x : Int)) (brdL C ll m R).length = true ↔ ¬ HoldsAll C ll m x R) ∧
    (anyTo (fun i => ((minD C ll m).getD i (0, 0)).2 == (R : Int) && (bits .and .i64 ((minD C ll m).getD i (0, 0)).1 (x : Int) == ((minD C ll m).getD i (0, 0)).1)) (minD C ll m).length = true ↔ HoldsAll C ll m x R) := by
  have h32 := two5 hC
  constructor
  · rw [anyTo_iff, ← border_iff (f := fun S => HoldsAll C ll m S R) hC hR (holds_up hC) (g := fun x => !bitB x R && !h7 C ll m x R) (fun z hz => by
      rw [Bool.and_eq_true, Bool.not_eq_true', Bool.not_eq_true', ← h7_iff hC hR, Bool.not_eq_true]
      exact And.comm) hx hr]
    constructor
    · rintro ⟨t, t1, t2⟩
      have hm : (brdL C ll m R).getD t 0 ∈ brdL C ll m R := mem_getD.2 ⟨t, t1, rfl⟩
      obtain ⟨y, y1, -, y3, -⟩ := (maxS_brd _ h32 _).1 hm
      rw [y3] at hm t2
      rw [and_sub' x y (by omega) (by omega)] at t2
      exact ⟨y, y1, hm, t2⟩
    · rintro ⟨y, y1, y2, y3⟩
      obtain ⟨t, t1, t2⟩ := mem_getD.1 y2
      exact ⟨t, t1, by
        have e : (brdL C ll m R).getD t 0 = (y : Int) := t2.symm
        rw [e, and_sub' x y (by omega) (by omega)]; exact y3⟩
  · rw [anyTo_iff, ← cover_iff hC hR hx hr]
    constructor
    · rintro ⟨t, t1, t2⟩
      have hm : (minD C ll m).getD t (0, 0) ∈ minD C ll m := by
        rw [List.getD_eq_getElem?_getD, List.getElem?_eq_getElem t1]
        exact List.getElem_mem t1
      obtain ⟨r, r1, S, r2, r3, r4⟩ := (mdOut_mem _ _ _ _).1 hm
      obtain ⟨y, y1, rfl⟩ := (parts_mem hC S).1 r2
      rw [Bool.and_eq_true, r4] at t2
      obtain ⟨e1, e2⟩ := t2
      have e3 : r = R := by have := beq_iff_eq.1 e1; simp only at this; omega
      subst e3
      rw [r4] at hm
      exact ⟨y, y1, hm, by rw [← and_sub y x (by omega) (by omega)]; exact e2⟩
    · rintro ⟨y, y1, y2, y3⟩
      obtain ⟨t, t1, t2⟩ := List.mem_iff_getElem.1 y2
      refine ⟨t, t1, ?_⟩
      have e : (minD C ll m).getD t (0, 0) = ((y : Int), (R : Int)) := by
        unfold minD
        rw [List.getD_eq_getElem?_getD, List.getElem?_eq_getElem t1]
        exact t2
      rw [e, Bool.and_eq_true]
      exact ⟨by simp, by rw [and_sub y x (by omega) (by omega)]; exact y3⟩
end Go.Proofs.YtnbjcelfdppkcadGreat
