/- RowsToRemove is the least number: plain facts. Conditions: as stated. -/
import Derived.Test.YtlecfkfcjhliiaaGreatWc24
import Derived.Test.YtlecfkfcjhliiaaGreatWc25
namespace Go.Proofs.YtlecfkfcjhliiaaGreat

section
variable {c : Nat} {ll : List (List Int)} {m : Int} {L R : Nat}
theorem clSt_parL (hc : c ≤ 5) (hL : L < 2 ^ c) : (clSt c ll m (L : Int) ll.length).1 = parL c ll m L := (clSt_eq hc hL ll.length (Nat.le_refl _)).1
theorem mostTo_ge (p : List Int) (k : Nat) : ∀ n, k < n → sameTo c ll m R p k p.length ≤ mostTo c ll m R p n
  | 0, h => absurd h (Nat.not_lt_zero _)
  | n + 1, h => by
    unfold mostTo
    by_cases hk : k = n
    · subst hk; omega
    · have := mostTo_ge p k n (by omega)
      omega
theorem mostTo_is (p : List Int) : ∀ n, mostTo c ll m R p n = 0 ∧ n = 0 ∨ ∃ k, k < n ∧ mostTo c ll m R p n = sameTo c ll m R p k p.length
  | 0 => .inl ⟨rfl, rfl⟩
  | n + 1 => by
    right
    unfold mostTo
    rcases mostTo_is p n with ⟨h, h0⟩ | ⟨k, hk, h⟩
    · exact ⟨n, by omega, by rw [h]; omega⟩
    · by_cases hle : mostTo c ll m R p n ≤ sameTo c ll m R p n p.length
      · exact ⟨n, by omega, by omega⟩
      · exact ⟨k, by omega, by rw [← h]; omega⟩
theorem sameTo_lt (p : List Int) (k : Nat) : ∀ j, sameTo c ll m R p k j + (if j ≤ k then 0 else 1) ≤ j + 1
  | 0 => by simp [sameTo]
  | j + 1 => by
    have ih := sameTo_lt p k j
    unfold sameTo
    by_cases hjk : j = k
    · subst hjk
      rw [if_neg (fun h => h.1 rfl), if_neg (by omega)]
      rw [if_pos (Nat.le_refl _)] at ih
      omega
    · split
      · split at ih <;> split <;> omega
      · split at ih <;> split <;> omega
theorem mostTo_len (p : List Int) : mostTo c ll m R p p.length ≤ p.length := by
  rcases mostTo_is (c := c) (ll := ll) (m := m) (R := R) p p.length with ⟨h, -⟩ | ⟨k, hk, h⟩
  · omega
  · have := sameTo_lt (c := c) (ll := ll) (m := m) (R := R) p k p.length
    rw [if_neg (by omega)] at this
    omega
theorem remTo_sum (P : List (List Int)) : ∀ i, i ≤ P.length → remTo c ll m R P i = ((((P.take i).map fun r => r.length - mostTo c ll m R r r.length).sum : Nat) : Int)
  | 0, _ => rfl
  | i + 1, hi => by
    rw [take_succ_getD P [] i (by omega), List.map_append, List.sum_append]
    unfold remTo
    rw [remTo_sum P i (by omega)]
    have := mostTo_len (c := c) (ll := ll) (m := m) (R := R) (P.getD i [])
    simp only [List.map_cons, List.map_nil, List.sum_cons, List.sum_nil]
    omega
/-- The kept rows of a class, all equal on the right, are no more than the most. -/
theorem kept_same (p : List Int) (M : Int → Bool) (k : Nat) (hMk : M (p.getD k 0) = true) (hall : ∀ j, j < p.length → j ≠ k → M (p.getD j 0) = true → eqR c ll m R (p.getD k 0) (p.getD j 0) = true) :
    ∀ j, j ≤ p.length → ((p.take j).filter M).length + (if j ≤ k then 1 else 0) ≤ sameTo c ll m R p k j
  | 0, _ => by simp [sameTo]
  | j + 1, hj => by
    have ih := kept_same p M k hMk hall j (by omega)
    have es : sameTo c ll m R p k (j + 1) = if j ≠ k ∧ eqR c ll m R (p.getD k 0) (p.getD j 0) = true then sameTo c ll m R p k j + 1 else sameTo c ll m R p k j := rfl
    rw [take_succ_getD p 0 j (by omega), List.filter_append, List.length_append]
    by_cases hjk : j = k
    · subst hjk
      have es2 : sameTo c ll m R p j (j + 1) = sameTo c ll m R p j j := by rw [es]; exact if_neg (fun h => h.1 rfl)
      rw [es2, if_neg (show ¬ j + 1 ≤ j by omega), List.filter_cons, if_pos hMk]
      rw [if_pos (Nat.le_refl _)] at ih
      simp only [List.filter_nil, List.length_cons, List.length_nil]
      omega
    · have h1 : (if j + 1 ≤ k then 1 else 0) ≤ (if j ≤ k then 1 else 0) := by split <;> split <;> omega
      cases hM : M (p.getD j 0) with
      | true =>
        have es2 : sameTo c ll m R p k (j + 1) = sameTo c ll m R p k j + 1 := by rw [es]; exact if_pos ⟨hjk, hall j (by omega) hjk hM⟩
        rw [es2, List.filter_cons, if_pos hM]
        simp only [List.filter_nil, List.length_cons, List.length_nil]
        omega
      | false =>
        have es2 : sameTo c ll m R p k j ≤ sameTo c ll m R p k (j + 1) := by rw [es]; split <;> omega
        rw [List.filter_cons, if_neg (by rw [hM]; simp)]
        simp only [List.filter_nil, List.length_nil]
        omega
theorem kept_most (p : List Int) (M : Int → Bool) (hall : ∀ j k, j < p.length → k < p.length → j ≠ k → M (p.getD k 0) = true → M (p.getD j 0) = true → eqR c ll m R (p.getD k 0) (p.getD j 0) = true) : (p.filter M).length ≤ mostTo c ll m R p p.length := by
  by_cases hex : ∃ k, k < p.length ∧ M (p.getD k 0) = true
  · obtain ⟨k, hk, hM⟩ := hex
    have h1 := kept_same (c := c) (ll := ll) (m := m) (R := R) p M k hM (fun j hj hne hMj => hall j k hj hk hne hM hMj) p.length (Nat.le_refl _)
    rw [List.take_length] at h1
    have h2 := mostTo_ge (c := c) (ll := ll) (m := m) (R := R) p k p.length hk
    omega
  · have : p.filter M = [] := by
      rw [List.filter_eq_nil_iff]
      intro x hx hMx
      obtain ⟨j, hj, rfl⟩ := mem_getD'.mp hx
      exact hex ⟨j, hj, hMx⟩
    rw [this]; exact Nat.zero_le _
theorem filter_split {α : Type} (l : List α) (p : α → Bool) : l.length = (l.filter p).length + (l.filter fun x => !p x).length := by
  induction l with
  | nil => rfl
  | cons x t ih =>
    rw [List.filter_cons, List.filter_cons, List.length_cons, ih]
    cases h : p x with
    | true => simp; omega
    | false => simp; omega
theorem sum_le {α : Type} (l : List α) (f g : α → Nat) (h : ∀ x ∈ l, f x ≤ g x) : (l.map f).sum ≤ (l.map g).sum := by
  induction l with
  | nil => exact Nat.le_refl _
  | cons x t ih =>
    have h1 := h x (by simp)
    have h2 := ih fun y hy => h y (by simp [hy])
    simp only [List.map_cons, List.sum_cons]
    omega
theorem asc_one (l : List Nat) (hp : l.Pairwise fun a b => a < b) (h : ∀ a ∈ l, ∀ b ∈ l, a = b) : l.length ≤ 1 := by
  match l, hp, h with
  | [], _, _ => exact Nat.zero_le _
  | [x], _, _ => exact Nat.le_refl _
  | x :: y :: t, hp, h =>
    rw [List.pairwise_cons] at hp
    have h1 := hp.1 y (by simp)
    have h2 := h x (by simp) y (by simp)
    omega
/-- What was removed, class by class, is no more than what was removed. -/
theorem removed_le (hc : c ≤ 5) (hL : L < 2 ^ c) (M : Nat → Bool) : ((parL c ll m L).map fun r => (r.filter fun x => !M x.toNat).length).sum ≤ ((List.range ll.length).filter fun k => !M k).length := by
  rw [parL_map, List.map_map]
  have h1 : ((reps c ll m L).map ((fun r : List Int => (r.filter fun x => !M x.toNat).length) ∘ clsC c ll m (L : Int))).sum = ((reps c ll m L).map fun a => ((List.range ll.length).map fun k => if (agB c ll m (L : Int) a k && !M k) = true then 1 else 0).sum).sum := by
    congr 1
    refine List.map_congr_left fun a ha => ?_
    rw [sum_ind]
    have e : (clsC c ll m (L : Int) a).filter (fun x => !M x.toNat) = ((List.range ll.length).filter fun k => agB c ll m (L : Int) a k && !M k).map fun (k : Nat) => (k : Int) := by
      refine ascH_unique (r := fun x y => x < y) (fun x => by omega) (fun x y z => by omega) _ _ ((clsC_asc _ _).filter _) ?_ fun x => ?_
      · rw [List.pairwise_map]
        exact (List.pairwise_lt_range.filter _).imp fun {x y} h => by omega
      · rw [List.mem_filter, rep_mem hc hL ha, List.mem_map]
        constructor
        · rintro ⟨⟨k, k1, rfl, k3⟩, h⟩
          exact ⟨k, by rw [List.mem_filter, List.mem_range, Bool.and_eq_true]; exact ⟨k1, k3, h⟩, rfl⟩
        · rintro ⟨k, hk, rfl⟩
          rw [List.mem_filter, List.mem_range, Bool.and_eq_true] at hk
          exact ⟨⟨k, hk.1, rfl, hk.2.1⟩, hk.2.2⟩
    show ((clsC c ll m (L : Int) a).filter fun x => !M x.toNat).length = _
    rw [e, List.length_map]
  rw [h1, sum_swap, ← sum_ind]
  refine sum_le _ _ _ fun k hk => ?_
  rw [sum_ind]
  cases hM : M k with
  | true => simp
  | false =>
    rw [if_pos (by simp)]
    refine asc_one _ (reps_asc.filter _) fun a ha b hb => ?_
    rw [List.mem_filter, Bool.and_eq_true] at ha hb
    obtain ⟨a1, a2, -⟩ := reps_mem.1 ha.1
    obtain ⟨b1, b2, -⟩ := reps_mem.1 hb.1
    have hab := agB_trans hc hL ha.2.1 (agB_symm hc hL hb.2.1)
    rcases Nat.lt_trichotomy a b with hlt | he | hlt
    · unfold repB at b2
      rw [Bool.not_eq_true', List.any_eq_false] at b2
      exact (b2 a (List.mem_range.2 hlt) hab).elim
    · exact he
    · unfold repB at a2
      rw [Bool.not_eq_true', List.any_eq_false] at a2
      exact (a2 b (List.mem_range.2 hlt) (agB_symm hc hL hab)).elim
/-- Rows are kept without a violation only if as many are removed as are stated. -/
theorem rem_least (hc : c ≤ 5) (hL : L < 2 ^ c) (hR : R < c) (M : Nat → Bool) (hM : ∀ i k, i < k → k < ll.length → M i = true → M k = true → agB c ll m (L : Int) i k = true → agB c ll m ((2 ^ R : Nat) : Int) i k = true) :
    remTo c ll m R (parL c ll m L) (parL c ll m L).length ≤ (((List.range ll.length).filter fun k => !M k).length : Int) := by
  have hP : 2 ^ R < 2 ^ c := Nat.pow_lt_pow_right (by omega) hR
  rw [remTo_sum _ _ (Nat.le_refl _), List.take_length]
  refine Int.ofNat_le.2 (Nat.le_trans (sum_le _ _ _ fun r hr => ?_) (removed_le (m := m) hc hL M))
  obtain ⟨j, hj, rfl⟩ := List.mem_iff_getElem.1 hr
  obtain ⟨e, hm⟩ := parL_get hj
  rw [List.getD_eq_getElem?_getD, List.getElem?_eq_getElem hj] at e
  simp only [Option.getD_some] at e
  have hsp := filter_split ((parL c ll m L)[j]) (fun x => M x.toNat)
  have hk := kept_most (c := c) (ll := ll) (m := m) (R := R) ((parL c ll m L)[j]) (fun x => M x.toNat) (fun t s ht hs hne hMs hMt => by
    rw [e] at ht hs hMs hMt ⊢
    have hmt : (clsC c ll m (L : Int) ((reps c ll m L).getD j 0)).getD t 0 ∈ clsC c ll m (L : Int) ((reps c ll m L).getD j 0) := by rw [← get_getD _ t ht]; exact List.getElem_mem _
    have hms : (clsC c ll m (L : Int) ((reps c ll m L).getD j 0)).getD s 0 ∈ clsC c ll m (L : Int) ((reps c ll m L).getD j 0) := by rw [← get_getD _ s hs]; exact List.getElem_mem _
    obtain ⟨y, y1, y2, y3⟩ := (rep_mem hc hL hm).1 hmt
    obtain ⟨x, x1, x2, x3⟩ := (rep_mem hc hL hm).1 hms
    have hxy : x ≠ y := by
      intro he
      have hp := clsC_asc (c := c) (ll := ll) (m := m) ((reps c ll m L).getD j 0) (L : Int)
      have hpg := List.pairwise_iff_getElem.1 hp
      rcases Nat.lt_trichotomy s t with hlt | he2 | hlt
      · have := hpg s t hs ht hlt
        rw [get_getD _ s hs, get_getD _ t ht, x2, y2] at this
        omega
      · exact hne he2.symm
      · have := hpg t s ht hs hlt
        rw [get_getD _ s hs, get_getD _ t ht, x2, y2] at this
        omega
    rw [x2] at hMs ⊢
    rw [y2] at hMt ⊢
    simp only [show ∀ n : Nat, ((n : Int)).toNat = n from fun n => rfl] at hMs hMt
    have hag := agB_trans hc hL (agB_symm hc hL x3) y3
    have hrr : agB c ll m ((2 ^ R : Nat) : Int) x y = true := by
      rcases Nat.lt_trichotomy x y with hlt | he | hlt
      · exact hM x y hlt y1 hMs hMt hag
      · exact (hxy he).elim
      · exact agB_symm hc hP (hM y x hlt x1 hMt hMs (agB_symm hc hL hag))
    rw [agB_one hc hR] at hrr
    exact hrr)
  show ((parL c ll m L)[j]).length - mostTo c ll m R ((parL c ll m L)[j]) ((parL c ll m L)[j]).length ≤ _
  omega
theorem same_miss (p : List Int) (k t : Nat) (htk : t ≠ k) (h : eqR c ll m R (p.getD k 0) (p.getD t 0) = false) : ∀ j, t < j → sameTo c ll m R p k j + (if j ≤ k then 0 else 1) ≤ j
  | 0, hj => absurd hj (Nat.not_lt_zero _)
  | j + 1, hj => by
    have es : sameTo c ll m R p k (j + 1) = if j ≠ k ∧ eqR c ll m R (p.getD k 0) (p.getD j 0) = true then sameTo c ll m R p k j + 1 else sameTo c ll m R p k j := rfl
    by_cases htj : t = j
    · subst htj
      have h0 := sameTo_lt (c := c) (ll := ll) (m := m) (R := R) p k t
      have es2 : sameTo c ll m R p k (t + 1) = sameTo c ll m R p k t := by rw [es]; exact if_neg (fun g => by rw [h] at g; cases g.2)
      rw [es2]
      split at h0 <;> split <;> omega
    · have ih := same_miss p k t htk h j (by omega)
      by_cases hjk : j = k
      · subst hjk
        have es2 : sameTo c ll m R p j (j + 1) = sameTo c ll m R p j j := by rw [es]; exact if_neg (fun g => g.1 rfl)
        rw [es2, if_neg (by omega)]
        rw [if_pos (Nat.le_refl _)] at ih
        omega
      · have es2 : sameTo c ll m R p k (j + 1) ≤ sameTo c ll m R p k j + 1 := by rw [es]; split <;> omega
        split at ih <;> split <;> omega
theorem sum_zero {α : Type} (l : List α) (f : α → Nat) (h : (l.map f).sum = 0) : ∀ x ∈ l, f x = 0 := by
  induction l with
  | nil => intro x hx; cases hx
  | cons y t ih =>
    simp only [List.map_cons, List.sum_cons] at h
    intro x hx
    rcases List.mem_cons.1 hx with rfl | hx
    · omega
    · exact ih (by omega) x hx
theorem remTo_nat (P : List (List Int)) : 0 ≤ remTo c ll m R P P.length := by
  rw [remTo_sum _ _ (Nat.le_refl _)]; omega
/-- No rows have to be removed just if it holds. -/
theorem rem_zero (hc : c ≤ 5) (hL : L < 2 ^ c) (hR : R < c) : remTo c ll m R (parL c ll m L) (parL c ll m L).length = 0 ↔ HoldsAll c ll m L R := by
  have hP : 2 ^ R < 2 ^ c := Nat.pow_lt_pow_right (by omega) hR
  constructor
  · intro h0 i k hik hk hag
    rw [remTo_sum _ _ (Nat.le_refl _), List.take_length] at h0
    have hz := sum_zero _ _ (Int.ofNat.inj h0)
    -- the class of both rows
    have h40 : ∃ a, a ∈ reps c ll m L ∧ agB c ll m (L : Int) a i = true := by
      cases hr : repB c ll m (L : Int) i with
      | true => exact ⟨i, reps_mem.2 ⟨by omega, hr, (clsC_two (by omega)).2 ⟨k, hik, hk, hag⟩⟩, agB_trans hc hL hag (agB_symm hc hL hag)⟩
      | false =>
        unfold repB at hr
        rw [Bool.not_eq_false', List.any_eq_true] at hr
        obtain ⟨b, hb, hbi⟩ := hr
        obtain ⟨a, g1, g2, g3⟩ := rep_least hc hL i (b + 1) b (by omega) (List.mem_range.1 hb) hbi
        exact ⟨a, reps_mem.2 ⟨by omega, g2, (clsC_two (by omega)).2 ⟨i, g1, by omega, g3⟩⟩, g3⟩
    obtain ⟨a, ham, hai⟩ := h40
    obtain ⟨a1, a2, a3⟩ := reps_mem.1 ham
    have hrm : clsC c ll m (L : Int) a ∈ parL c ll m L := by rw [parL_map]; exact List.mem_map.2 ⟨a, ham, rfl⟩
    have hmost := hz _ hrm
    have hml := mostTo_len (c := c) (ll := ll) (m := m) (R := R) (clsC c ll m (L : Int) a)
    rcases mostTo_is (c := c) (ll := ll) (m := m) (R := R) (clsC c ll m (L : Int) a) (clsC c ll m (L : Int) a).length with ⟨-, g0⟩ | ⟨s, hs, g⟩
    · omega
    · have hall : ∀ t, t < (clsC c ll m (L : Int) a).length → t ≠ s → eqR c ll m R ((clsC c ll m (L : Int) a).getD s 0) ((clsC c ll m (L : Int) a).getD t 0) = true := by
        intro t ht hts
        cases he : eqR c ll m R ((clsC c ll m (L : Int) a).getD s 0) ((clsC c ll m (L : Int) a).getD t 0) with
        | true => rfl
        | false =>
          have hmi := same_miss (c := c) (ll := ll) (m := m) (R := R) (clsC c ll m (L : Int) a) s t hts he _ ht
          rw [if_neg (by omega)] at hmi
          omega
      have hms : (clsC c ll m (L : Int) a).getD s 0 ∈ clsC c ll m (L : Int) a := by rw [← get_getD _ s hs]; exact List.getElem_mem _
      obtain ⟨x, x1, x2, x3⟩ := (rep_mem hc hL ham).1 hms
      have hto : ∀ y : Nat, y < ll.length → agB c ll m (L : Int) a y = true → y ≠ x → agB c ll m ((2 ^ R : Nat) : Int) x y = true := by
        intro y hy hay hyx
        obtain ⟨t, ht, he⟩ := mem_getD'.mp ((rep_mem hc hL ham).2 ⟨y, hy, rfl, hay⟩)
        have hts : t ≠ s := fun e => by rw [e, x2] at he; omega
        have := hall t ht hts
        rw [x2, ← he] at this
        rw [agB_one hc hR]
        exact this
      have hak := agB_trans hc hL hai hag
      by_cases hix : i = x
      · subst hix
        exact hto k hk hak (by omega)
      · by_cases hkx : k = x
        · subst hkx
          exact agB_symm hc hP (hto i (by omega) hai hix)
        · exact agB_trans hc hP (agB_symm hc hP (hto i (by omega) hai hix)) (hto k hk hak hkx)
  · intro h
    have h1 := rem_least (ll := ll) (m := m) hc hL hR (fun _ => true) (fun i k hik hk _ _ => h i k hik hk)
    have h2 := remTo_nat (c := c) (ll := ll) (m := m) (R := R) (parL c ll m L)
    have h3 : ((List.range ll.length).filter fun _ => !true) = [] := by simp
    rw [h3] at h1
    simp only [List.length_nil] at h1
    omega
/-- A row stays. -/
theorem rem_lt (hc : c ≤ 5) (hL : L < 2 ^ c) (h : 0 < remTo c ll m R (parL c ll m L) (parL c ll m L).length) : remTo c ll m R (parL c ll m L) (parL c ll m L).length < (ll.length : Int) := by
  have he := parL_error (ll := ll) (m := m) hc hL
  rw [errTo_sum _ _ (Nat.le_refl _), List.take_length] at he
  rw [remTo_sum _ _ (Nat.le_refl _), List.take_length] at h ⊢
  have h1 := sum_le (parL c ll m L) (fun r => r.length - mostTo c ll m R r r.length) (fun r => r.length - 1) (fun r hr => by
    rcases mostTo_is (c := c) (ll := ll) (m := m) (R := R) r r.length with ⟨-, g0⟩ | ⟨s, hs, g⟩
    · omega
    · have := (sameTo_le c ll m R r s r.length).1
      omega)
  have h2 : (nonreps c ll m L).length + 1 ≤ ll.length ∨ ll.length = 0 := by
    by_cases h0 : ll.length = 0
    · exact .inr h0
    · left
      have hsp := filter_split (List.range ll.length) (fun k => !repB c ll m (L : Int) k)
      rw [List.length_range] at hsp
      have h3 : 0 ∈ (List.range ll.length).filter fun x => !(!repB c ll m (L : Int) x) := by
        rw [List.mem_filter, List.mem_range]
        exact ⟨by omega, by unfold repB; simp⟩
      have h4 : 0 < ((List.range ll.length).filter fun x => !(!repB c ll m (L : Int) x)).length := List.length_pos_of_mem h3
      unfold nonreps
      omega
  have h3 : (nonreps c ll m L).length ≤ ll.length := by unfold nonreps; exact Nat.le_trans (List.length_filter_le _ _) (by simp)
  omega
end
end Go.Proofs.YtlecfkfcjhliiaaGreat
