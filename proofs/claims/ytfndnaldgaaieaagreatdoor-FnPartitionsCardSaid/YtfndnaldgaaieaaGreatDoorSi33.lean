/- Texts of this claim, merged: PmC, PmD. Conditions: as stated. -/
import Derived.Test.YtfndnaldgaaieaaGreatDoorSi32
import Derived.Test.YtfndnaldgaaieaaGreatDoorDepDm
namespace Go.Proofs.YtfndnaldgaaieaaGreatDoor

section
variable {c : Nat} {ll : List (List Int)} {m : Int} {S T L R : Nat}
/-- What agrees in S agrees in T. -/
def Fin2 (c : Nat) (ll : List (List Int)) (m : Int) (S T : Nat) : Prop := ∀ i k, i < k → k < ll.length → agB c ll m (S : Int) i k = true → agB c ll m (T : Int) i k = true
theorem Fin2.ne (hc : c ≤ 5) (hS : S < 2 ^ c) (hT : T < 2 ^ c) (h : Fin2 c ll m S T) {i k : Nat} (hi : i < ll.length) (hk : k < ll.length) (hne : i ≠ k) (ha : agB c ll m (S : Int) i k = true) : agB c ll m (T : Int) i k = true := by
  rcases Nat.lt_trichotomy i k with hlt | he | hlt
  · exact h i k hlt hk ha
  · exact (hne he).elim
  · exact agB_symm hc hT (h k i hlt hi (agB_symm hc hS ha))
theorem clsC_first {a : Nat} (ha : a < ll.length) : (clsC c ll m (S : Int) a).getD 0 0 = (a : Int) := by
  have hz := (clsC_mem c ll m (S : Int) a ha _).2 (.inl rfl)
  cases hq : clsC c ll m (S : Int) a with
  | nil => rw [hq] at hz; cases hz
  | cons x t =>
    have hx := (clsC_mem c ll m (S : Int) a ha x).1 (by rw [hq]; simp)
    have hp := clsC_asc (c := c) (ll := ll) (m := m) a (S : Int)
    rw [hq, List.pairwise_cons] at hp
    rw [hq] at hz
    rcases List.mem_cons.1 hz with hz | hz
    · rw [hz]; rfl
    · have := hp.1 _ hz
      rcases hx with hx | ⟨k, k1, -, -, hx⟩ <;> omega
theorem parL_finer (hc : c ≤ 5) (hS : S < 2 ^ c) (hT : T < 2 ^ c) (h40 : ll.length ≤ 40) : finB (parL c ll m S) (parL c ll m T) = true ↔ Fin2 c ll m S T := by
  unfold finB
  rw [List.all_eq_true]
  constructor
  · intro h i k hik hk ha
    obtain ⟨h1, h0⟩ := (clsI_same hc hS h40 (by omega) hk (by omega)).2 ha
    have hge := clsI_ge (parL c ll m S) (i : Int)
    have hpp := parL_part (m := m) hc hS h40
    have hi := (clsI_part hpp (x := (i : Int)) (a := (clsI (parL c ll m S) (i : Int)).toNat) (by omega)).2 (by omega)
    have hk' := (clsI_part hpp (x := (k : Int)) (a := (clsI (parL c ll m S) (i : Int)).toNat) (by omega)).2 (by omega)
    have hr := h ((parL c ll m S).getD (clsI (parL c ll m S) (i : Int)).toNat []) (by rw [List.getD_eq_getElem?_getD, List.getElem?_eq_getElem (by omega)]; exact List.getElem_mem _)
    unfold finR at hr
    rw [Bool.and_eq_true, List.all_eq_true] at hr
    have g1 := of_decide_eq_true (hr.2 _ hi)
    have g2 := of_decide_eq_true (hr.2 _ hk')
    exact (clsI_same hc hT h40 (by omega) hk (by omega)).1 ⟨g1.2.trans g2.2.symm, g1.1⟩
  · intro h r hr
    obtain ⟨j, hj, rfl⟩ := List.mem_iff_getElem.1 hr
    obtain ⟨e, hm⟩ := parL_get hj
    rw [List.getD_eq_getElem?_getD, List.getElem?_eq_getElem hj] at e
    simp only [Option.getD_some] at e
    rw [e]
    obtain ⟨h1, h2, h3⟩ := reps_mem.1 hm
    obtain ⟨k, k1, k2, k3⟩ := (clsC_two h1).1 h3
    have hT1 := h _ k k1 k2 k3
    have h0 := (clsI_in hc hT h40 h1).2 ⟨k, k2, by omega, hT1⟩
    unfold finR
    rw [Bool.and_eq_true, List.all_eq_true, clsC_first h1]
    refine ⟨?_, fun x hx => ?_⟩
    · cases hq : parL c ll m T with
      | nil => rw [hq] at h0; simp [clsI] at h0
      | cons a t => rfl
    · obtain ⟨y, y1, rfl, y3⟩ := (rep_mem hc hS hm).1 hx
      refine decide_eq_true ?_
      by_cases hya : (reps c ll m S).getD j 0 = y
      · rw [← hya]; exact ⟨h0, rfl⟩
      · have := (clsI_same hc hT h40 h1 y1 hya).2 (h.ne hc hS hT h1 y1 hya y3)
        omega
/-! ### The error: the rows that have an equal one before them -/
theorem sum_map_add {α : Type} (l : List α) (f g : α → Nat) : (l.map fun x => f x + g x).sum = (l.map f).sum + (l.map g).sum := by
  induction l with
  | nil => rfl
  | cons x t ih => simp only [List.map_cons, List.sum_cons, ih]; omega
theorem sum_map_zero {α : Type} (l : List α) : (l.map fun _ => 0).sum = 0 := by
  induction l with
  | nil => rfl
  | cons x t ih => simp only [List.map_cons, List.sum_cons, ih]
theorem sum_swap {α β : Type} (l : List α) (k : List β) (f : α → β → Nat) : (l.map fun x => (k.map fun y => f x y).sum).sum = (k.map fun y => (l.map fun x => f x y).sum).sum := by
  induction l with
  | nil => simp only [List.map_nil, List.sum_nil, sum_map_zero]
  | cons x t ih => simp only [List.map_cons, List.sum_cons, ih, sum_map_add]
theorem sum_ind {α : Type} (l : List α) (p : α → Bool) : (l.map fun x => if p x = true then 1 else 0).sum = (l.filter p).length := by
  induction l with
  | nil => rfl
  | cons x t ih =>
    simp only [List.map_cons, List.sum_cons, ih]
    cases h : p x with
    | true => rw [if_pos rfl, List.filter_cons, if_pos h, List.length_cons]; omega
    | false => rw [if_neg (by simp), List.filter_cons, if_neg (by rw [h]; simp)]; omega
/-- The rows behind a that agree with it. -/
def later (c : Nat) (ll : List (List Int)) (m : Int) (S a : Nat) : List Nat := (List.range ll.length).filter fun k => decide (a < k) && agB c ll m (S : Int) a k
theorem clsC_len1 {a : Nat} (ha : a < ll.length) : (clsC c ll m (S : Int) a).length = 1 + (later c ll m S a).length := by
  have h : clsC c ll m (S : Int) a = (a : Int) :: (later c ll m S a).map fun (k : Nat) => (k : Int) := by
    refine ascH_unique (r := fun x y => x < y) (fun x => by omega) (fun x y z => by omega) _ _ (clsC_asc _ _) ?_ fun x => ?_
    · rw [List.pairwise_cons]
      refine ⟨fun x hx => ?_, ?_⟩
      · obtain ⟨k, hk, rfl⟩ := List.mem_map.1 hx
        unfold later at hk
        rw [List.mem_filter, Bool.and_eq_true, decide_eq_true_eq] at hk
        omega
      · rw [List.pairwise_map]
        unfold later
        exact (List.pairwise_lt_range.filter _).imp fun {x y} h => by omega
    · rw [clsC_mem c ll m _ a ha, List.mem_cons, List.mem_map]
      unfold later
      constructor
      · rintro (h | ⟨k, h1, h2, h3, h4⟩)
        · exact .inl h
        · exact .inr ⟨k, by rw [List.mem_filter, List.mem_range, Bool.and_eq_true, decide_eq_true_eq]; exact ⟨h2, h1, h3⟩, h4.symm⟩
      · rintro (h | ⟨k, hk, rfl⟩)
        · exact .inl h
        · rw [List.mem_filter, List.mem_range, Bool.and_eq_true, decide_eq_true_eq] at hk
          exact .inr ⟨k, hk.2.1, hk.1, hk.2.2, rfl⟩
  rw [h, List.length_cons, List.length_map]; omega
theorem errTo_sum (p : List (List Int)) : ∀ k, k ≤ p.length → errTo p k = ((((p.take k).map fun r => r.length - 1).sum : Nat) : Int)
  | 0, _ => rfl
  | k + 1, hk => by
    rw [take_succ_getD p [] k (by omega), List.map_append, List.sum_append]
    unfold errTo
    rw [errTo_sum p k (by omega)]
    simp only [List.map_cons, List.map_nil, List.sum_cons, List.sum_nil]
    omega
/-- The rows that have an equal one before them. -/
def nonreps (c : Nat) (ll : List (List Int)) (m : Int) (S : Nat) : List Nat := (List.range ll.length).filter fun k => !repB c ll m (S : Int) k
theorem filter_one (n : Nat) (p : Nat → Bool) (a : Nat) (ha : a < n) (h : ∀ k, k < n → (p k = true ↔ k = a)) : ((List.range n).filter p).length = 1 := by
  have : (List.range n).filter p = [a] := by
    refine ascH_unique (r := fun x y : Nat => x < y) (fun x => by omega) (fun x y z => by omega) _ _ (List.pairwise_lt_range.filter _) (by simp) fun x => ?_
    rw [List.mem_filter, List.mem_range, List.mem_singleton]
    constructor
    · rintro ⟨h1, h2⟩; exact (h x h1).1 h2
    · rintro rfl; exact ⟨ha, (h x ha).2 rfl⟩
  rw [this]; rfl
theorem parL_error (hc : c ≤ 5) (hS : S < 2 ^ c) : errTo (parL c ll m S) (parL c ll m S).length = (((nonreps c ll m S).length : Nat) : Int) := by
  rw [errTo_sum _ _ (Nat.le_refl _), List.take_length]
  congr 1
  -- each class counts the rows behind its first one
  have h1 : ((parL c ll m S).map fun r => r.length - 1).sum = ((reps c ll m S).map fun a => (later c ll m S a).length).sum := by
    rw [parL_map, List.map_map]
    congr 1
    refine List.map_congr_left fun a ha => ?_
    obtain ⟨g1, -, -⟩ := reps_mem.1 ha
    show (clsC c ll m (S : Int) a).length - 1 = _
    rw [clsC_len1 g1]; omega
  -- classes of one row count nothing
  have h2 : ∀ l : List Nat, (∀ a ∈ l, a < ll.length) → ((l.filter fun a => repB c ll m (S : Int) a && decide (1 < (clsC c ll m (S : Int) a).length)).map fun a => (later c ll m S a).length).sum = (l.map fun a => ((List.range ll.length).map fun k => if (repB c ll m (S : Int) a && (decide (a < k) && agB c ll m (S : Int) a k)) = true then 1 else 0).sum).sum := by
    intro l
    induction l with
    | nil => intro _; rfl
    | cons a t ih =>
      intro hl
      have ha := hl a (by simp)
      have iht := ih fun b hb => hl b (by simp [hb])
      rw [List.map_cons, List.sum_cons, ← iht, sum_ind, List.filter_cons]
      cases hr : repB c ll m (S : Int) a with
      | false =>
        rw [if_neg (by simp)]
        have : ((List.range ll.length).filter fun k => (false && (decide (a < k) && agB c ll m (S : Int) a k))) = [] := by simp
        rw [this]; simp
      | true =>
        have e : ((List.range ll.length).filter fun k => (true && (decide (a < k) && agB c ll m (S : Int) a k))) = later c ll m S a := by unfold later; simp
        rw [e, Bool.true_and]
        by_cases hlen : 1 < (clsC c ll m (S : Int) a).length
        · rw [if_pos (decide_eq_true hlen), List.map_cons, List.sum_cons]
        · rw [if_neg (by rw [decide_eq_true_eq]; exact hlen)]
          rw [clsC_len1 ha] at hlen
          have : (later c ll m S a).length = 0 := by omega
          rw [this]; omega
  rw [h1]
  unfold reps
  rw [h2 _ (fun a ha => List.mem_range.1 ha), sum_swap]
  unfold nonreps
  rw [← sum_ind]
  congr 1
  refine List.map_congr_left fun k hk => ?_
  have hkl := List.mem_range.1 hk
  rw [sum_ind]
  cases hr : repB c ll m (S : Int) k with
  | true =>
    rw [if_neg (by simp), List.length_eq_zero_iff, List.filter_eq_nil_iff]
    intro a ha h
    rw [Bool.and_eq_true, Bool.and_eq_true, decide_eq_true_eq] at h
    unfold repB at hr
    rw [Bool.not_eq_true', List.any_eq_false] at hr
    exact hr a (List.mem_range.2 h.2.1) h.2.2
  | false =>
    rw [if_pos (by simp)]
    unfold repB at hr
    rw [Bool.not_eq_false', List.any_eq_true] at hr
    obtain ⟨b, hb, hbk⟩ := hr
    obtain ⟨a, g1, g2, g3⟩ := rep_least hc hS k (b + 1) b (by omega) (List.mem_range.1 hb) hbk
    refine filter_one _ _ a (by omega) fun x hx => ?_
    rw [Bool.and_eq_true, Bool.and_eq_true, decide_eq_true_eq]
    constructor
    · rintro ⟨x1, x2, x3⟩
      have hxa := agB_trans hc hS x3 (agB_symm hc hS g3)
      rcases Nat.lt_trichotomy x a with hlt | he | hlt
      · unfold repB at g2
        rw [Bool.not_eq_true', List.any_eq_false] at g2
        exact (g2 x (List.mem_range.2 hlt) hxa).elim
      · exact he
      · unfold repB at x1
        rw [Bool.not_eq_true', List.any_eq_false] at x1
        exact (x1 a (List.mem_range.2 hlt) (agB_symm hc hS hxa)).elim
    · rintro rfl; exact ⟨g2, g1, g3⟩
theorem filter_same {n : Nat} {p q : Nat → Bool} (h : ∀ k, k < n → q k = true → p k = true) (hl : ((List.range n).filter p).length = ((List.range n).filter q).length) : ∀ k, k < n → p k = true → q k = true := by
  have hs : ((List.range n).filter q).Sublist ((List.range n).filter p) := by
    have e : (List.range n).filter q = ((List.range n).filter p).filter q := by
      rw [List.filter_filter]
      refine List.filter_congr fun k hk => ?_
      have := h k (List.mem_range.1 hk)
      cases hq : q k with
      | false => rfl
      | true => rw [this hq]; rfl
    rw [e]; exact List.filter_sublist
  have he := hs.eq_of_length hl.symm
  intro k hk hp
  have : k ∈ (List.range n).filter q := by rw [he, List.mem_filter, List.mem_range]; exact ⟨hk, hp⟩
  exact (List.mem_filter.1 this).2
/-- A dependency holds just if the error of its left side is that of both sides. -/
theorem holds_error (hc : c ≤ 5) (hL : L < 2 ^ c) (hR : R < c) : errTo (parL c ll m L) (parL c ll m L).length = errTo (parL c ll m (L ||| 2 ^ R)) (parL c ll m (L ||| 2 ^ R)).length ↔ HoldsAll c ll m L R := by
  have hO : (L ||| 2 ^ R) < 2 ^ c := or_lt ⟨c, by omega⟩ ⟨L, lt32 hc hL⟩ ⟨R, by omega⟩ hL hR
  rw [parL_error hc hL, parL_error hc hO]
  have hsub : ∀ k, k < ll.length → (!repB c ll m ((L ||| 2 ^ R : Nat) : Int) k) = true → (!repB c ll m (L : Int) k) = true := by
    intro k hk h
    unfold repB at h ⊢
    rw [Bool.not_not, List.any_eq_true] at h ⊢
    obtain ⟨b, hb, hbk⟩ := h
    exact ⟨b, hb, ((agB_or hc hL hR b k).1 hbk).1⟩
  constructor
  · intro h
    have hl : ((List.range ll.length).filter fun k => !repB c ll m (L : Int) k).length = ((List.range ll.length).filter fun k => !repB c ll m ((L ||| 2 ^ R : Nat) : Int) k).length := by
      unfold nonreps at h; omega
    have hall := filter_same hsub hl
    -- from a first row on, all rows of its class agree in both
    have key : ∀ a, repB c ll m (L : Int) a = true → ∀ n x, x < n → a < x → x < ll.length → agB c ll m (L : Int) a x = true → agB c ll m ((L ||| 2 ^ R : Nat) : Int) a x = true := by
      intro a hrep n
      induction n with
      | zero => intro x hx; omega
      | succ n ih =>
        intro x hxn hax hx hagr
        have hnr : (!repB c ll m (L : Int) x) = true := by
          unfold repB
          rw [Bool.not_not, List.any_eq_true]
          exact ⟨a, List.mem_range.2 hax, hagr⟩
        have hno := hall x hx hnr
        unfold repB at hno
        rw [Bool.not_not, List.any_eq_true] at hno
        obtain ⟨b, hb, hbx⟩ := hno
        have hb' := List.mem_range.1 hb
        have hbL := ((agB_or hc hL hR b x).1 hbx).1
        have hab := agB_trans hc hL hagr (agB_symm hc hL hbL)
        rcases Nat.lt_trichotomy b a with hlt | rfl | hlt
        · unfold repB at hrep
          rw [Bool.not_eq_true', List.any_eq_false] at hrep
          exact (hrep b (List.mem_range.2 hlt) (agB_symm hc hL hab)).elim
        · exact hbx
        · exact agB_trans hc hO (ih b (by omega) hlt (by omega) hab) hbx
    intro i k hik hk hagr
    have hO2 : agB c ll m ((L ||| 2 ^ R : Nat) : Int) i k = true := by
      cases hr : repB c ll m (L : Int) i with
      | true => exact key i hr (k + 1) k (by omega) hik hk hagr
      | false =>
        unfold repB at hr
        rw [Bool.not_eq_false', List.any_eq_true] at hr
        obtain ⟨b, hb, hbi⟩ := hr
        obtain ⟨a, g1, g2, g3⟩ := rep_least hc hL i (b + 1) b (by omega) (List.mem_range.1 hb) hbi
        have h1 := key a g2 (i + 1) i (by omega) g1 (by omega) g3
        have h2 := key a g2 (k + 1) k (by omega) (by omega) hk (agB_trans hc hL g3 hagr)
        exact agB_trans hc hO (agB_symm hc hO h1) h2
    exact ((agB_or hc hL hR i k).1 hO2).2
  · intro h
    congr 1
    unfold nonreps
    congr 1
    refine List.filter_congr fun k hk => ?_
    have hkl := List.mem_range.1 hk
    congr 1
    unfold repB
    congr 1
    rw [Bool.eq_iff_iff, List.any_eq_true, List.any_eq_true]
    constructor
    · rintro ⟨b, hb, hbk⟩
      exact ⟨b, hb, (agB_or hc hL hR b k).2 ⟨hbk, h b k (List.mem_range.1 hb) hkl hbk⟩⟩
    · rintro ⟨b, hb, hbk⟩
      exact ⟨b, hb, ((agB_or hc hL hR b k).1 hbk).1⟩
theorem or_finer (hc : c ≤ 5) (hL : L < 2 ^ c) (hR : R < c) : Fin2 c ll m (L ||| 2 ^ R) L := fun i k _ _ h => ((agB_or hc hL hR i k).1 h).1
end
end Go.Proofs.YtfndnaldgaaieaaGreatDoor
namespace Go.Proofs.YtfndnaldgaaieaaGreatDoor

section
variable {c : Nat} {ll : List (List Int)} {m : Int} {L R : Nat}
theorem clSt_parL (hc : c ≤ 5) (hL : L < 2 ^ c) : (clSt c ll m (L : Int) ll.length).1 = parL c ll m L := (clSt_eq hc hL ll.length (Nat.le_refl _)).1
theorem mostTo_ge (p : List Int) (k : Nat) : ∀ n, k < n → sameTo c ll m R p k p.length ≤ mostTo c ll m R p n
  | 0, h => absurd h (Nat.not_lt_zero _)
  | n + 1, h => by
    unfold mostTo
    by_cases hk : k = n
    · subst hk; omega
    · have := mostTo_ge p k n (by omega)
      omega
theorem mostTo_is (p : List Int) : ∀ n, mostTo c ll m R p n = 0 ∧ n = 0 ∨ ∃ k, k < n ∧ mostTo c ll m R p n = sameTo c ll m R p k p.length
  | 0 => .inl ⟨rfl, rfl⟩
  | n + 1 => by
    right
    unfold mostTo
    rcases mostTo_is p n with ⟨h, h0⟩ | ⟨k, hk, h⟩
    · exact ⟨n, by omega, by rw [h]; omega⟩
    · by_cases hle : mostTo c ll m R p n ≤ sameTo c ll m R p n p.length
      · exact ⟨n, by omega, by omega⟩
      · exact ⟨k, by omega, by rw [← h]; omega⟩
theorem sameTo_lt (p : List Int) (k : Nat) : ∀ j, sameTo c ll m R p k j + (if j ≤ k then 0 else 1) ≤ j + 1
  | 0 => by simp [sameTo]
  | j + 1 => by
    have ih := sameTo_lt p k j
    unfold sameTo
    by_cases hjk : j = k
    · subst hjk
      rw [if_neg (fun h => h.1 rfl), if_neg (by omega)]
      rw [if_pos (Nat.le_refl _)] at ih
      omega
    · split
      · split at ih <;> split <;> omega
      · split at ih <;> split <;> omega
theorem mostTo_len (p : List Int) : mostTo c ll m R p p.length ≤ p.length := by
  rcases mostTo_is (c := c) (ll := ll) (m := m) (R := R) p p.length with ⟨h, -⟩ | ⟨k, hk, h⟩
  · omega
  · have := sameTo_lt (c := c) (ll := ll) (m := m) (R := R) p k p.length
    rw [if_neg (by omega)] at this
    omega
theorem remTo_sum (P : List (List Int)) : ∀ i, i ≤ P.length → remTo c ll m R P i = ((((P.take i).map fun r => r.length - mostTo c ll m R r r.length).sum : Nat) : Int)
  | 0, _ => rfl
  | i + 1, hi => by
    rw [take_succ_getD P [] i (by omega), List.map_append, List.sum_append]
    unfold remTo
    rw [remTo_sum P i (by omega)]
    have := mostTo_len (c := c) (ll := ll) (m := m) (R := R) (P.getD i [])
    simp only [List.map_cons, List.map_nil, List.sum_cons, List.sum_nil]
    omega
/-- The kept rows of a class, all equal on the right, are no more than the most. -/
theorem kept_same (p : List Int) (M : Int → Bool) (k : Nat) (hMk : M (p.getD k 0) = true) (hall : ∀ j, j < p.length → j ≠ k → M (p.getD j 0) = true → eqR c ll m R (p.getD k 0) (p.getD j 0) = true) :
    ∀ j, j ≤ p.length → ((p.take j).filter M).length + (if j ≤ k then 1 else 0) ≤ sameTo c ll m R p k j
  | 0, _ => by simp [sameTo]
  | j + 1, hj => by
    have ih := kept_same p M k hMk hall j (by omega)
    have es : sameTo c ll m R p k (j + 1) = if j ≠ k ∧ eqR c ll m R (p.getD k 0) (p.getD j 0) = true then sameTo c ll m R p k j + 1 else sameTo c ll m R p k j := rfl
    rw [take_succ_getD p 0 j (by omega), List.filter_append, List.length_append]
    by_cases hjk : j = k
    · subst hjk
      have es2 : sameTo c ll m R p j (j + 1) = sameTo c ll m R p j j := by rw [es]; exact if_neg (fun h => h.1 rfl)
      rw [es2, if_neg (show ¬ j + 1 ≤ j by omega), List.filter_cons, if_pos hMk]
      rw [if_pos (Nat.le_refl _)] at ih
      simp only [List.filter_nil, List.length_cons, List.length_nil]
      omega
    · have h1 : (if j + 1 ≤ k then 1 else 0) ≤ (if j ≤ k then 1 else 0) := by split <;> split <;> omega
      cases hM : M (p.getD j 0) with
      | true =>
        have es2 : sameTo c ll m R p k (j + 1) = sameTo c ll m R p k j + 1 := by rw [es]; exact if_pos ⟨hjk, hall j (by omega) hjk hM⟩
        rw [es2, List.filter_cons, if_pos hM]
        simp only [List.filter_nil, List.length_cons, List.length_nil]
        omega
      | false =>
        have es2 : sameTo c ll m R p k j ≤ sameTo c ll m R p k (j + 1) := by rw [es]; split <;> omega
        rw [List.filter_cons, if_neg (by rw [hM]; simp)]
        simp only [List.filter_nil, List.length_nil]
        omega
theorem kept_most (p : List Int) (M : Int → Bool) (hall : ∀ j k, j < p.length → k < p.length → j ≠ k → M (p.getD k 0) = true → M (p.getD j 0) = true → eqR c ll m R (p.getD k 0) (p.getD j 0) = true) : (p.filter M).length ≤ mostTo c ll m R p p.length := by
  by_cases hex : ∃ k, k < p.length ∧ M (p.getD k 0) = true
  · obtain ⟨k, hk, hM⟩ := hex
    have h1 := kept_same (c := c) (ll := ll) (m := m) (R := R) p M k hM (fun j hj hne hMj => hall j k hj hk hne hM hMj) p.length (Nat.le_refl _)
    rw [List.take_length] at h1
    have h2 := mostTo_ge (c := c) (ll := ll) (m := m) (R := R) p k p.length hk
    omega
  · have : p.filter M = [] := by
      rw [List.filter_eq_nil_iff]
      intro x hx hMx
      obtain ⟨j, hj, rfl⟩ := mem_getD'.mp hx
      exact hex ⟨j, hj, hMx⟩
    rw [this]; exact Nat.zero_le _
theorem filter_split {α : Type} (l : List α) (p : α → Bool) : l.length = (l.filter p).length + (l.filter fun x => !p x).length := by
  induction l with
  | nil => rfl
  | cons x t ih =>
    rw [List.filter_cons, List.filter_cons, List.length_cons, ih]
    cases h : p x with
    | true => simp; omega
    | false => simp; omega
theorem sum_le {α : Type} (l : List α) (f g : α → Nat) (h : ∀ x ∈ l, f x ≤ g x) : (l.map f).sum ≤ (l.map g).sum := by
  induction l with
  | nil => exact Nat.le_refl _
  | cons x t ih =>
    have h1 := h x (by simp)
    have h2 := ih fun y hy => h y (by simp [hy])
    simp only [List.map_cons, List.sum_cons]
    omega
theorem asc_one (l : List Nat) (hp : l.Pairwise fun a b => a < b) (h : ∀ a ∈ l, ∀ b ∈ l, a = b) : l.length ≤ 1 := by
  match l, hp, h with
  | [], _, _ => exact Nat.zero_le _
  | [x], _, _ => exact Nat.le_refl _
  | x :: y :: t, hp, h =>
    rw [List.pairwise_cons] at hp
    have h1 := hp.1 y (by simp)
    have h2 := h x (by simp) y (by simp)
    omega
/-- What was removed, class by class, is no more than what was removed. -/
theorem removed_le (hc : c ≤ 5) (hL : L < 2 ^ c) (M : Nat → Bool) : ((parL c ll m L).map fun r => (r.filter fun x => !M x.toNat).length).sum ≤ ((List.range ll.length).filter fun k => !M k).length := by
  rw [parL_map, List.map_map]
  have h1 : ((reps c ll m L).map ((fun r : List Int => (r.filter fun x => !M x.toNat).length) ∘ clsC c ll m (L : Int))).sum = ((reps c ll m L).map fun a => ((List.range ll.length).map fun k => if (agB c ll m (L : Int) a k && !M k) = true then 1 else 0).sum).sum := by
    congr 1
    refine List.map_congr_left fun a ha => ?_
    rw [sum_ind]
    have e : (clsC c ll m (L : Int) a).filter (fun x => !M x.toNat) = ((List.range ll.length).filter fun k => agB c ll m (L : Int) a k && !M k).map fun (k : Nat) => (k : Int) := by
      refine ascH_unique (r := fun x y => x < y) (fun x => by omega) (fun x y z => by omega) _ _ ((clsC_asc _ _).filter _) ?_ fun x => ?_
      · rw [List.pairwise_map]
        exact (List.pairwise_lt_range.filter _).imp fun {x y} h => by omega
      · rw [List.mem_filter, rep_mem hc hL ha, List.mem_map]
        constructor
        · rintro ⟨⟨k, k1, rfl, k3⟩, h⟩
          exact ⟨k, by rw [List.mem_filter, List.mem_range, Bool.and_eq_true]; exact ⟨k1, k3, h⟩, rfl⟩
        · rintro ⟨k, hk, rfl⟩
          rw [List.mem_filter, List.mem_range, Bool.and_eq_true] at hk
          exact ⟨⟨k, hk.1, rfl, hk.2.1⟩, hk.2.2⟩
    show ((clsC c ll m (L : Int) a).filter fun x => !M x.toNat).length = _
    rw [e, List.length_map]
  rw [h1, sum_swap, ← sum_ind]
  refine sum_le _ _ _ fun k hk => ?_
  rw [sum_ind]
  cases hM : M k with
  | true => simp
  | false =>
    rw [if_pos (by simp)]
    refine asc_one _ (reps_asc.filter _) fun a ha b hb => ?_
    rw [List.mem_filter, Bool.and_eq_true] at ha hb
    obtain ⟨a1, a2, -⟩ := reps_mem.1 ha.1
    obtain ⟨b1, b2, -⟩ := reps_mem.1 hb.1
    have hab := agB_trans hc hL ha.2.1 (agB_symm hc hL hb.2.1)
    rcases Nat.lt_trichotomy a b with hlt | he | hlt
    · unfold repB at b2
      rw [Bool.not_eq_true', List.any_eq_false] at b2
      exact (b2 a (List.mem_range.2 hlt) hab).elim
    · exact he
    · unfold repB at a2
      rw [Bool.not_eq_true', List.any_eq_false] at a2
      exact (a2 b (List.mem_range.2 hlt) (agB_symm hc hL hab)).elim
/-- Rows are kept without a violation only if as many are removed as are stated. -/
theorem rem_least (hc : c ≤ 5) (hL : L < 2 ^ c) (hR : R < c) (M : Nat → Bool) (hM : ∀ i k, i < k → k < ll.length → M i = true → M k = true → agB c ll m (L : Int) i k = true → agB c ll m ((2 ^ R : Nat) : Int) i k = true) :
    remTo c ll m R (parL c ll m L) (parL c ll m L).length ≤ (((List.range ll.length).filter fun k => !M k).length : Int) := by
  have hP : 2 ^ R < 2 ^ c := Nat.pow_lt_pow_right (by omega) hR
  rw [remTo_sum _ _ (Nat.le_refl _), List.take_length]
  refine Int.ofNat_le.2 (Nat.le_trans (sum_le _ _ _ fun r hr => ?_) (removed_le (m := m) hc hL M))
  obtain ⟨j, hj, rfl⟩ := List.mem_iff_getElem.1 hr
  obtain ⟨e, hm⟩ := parL_get hj
  rw [List.getD_eq_getElem?_getD, List.getElem?_eq_getElem hj] at e
  simp only [Option.getD_some] at e
  have hsp := filter_split ((parL c ll m L)[j]) (fun x => M x.toNat)
  have hk := kept_most (c := c) (ll := ll) (m := m) (R := R) ((parL c ll m L)[j]) (fun x => M x.toNat) (fun t s ht hs hne hMs hMt => by
    rw [e] at ht hs hMs hMt ⊢
    have hmt : (clsC c ll m (L : Int) ((reps c ll m L).getD j 0)).getD t 0 ∈ clsC c ll m (L : Int) ((reps c ll m L).getD j 0) := by rw [← get_getD _ t ht]; exact List.getElem_mem _
    have hms : (clsC c ll m (L : Int) ((reps c ll m L).getD j 0)).getD s 0 ∈ clsC c ll m (L : Int) ((reps c ll m L).getD j 0) := by rw [← get_getD _ s hs]; exact List.getElem_mem _
    obtain ⟨y, y1, y2, y3⟩ := (rep_mem hc hL hm).1 hmt
    obtain ⟨x, x1, x2, x3⟩ := (rep_mem hc hL hm).1 hms
    have hxy : x ≠ y := by
      intro he
      have hp := clsC_asc (c := c) (ll := ll) (m := m) ((reps c ll m L).getD j 0) (L : Int)
      have hpg := List.pairwise_iff_getElem.1 hp
      rcases Nat.lt_trichotomy s t with hlt | he2 | hlt
      · have := hpg s t hs ht hlt
        rw [get_getD _ s hs, get_getD _ t ht, x2, y2] at this
        omega
      · exact hne he2.symm
      · have := hpg t s ht hs hlt
        rw [get_getD _ s hs, get_getD _ t ht, x2, y2] at this
        omega
    rw [x2] at hMs ⊢
    rw [y2] at hMt ⊢
    simp only [show ∀ n : Nat, ((n : Int)).toNat = n from fun n => rfl] at hMs hMt
    have hag := agB_trans hc hL (agB_symm hc hL x3) y3
    have hrr : agB c ll m ((2 ^ R : Nat) : Int) x y = true := by
      rcases Nat.lt_trichotomy x y with hlt | he | hlt
      · exact hM x y hlt y1 hMs hMt hag
      · exact (hxy he).elim
      · exact agB_symm hc hP (hM y x hlt x1 hMt hMs (agB_symm hc hL hag))
    rw [agB_one hc hR] at hrr
    exact hrr)
  show ((parL c ll m L)[j]).length - mostTo c ll m R ((parL c ll m L)[j]) ((parL c ll m L)[j]).length ≤ _
  omega
theorem same_miss (p : List Int) (k t : Nat) (htk : t ≠ k) (h : eqR c ll m R (p.getD k 0) (p.getD t 0) = false) : ∀ j, t < j → sameTo c ll m R p k j + (if j ≤ k then 0 else 1) ≤ j
  | 0, hj => absurd hj (Nat.not_lt_zero _)
  | j + 1, hj => by
    have es : sameTo c ll m R p k (j + 1) = if j ≠ k ∧ eqR c ll m R (p.getD k 0) (p.getD j 0) = true then sameTo c ll m R p k j + 1 else sameTo c ll m R p k j := rfl
    by_cases htj : t = j
    · subst htj
      have h0 := sameTo_lt (c := c) (ll := ll) (m := m) (R := R) p k t
      have es2 : sameTo c ll m R p k (t + 1) = sameTo c ll m R p k t := by rw [es]; exact if_neg (fun g => by rw [h] at g; cases g.2)
      rw [es2]
      split at h0 <;> split <;> omega
    · have ih := same_miss p k t htk h j (by omega)
      by_cases hjk : j = k
      · subst hjk
        have es2 : sameTo c ll m R p j (j + 1) = sameTo c ll m R p j j := by rw [es]; exact if_neg (fun g => g.1 rfl)
        rw [es2, if_neg (by omega)]
        rw [if_pos (Nat.le_refl _)] at ih
        omega
      · have es2 : sameTo c ll m R p k (j + 1) ≤ sameTo c ll m R p k j + 1 := by rw [es]; split <;> omega
        split at ih <;> split <;> omega
theorem sum_zero {α : Type} (l : List α) (f : α → Nat) (h : (l.map f).sum = 0) : ∀ x ∈ l, f x = 0 := by
  induction l with
  | nil => intro x hx; cases hx
  | cons y t ih =>
    simp only [List.map_cons, List.sum_cons] at h
    intro x hx
    rcases List.mem_cons.1 hx with rfl | hx
    · omega
    · exact ih (by omega) x hx
theorem remTo_nat (P : List (List Int)) : 0 ≤ remTo c ll m R P P.length := by
  rw [remTo_sum _ _ (Nat.le_refl _)]; omega
/-- No rows have to be removed just if it holds. -/
theorem rem_zero (hc : c ≤ 5) (hL : L < 2 ^ c) (hR : R < c) : remTo c ll m R (parL c ll m L) (parL c ll m L).length = 0 ↔ HoldsAll c ll m L R := by
  have hP : 2 ^ R < 2 ^ c := Nat.pow_lt_pow_right (by omega) hR
  constructor
  · intro h0 i k hik hk hag
    rw [remTo_sum _ _ (Nat.le_refl _), List.take_length] at h0
    have hz := sum_zero _ _ (Int.ofNat.inj h0)
    -- the class of both rows
    have h40 : ∃ a, a ∈ reps c ll m L ∧ agB c ll m (L : Int) a i = true := by
      cases hr : repB c ll m (L : Int) i with
      | true => exact ⟨i, reps_mem.2 ⟨by omega, hr, (clsC_two (by omega)).2 ⟨k, hik, hk, hag⟩⟩, agB_trans hc hL hag (agB_symm hc hL hag)⟩
      | false =>
        unfold repB at hr
        rw [Bool.not_eq_false', List.any_eq_true] at hr
        obtain ⟨b, hb, hbi⟩ := hr
        obtain ⟨a, g1, g2, g3⟩ := rep_least hc hL i (b + 1) b (by omega) (List.mem_range.1 hb) hbi
        exact ⟨a, reps_mem.2 ⟨by omega, g2, (clsC_two (by omega)).2 ⟨i, g1, by omega, g3⟩⟩, g3⟩
    obtain ⟨a, ham, hai⟩ := h40
    obtain ⟨a1, a2, a3⟩ := reps_mem.1 ham
    have hrm : clsC c ll m (L : Int) a ∈ parL c ll m L := by rw [parL_map]; exact List.mem_map.2 ⟨a, ham, rfl⟩
    have hmost := hz _ hrm
    have hml := mostTo_len (c := c) (ll := ll) (m := m) (R := R) (clsC c ll m (L : Int) a)
    rcases mostTo_is (c := c) (ll := ll) (m := m) (R := R) (clsC c ll m (L : Int) a) (clsC c ll m (L : Int) a).length with ⟨-, g0⟩ | ⟨s, hs, g⟩
    · omega
    · have hall : ∀ t, t < (clsC c ll m (L : Int) a).length → t ≠ s → eqR c ll m R ((clsC c ll m (L : Int) a).getD s 0) ((clsC c ll m (L : Int) a).getD t 0) = true := by
        intro t ht hts
        cases he : eqR c ll m R ((clsC c ll m (L : Int) a).getD s 0) ((clsC c ll m (L : Int) a).getD t 0) with
        | true => rfl
        | false =>
          have hmi := same_miss (c := c) (ll := ll) (m := m) (R := R) (clsC c ll m (L : Int) a) s t hts he _ ht
          rw [if_neg (by omega)] at hmi
          omega
      have hms : (clsC c ll m (L : Int) a).getD s 0 ∈ clsC c ll m (L : Int) a := by rw [← get_getD _ s hs]; exact List.getElem_mem _
      obtain ⟨x, x1, x2, x3⟩ := (rep_mem hc hL ham).1 hms
      have hto : ∀ y : Nat, y < ll.length → agB c ll m (L : Int) a y = true → y ≠ x → agB c ll m ((2 ^ R : Nat) : Int) x y = true := by
        intro y hy hay hyx
        obtain ⟨t, ht, he⟩ := mem_getD'.mp ((rep_mem hc hL ham).2 ⟨y, hy, rfl, hay⟩)
        have hts : t ≠ s := fun e => by rw [e, x2] at he; omega
        have := hall t ht hts
        rw [x2, ← he] at this
        rw [agB_one hc hR]
        exact this
      have hak := agB_trans hc hL hai hag
      by_cases hix : i = x
      · subst hix
        exact hto k hk hak (by omega)
      · by_cases hkx : k = x
        · subst hkx
          exact agB_symm hc hP (hto i (by omega) hai hix)
        · exact agB_trans hc hP (agB_symm hc hP (hto i (by omega) hai hix)) (hto k hk hak hkx)
  · intro h
    have h1 := rem_least (ll := ll) (m := m) hc hL hR (fun _ => true) (fun i k hik hk _ _ => h i k hik hk)
    have h2 := remTo_nat (c := c) (ll := ll) (m := m) (R := R) (parL c ll m L)
    have h3 : ((List.range ll.length).filter fun _ => !true) = [] := by simp
    rw [h3] at h1
    simp only [List.length_nil] at h1
    omega
/-- A row stays. -/
theorem rem_lt (hc : c ≤ 5) (hL : L < 2 ^ c) (h : 0 < remTo c ll m R (parL c ll m L) (parL c ll m L).length) : remTo c ll m R (parL c ll m L) (parL c ll m L).length < (ll.length : Int) := by
  have he := parL_error (ll := ll) (m := m) hc hL
  rw [errTo_sum _ _ (Nat.le_refl _), List.take_length] at he
  rw [remTo_sum _ _ (Nat.le_refl _), List.take_length] at h ⊢
  have h1 := sum_le (parL c ll m L) (fun r => r.length - mostTo c ll m R r r.length) (fun r => r.length - 1) (fun r hr => by
    rcases mostTo_is (c := c) (ll := ll) (m := m) (R := R) r r.length with ⟨-, g0⟩ | ⟨s, hs, g⟩
    · omega
    · have := (sameTo_le c ll m R r s r.length).1
      omega)
  have h2 : (nonreps c ll m L).length + 1 ≤ ll.length ∨ ll.length = 0 := by
    by_cases h0 : ll.length = 0
    · exact .inr h0
    · left
      have hsp := filter_split (List.range ll.length) (fun k => !repB c ll m (L : Int) k)
      rw [List.length_range] at hsp
      have h3 : 0 ∈ (List.range ll.length).filter fun x => !(!repB c ll m (L : Int) x) := by
        rw [List.mem_filter, List.mem_range]
        exact ⟨by omega, by unfold repB; simp⟩
      have h4 : 0 < ((List.range ll.length).filter fun x => !(!repB c ll m (L : Int) x)).length := List.length_pos_of_mem h3
      unfold nonreps
      omega
  have h3 : (nonreps c ll m L).length ≤ ll.length := by unfold nonreps; exact Nat.le_trans (List.length_filter_le _ _) (by simp)
  omega
end
end Go.Proofs.YtfndnaldgaaieaaGreatDoor
