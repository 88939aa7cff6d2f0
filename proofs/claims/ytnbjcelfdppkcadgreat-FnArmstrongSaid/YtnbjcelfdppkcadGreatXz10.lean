/- Texts of this claim, merged: PmC. Conditions: as stated. -/
import Derived.Test.YtnbjcelfdppkcadGreatXz8
namespace Go.Proofs.YtnbjcelfdppkcadGreat

section
variable {c : Nat} {ll : List (List Int)} {m : Int} {S T L R : Nat}
/-- What agrees in S agrees in T. -/
def Fin2 (c : Nat) (ll : List (List Int)) (m : Int) (S T : Nat) : Prop := ∀ i k, i < k → k < ll.length → agB c ll m (S : Int) i k = true → agB c ll m (T : Int) i k = true
theorem Fin2.ne (hc : c ≤ 5) (hS : S < 2 ^ c) (hT : T < 2 ^ c) (h : Fin2 c ll m S T) {i k : Nat} (hi : i < ll.length) (hk : k < ll.length) (hne : i ≠ k) (ha : agB c ll m (S : Int) i k = true) : agB c ll m (T : Int) i k = true := by
  rcases Nat.lt_trichotomy i k with hlt | he | hlt
  · exact h i k hlt hk ha
  · exact (hne he).elim
  · exact agB_symm hc hT (h k i hlt hi (agB_symm hc hS ha))
theorem clsC_first {a : Nat} (ha : a < ll.length) : (clsC c ll m (S : Int) a).getD 0 0 = (a : Int) := by
  have hz := (clsC_mem c ll m (S : Int) a ha _).2 (.inl rfl)
  cases hq : clsC c ll m (S : Int) a with
  | nil => rw [hq] at hz; cases hz
  | cons x t =>
    have hx := (clsC_mem c ll m (S : Int) a ha x).1 (by rw [hq]; simp)
    have hp := clsC_asc (c := c) (ll := ll) (m := m) a (S : Int)
    rw [hq, List.pairwise_cons] at hp
    rw [hq] at hz
    rcases List.mem_cons.1 hz with hz | hz
    · rw [hz]; rfl
    · have := hp.1 _ hz
      rcases hx with hx | ⟨k, k1, -, -, hx⟩ <;> omega
theorem parL_finer (hc : c ≤ 5) (hS : S < 2 ^ c) (hT : T < 2 ^ c) (h40 : ll.length ≤ 40) : finB (parL c ll m S) (parL c ll m T) = true ↔ Fin2 c ll m S T := by
  unfold finB
  rw [List.all_eq_true]
  constructor
  · intro h i k hik hk ha
    obtain ⟨h1, h0⟩ := (clsI_same hc hS h40 (by omega) hk (by omega)).2 ha
    have hge := clsI_ge (parL c ll m S) (i : Int)
    have hpp := parL_part (m := m) hc hS h40
    have hi := (clsI_part hpp (x := (i : Int)) (a := (clsI (parL c ll m S) (i : Int)).toNat) (by omega)).2 (by omega)
    have hk' := (clsI_part hpp (x := (k : Int)) (a := (clsI (parL c ll m S) (i : Int)).toNat) (by omega)).2 (by omega)
    have hr := h ((parL c ll m S).getD (clsI (parL c ll m S) (i : Int)).toNat []) (by rw [List.getD_eq_getElem?_getD, List.getElem?_eq_getElem (by omega)]; exact List.getElem_mem _)
    unfold finR at hr
    rw [Bool.and_eq_true, List.all_eq_true] at hr
    have g1 := of_decide_eq_true (hr.2 _ hi)
    have g2 := of_decide_eq_true (hr.2 _ hk')
    exact (clsI_same hc hT h40 (by omega) hk (by omega)).1 ⟨g1.2.trans g2.2.symm, g1.1⟩
  · intro h r hr
    obtain ⟨j, hj, rfl⟩ := List.mem_iff_getElem.1 hr
    obtain ⟨e, hm⟩ := parL_get hj
    rw [List.getD_eq_getElem?_getD, List.getElem?_eq_getElem hj] at e
    simp only [Option.getD_some] at e
    rw [e]
    obtain ⟨h1, h2, h3⟩ := reps_mem.1 hm
    obtain ⟨k, k1, k2, k3⟩ := (clsC_two h1).1 h3
    have hT1 := h _ k k1 k2 k3
    have h0 := (clsI_in hc hT h40 h1).2 ⟨k, k2, by omega, hT1⟩
    unfold finR
    rw [Bool.and_eq_true, List.all_eq_true, clsC_first h1]
    refine ⟨?_, fun x hx => ?_⟩
    · cases hq : parL c ll m T with
      | nil => rw [hq] at h0; simp [clsI] at h0
      | cons a t => rfl
    · obtain ⟨y, y1, rfl, y3⟩ := (rep_mem hc hS hm).1 hx
      refine decide_eq_true ?_
      by_cases hya : (reps c ll m S).getD j 0 = y
      · rw [← hya]; exact ⟨h0, rfl⟩
      · have := (clsI_same hc hT h40 h1 y1 hya).2 (h.ne hc hS hT h1 y1 hya y3)
        omega
/-! ### The error: the rows that have an equal one before them -/
theorem sum_map_add {α : Type} (l : List α) (f g : α → Nat) : (l.map fun x => f x + g x).sum = (l.map f).sum + (l.map g).sum := by
  induction l with
  | nil => rfl
  | cons x t ih => simp only [List.map_cons, List.sum_cons, ih]; omega
theorem sum_map_zero {α : Type} (l : List α) : (l.map fun _ => 0).sum = 0 := by
  induction l with
  | nil => rfl
  | cons x t ih => simp only [List.map_cons, List.sum_cons, ih]
theorem sum_swap {α β : Type} (l : List α) (k : List β) (f : α → β → Nat) : (l.map fun x => (k.map fun y => f x y).sum).sum = (k.map fun y => (l.map fun x => f x y).sum).sum := by
  induction l with
  | nil => simp only [List.map_nil, List.sum_nil, sum_map_zero]
  | cons x t ih => simp only [List.map_cons, List.sum_cons, ih, sum_map_add]
theorem sum_ind {α : Type} (l : List α) (p : α → Bool) : (l.map fun x => if p x = true then 1 else 0).sum = (l.filter p).length := by
  induction l with
  | nil => rfl
  | cons x t ih =>
    simp only [List.map_cons, List.sum_cons, ih]
    cases h : p x with
    | true => rw [if_pos rfl, List.filter_cons, if_pos h, List.length_cons]; omega
    | false => rw [if_neg (by simp), List.filter_cons, if_neg (by rw [h]; simp)]; omega
/-- The rows behind a that agree with it. -/
def later (c : Nat) (ll : List (List Int)) (m : Int) (S a : Nat) : List Nat := (List.range ll.length).filter fun k => decide (a < k) && agB c ll m (S : Int) a k
theorem clsC_len1 {a : Nat} (ha : a < ll.length) : (clsC c ll m (S : Int) a).length = 1 + (later c ll m S a).length := by
  have h : clsC c ll m (S : Int) a = (a : Int) :: (later c ll m S a).map fun (k : Nat) => (k : Int) := by
    refine ascH_unique (r := fun x y => x < y) (fun x => by omega) (fun x y z => by omega) _ _ (clsC_asc _ _) ?_ fun x => ?_
    · rw [List.pairwise_cons]
      refine ⟨fun x hx => ?_, ?_⟩
      · obtain ⟨k, hk, rfl⟩ := List.mem_map.1 hx
        unfold later at hk
        rw [List.mem_filter, Bool.and_eq_true, decide_eq_true_eq] at hk
        omega
      · rw [List.pairwise_map]
        unfold later
        exact (List.pairwise_lt_range.filter _).imp fun {x y} h => by omega
    · rw [clsC_mem c ll m _ a ha, List.mem_cons, List.mem_map]
      unfold later
      constructor
      · rintro (h | ⟨k, h1, h2, h3, h4⟩)
        · exact .inl h
        · exact .inr ⟨k, by rw [List.mem_filter, List.mem_range, Bool.and_eq_true, decide_eq_true_eq]; exact ⟨h2, h1, h3⟩, h4.symm⟩
      · rintro (h | ⟨k, hk, rfl⟩)
        · exact .inl h
        · rw [List.mem_filter, List.mem_range, Bool.and_eq_true, decide_eq_true_eq] at hk
          exact .inr ⟨k, hk.2.1, hk.1, hk.2.2, rfl⟩
  rw [h, List.length_cons, List.length_map]; omega
theorem errTo_sum (p : List (List Int)) : ∀ k, k ≤ p.length → errTo p k = ((((p.take k).map fun r => r.length - 1).sum : Nat) : Int)
  | 0, _ => rfl
  | k + 1, hk => by
    rw [take_succ_getD p [] k (by omega), List.map_append, List.sum_append]
    unfold errTo
    rw [errTo_sum p k (by omega)]
    simp only [List.map_cons, List.map_nil, List.sum_cons, List.sum_nil]
    omega
/-- The rows that have an equal one before them. -/
def nonreps (c : Nat) (ll : List (List Int)) (m : Int) (S : Nat) : List Nat := (List.range ll.length).filter fun k => !repB c ll m (S : Int) k
theorem filter_one (n : Nat) (p : Nat → Bool) (a : Nat) (ha : a < n) (h : ∀ k, k < n → (p k = true ↔ k = a)) : ((List.range n).filter p).length = 1 := by
  have : (List.range n).filter p = [a] := by
    refine ascH_unique (r := fun x y : Nat => x < y) (fun x => by omega) (fun x y z => by omega) _ _ (List.pairwise_lt_range.filter _) (by simp) fun x => ?_
    rw [List.mem_filter, List.mem_range, List.mem_singleton]
    constructor
    · rintro ⟨h1, h2⟩; exact (h x h1).1 h2
    · rintro rfl; exact ⟨ha, (h x ha).2 rfl⟩
  rw [this]; rfl
theorem parL_error (hc : c ≤ 5) (hS : S < 2 ^ c) : errTo (parL c ll m S) (parL c ll m S).length = (((nonreps c ll m S).length : Nat) : Int) := by
  rw [errTo_sum _ _ (Nat.le_refl _), List.take_length]
  congr 1
  -- each class counts the rows behind its first one
  have h1 : ((parL c ll m S).map fun r => r.length - 1).sum = ((reps c ll m S).map fun a => (later c ll m S a).length).sum := by
    rw [parL_map, List.map_map]
    congr 1
    refine List.map_congr_left fun a ha => ?_
    obtain ⟨g1, -, -⟩ := reps_mem.1 ha
    show (clsC c ll m (S : Int) a).length - 1 = _
    rw [clsC_len1 g1]; omega
  -- classes of one row count nothing
  have h2 : ∀ l : List Nat, (∀ a ∈ l, a < ll.length) → ((l.filter fun a => repB c ll m (S : Int) a && decide (1 < (clsC c ll m (S : Int) a).length)).map fun a => (later c ll m S a).length).sum = (l.map fun a => ((List.range ll.length).map fun k => if (repB c ll m (S : Int) a && (decide (a < k) && agB c ll m (S : Int) a k)) = true then 1 else 0).sum).sum := by
    intro l
    induction l with
    | nil => intro _; rfl
    | cons a t ih =>
      intro hl
      have ha := hl a (by simp)
      have iht := ih fun b hb => hl b (by simp [hb])
      rw [List.map_cons, List.sum_cons, ← iht, sum_ind, List.filter_cons]
      cases hr : repB c ll m (S : Int) a with
      | false =>
        rw [if_neg (by simp)]
        have : ((List.range ll.length).filter fun k => (false && (decide (a < k) && agB c ll m (S : Int) a k))) = [] := by simp
        rw [this]; simp
      | true =>
        have e : ((List.range ll.length).filter fun k => (true && (decide (a < k) && agB c ll m (S : Int) a k))) = later c ll m S a := by unfold later; simp
        rw [e, Bool.true_and]
        by_cases hlen : 1 < (clsC c ll m (S : Int) a).length
        · rw [if_pos (decide_eq_true hlen), List.map_cons, List.sum_cons]
        · rw [if_neg (by rw [decide_eq_true_eq]; exact hlen)]
          rw [clsC_len1 ha] at hlen
          have : (later c ll m S a).length = 0 := by omega
          rw [this]; omega
  rw [h1]
  unfold reps
  rw [h2 _ (fun a ha => List.mem_range.1 ha), sum_swap]
  unfold nonreps
  rw [← sum_ind]
  congr 1
  refine List.map_congr_left fun k hk => ?_
  have hkl := List.mem_range.1 hk
  rw [sum_ind]
  cases hr : repB c ll m (S : Int) k with
  | true =>
    rw [if_neg (by simp), List.length_eq_zero_iff, List.filter_eq_nil_iff]
    intro a ha h
    rw [Bool.and_eq_true, Bool.and_eq_true, decide_eq_true_eq] at h
    unfold repB at hr
    rw [Bool.not_eq_true', List.any_eq_false] at hr
    exact hr a (List.mem_range.2 h.2.1) h.2.2
  | false =>
    rw [if_pos (by simp)]
    unfold repB at hr
    rw [Bool.not_eq_false', List.any_eq_true] at hr
    obtain ⟨b, hb, hbk⟩ := hr
    obtain ⟨a, g1, g2, g3⟩ := rep_least hc hS k (b + 1) b (by omega) (List.mem_range.1 hb) hbk
    refine filter_one _ _ a (by omega) fun x hx => ?_
    rw [Bool.and_eq_true, Bool.and_eq_true, decide_eq_true_eq]
    constructor
    · rintro ⟨x1, x2, x3⟩
      have hxa := agB_trans hc hS x3 (agB_symm hc hS g3)
      rcases Nat.lt_trichotomy x a with hlt | he | hlt
      · unfold repB at g2
        rw [Bool.not_eq_true', List.any_eq_false] at g2
        exact (g2 x (List.mem_range.2 hlt) hxa).elim
      · exact he
      · unfold repB at x1
        rw [Bool.not_eq_true', List.any_eq_false] at x1
        exact (x1 a (List.mem_range.2 hlt) (agB_symm hc hS hxa)).elim
    · rintro rfl; exact ⟨g2, g1, g3⟩
theorem filter_same {n : Nat} {p q : Nat → Bool} (h : ∀ k, k < n → q k = true → p k = true) (hl : ((List.range n).filter p).length = ((List.range n).filter q).length) : ∀ k, k < n → p k = true → q k = true := by
  have hs : ((List.range n).filter q).Sublist ((List.range n).filter p) := by
    have e : (List.range n).filter q = ((List.range n).filter p).filter q := by
      rw [List.filter_filter]
      refine List.filter_congr fun k hk => ?_
      have := h k (List.mem_range.1 hk)
      cases hq : q k with
      | false => rfl
      | true => rw [this hq]; rfl
    rw [e]; exact List.filter_sublist
  have he := hs.eq_of_length hl.symm
  intro k hk hp
  have : k ∈ (List.range n).filter q := by rw [he, List.mem_filter, List.mem_range]; exact ⟨hk, hp⟩
  exact (List.mem_filter.1 this).2
/-- A dependency holds just if the error of its left side is that of both sides. -/
theorem holds_error (hc : c ≤ 5) (hL : L < 2 ^ c) (hR : R < c) : errTo (parL c ll m L) (parL c ll m L).length = errTo (parL c ll m (L ||| 2 ^ R)) (parL c ll m (L ||| 2 ^ R)).length ↔ HoldsAll c ll m L R := by
  have hO : (L ||| 2 ^ R) < 2 ^ c := or_lt ⟨c, by omega⟩ ⟨L, lt32 hc hL⟩ ⟨R, by omega⟩ hL hR
  rw [parL_error hc hL, parL_error hc hO]
  have hsub : ∀ k, k < ll.length → (!repB c ll m ((L ||| 2 ^ R : Nat) : Int) k) = true → (!repB c ll m (L : Int) k) = true := by
    intro k hk h
    unfold repB at h ⊢
    rw [Bool.not_not, List.any_eq_true] at h ⊢
    obtain ⟨b, hb, hbk⟩ := h
    exact ⟨b, hb, ((agB_or hc hL hR b k).1 hbk).1⟩
  constructor
  · intro h
    have hl : ((List.range ll.length).filter fun k => !repB c ll m (L : Int) k).length = ((List.range ll.length).filter fun k => !repB c ll m ((L ||| 2 ^ R : Nat) : Int) k).length := by
      unfold nonreps at h; omega
    have hall := filter_same hsub hl
    -- from a first row on, all rows of its class agree in both
    have key : ∀ a, repB c ll m (L : Int) a = true → ∀ n x, x < n → a < x → x < ll.length → agB c ll m (L : Int) a x = true → agB c ll m ((L ||| 2 ^ R : Nat) : Int) a x = true := by
      intro a hrep n
      induction n with
      | zero => intro x hx; omega
      | succ n ih =>
        intro x hxn hax hx hagr
        have hnr : (!repB c ll m (L : Int) x) = true := by
          unfold repB
          rw [Bool.not_not, List.any_eq_true]
          exact ⟨a, List.mem_range.2 hax, hagr⟩
        have hno := hall x hx hnr
        unfold repB at hno
        rw [Bool.not_not, List.any_eq_true] at hno
        obtain ⟨b, hb, hbx⟩ := hno
        have hb' := List.mem_range.1 hb
        have hbL := ((agB_or hc hL hR b x).1 hbx).1
        have hab := agB_trans hc hL hagr (agB_symm hc hL hbL)
        rcases Nat.lt_trichotomy b a with hlt | rfl | hlt
        · unfold repB at hrep
          rw [Bool.not_eq_true', List.any_eq_false] at hrep
          exact (hrep b (List.mem_range.2 hlt) (agB_symm hc hL hab)).elim
        · exact hbx
        · exact agB_trans hc hO (ih b (by omega) hlt (by omega) hab) hbx
    intro i k hik hk hagr
    have hO2 : agB c ll m ((L ||| 2 ^ R : Nat) : Int) i k = true := by
      cases hr : repB c ll m (L : Int) i with
      | true => exact key i hr (k + 1) k (by omega) hik hk hagr
      | false =>
        unfold repB at hr
        rw [Bool.not_eq_false', List.any_eq_true] at hr
        obtain ⟨b, hb, hbi⟩ := hr
        obtain ⟨a, g1, g2, g3⟩ := rep_least hc hL i (b + 1) b (by omega) (List.mem_range.1 hb) hbi
        have h1 := key a g2 (i + 1) i (by omega) g1 (by omega) g3
        have h2 := key a g2 (k + 1) k (by omega) (by omega) hk (agB_trans hc hL g3 hagr)
        exact agB_trans hc hO (agB_symm hc hO h1) h2
    exact ((agB_or hc hL hR i k).1 hO2).2
  · intro h
    congr 1
    unfold nonreps
    congr 1
    refine List.filter_congr fun k hk => ?_
    have hkl := List.mem_range.1 hk
    congr 1
    unfold repB
    congr 1
    rw [Bool.eq_iff_iff, List.any_eq_true, List.any_eq_true]
    constructor
    · rintro ⟨b, hb, hbk⟩
      exact ⟨b, hb, (agB_or hc hL hR b k).2 ⟨hbk, h b k (List.mem_range.1 hb) hkl hbk⟩⟩
    · rintro ⟨b, hb, hbk⟩
      exact ⟨b, hb, ((agB_or hc hL hR b k).1 hbk).1⟩
theorem or_finer (hc : c ≤ 5) (hL : L < 2 ^ c) (hR : R < c) : Fin2 c ll m (L ||| 2 ^ R) L := fun i k _ _ h => ((agB_or hc hL hR i k).1 h).1
end
end Go.Proofs.YtnbjcelfdppkcadGreat
