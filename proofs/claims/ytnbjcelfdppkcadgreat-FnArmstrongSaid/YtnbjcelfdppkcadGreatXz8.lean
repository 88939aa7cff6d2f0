/- Texts of this claim, merged: ParI, PmA, DepC, PmB, AgrC. Conditions: as stated. -/
import Derived.Test.YtnbjcelfdppkcadGreatXz7
import Derived.Test.YtnbjcelfdppkcadGreatXz5
import Derived.Test.YtnbjcelfdppkcadGreatXz4
namespace Go.Proofs.YtnbjcelfdppkcadGreat
open Go.RowKit

/-- What is asked of class i. -/
def Cls (p : List (List Int)) (rows : Int) (i : Nat) : Prop :=
  2 ≤ (p.getD i []).length ∧ lastTo p i < (p.getD i []).getD 0 0 ∧ (∀ k, k < (p.getD i []).length → 0 ≤ (p.getD i []).getD k 0 ∧ (p.getD i []).getD k 0 ≤ rows - 1) ∧
    (∀ k, k + 1 < (p.getD i []).length → (p.getD i []).getD k 0 < (p.getD i []).getD (k + 1) 0) ∧ ∀ x ∈ p.getD i [], x ∉ flatTo p i
theorem mem_getD' {l : List Int} {y : Int} : y ∈ l ↔ ∃ t, t < l.length ∧ y = l.getD t 0 := by
  constructor
  · intro h
    obtain ⟨t, ht, rfl⟩ := List.mem_iff_getElem.mp h
    exact ⟨t, ht, get_getD l t ht⟩
  · rintro ⟨t, ht, rfl⟩
    rw [← get_getD l t ht]; exact List.getElem_mem ht
theorem mem_take {l : List Int} {y : Int} {k : Nat} (hk : k ≤ l.length) : y ∈ l.take k ↔ ∃ t, t < k ∧ y = l.getD t 0 := by
  rw [mem_getD', List.length_take]
  constructor
  · rintro ⟨t, ht, h⟩
    refine ⟨t, by omega, ?_⟩
    rw [h, ← get_getD l t (by omega), ← get_getD (l.take k) t (by rw [List.length_take]; omega), List.getElem_take]
  · rintro ⟨t, ht, h⟩
    refine ⟨t, by omega, ?_⟩
    rw [h, ← get_getD l t (by omega), ← get_getD (l.take k) t (by rw [List.length_take]; omega), List.getElem_take]
theorem asc_lt {l : List Int} (h : ∀ k, k + 1 < l.length → l.getD k 0 < l.getD (k + 1) 0) {i : Nat} : ∀ d, i + d + 1 < l.length → l.getD i 0 < l.getD (i + d + 1) 0
  | 0, hd => h i hd
  | d + 1, hd => by
    have h1 := asc_lt h (i := i) d (by omega)
    have h2 := h (i + d + 1) (by omega)
    rw [show i + (d + 1) + 1 = i + d + 1 + 1 by omega]
    omega
theorem okC_iff {p : List (List Int)} {rows : Int} {i : Nat} : okC (rows - 1) p i = true ↔ Cls p rows i := by
  unfold okC Cls
  rw [Bool.and_eq_true, List.all_eq_true, decide_eq_true_eq]
  constructor
  · rintro ⟨⟨h1, h2⟩, h3⟩
    have hx : ∀ k, k < (p.getD i []).length → (0 ≤ (p.getD i []).getD k 0 ∧ (p.getD i []).getD k 0 ≤ rows - 1) ∧ (0 < k → (p.getD i []).getD (k - 1) 0 < (p.getD i []).getD k 0) ∧ (p.getD i []).getD k 0 ∉ flatTo p i ++ (p.getD i []).take k := by
      intro k hk
      have := h3 k (List.mem_range.mpr hk)
      unfold okX at this
      simp only [Bool.and_eq_true, Bool.not_eq_true', Bool.and_eq_false_iff, decide_eq_true_eq, decide_eq_false_iff_not] at this
      obtain ⟨⟨ha, hb⟩, hc⟩ := this
      exact ⟨ha, fun h0 => by rcases hb with hb | hb <;> omega, hc⟩
    refine ⟨h1, h2, fun k hk => (hx k hk).1, fun k hk => (hx (k + 1) hk).2.1 (by omega), fun x hxm => ?_⟩
    obtain ⟨t, ht, rfl⟩ := mem_getD'.mp hxm
    exact fun hf => (hx t ht).2.2 (List.mem_append.mpr (Or.inl hf))
  · rintro ⟨h1, h2, h3, h4, h5⟩
    refine ⟨⟨h1, h2⟩, fun k hk => ?_⟩
    have hk' := List.mem_range.mp hk
    unfold okX
    simp only [Bool.and_eq_true, Bool.not_eq_true', Bool.and_eq_false_iff, decide_eq_true_eq, decide_eq_false_iff_not]
    refine ⟨⟨h3 k hk', ?_⟩, fun hm => ?_⟩
    · by_cases h0 : 0 < k
      · right
        have := h4 (k - 1) (by omega)
        rw [show k - 1 + 1 = k by omega] at this
        omega
      · exact Or.inl h0
    · rcases List.mem_append.mp hm with hm | hm
      · exact h5 _ (mem_getD'.mpr ⟨k, hk', rfl⟩) hm
      · obtain ⟨t, ht, e⟩ := (mem_take (by omega)).mp hm
        have := asc_lt h4 (i := t) (k - t - 1) (by omega)
        rw [show t + (k - t - 1) + 1 = k by omega] at this
        omega
theorem partP_iff {p : List (List Int)} {rows : Int} : partP p rows = true ↔ (0 ≤ rows ∧ rows ≤ 40) ∧ ∀ i, i < p.length → Cls p rows i := by
  constructor
  · intro h
    have hr := partP_rows h
    have hR : IntKind.i64.wrap (rows - 1) = rows - 1 := by rw [IntKind.wrap_i64]; omega
    unfold partP at h
    rw [Bool.and_eq_true, List.all_eq_true, hR] at h
    exact ⟨hr, fun i hi => okC_iff.mp (h.1 i (List.mem_range.mpr hi))⟩
  · rintro ⟨hr, h⟩
    have hR : IntKind.i64.wrap (rows - 1) = rows - 1 := by rw [IntKind.wrap_i64]; omega
    unfold partP
    rw [Bool.and_eq_true, List.all_eq_true, hR, decide_eq_true_eq]
    exact ⟨fun i hi => okC_iff.mpr (h i (List.mem_range.mp hi)), hr⟩
theorem mem_flatTo {p : List (List Int)} {x : Int} : ∀ i, i ≤ p.length → (x ∈ flatTo p i ↔ ∃ j, j < i ∧ x ∈ p.getD j [])
  | 0, _ => by simp [flatTo]
  | i + 1, hi => by
    rw [flatTo_succ p i (by omega), List.mem_append, mem_flatTo i (by omega)]
    constructor
    · rintro (⟨j, h1, h2⟩ | h)
      · exact ⟨j, by omega, h2⟩
      · exact ⟨i, by omega, h⟩
    · rintro ⟨j, h1, h2⟩
      by_cases e : j = i
      · subst e; exact Or.inr h2
      · exact Or.inl ⟨j, by omega, h2⟩
/-- A row lies in one class at most. -/
theorem cls_one {p : List (List Int)} {rows : Int} (h : partP p rows = true) {a b : Nat} {x : Int} (ha : a < p.length) (hb : b < p.length) (hxa : x ∈ p.getD a []) (hxb : x ∈ p.getD b []) : a = b := by
  obtain ⟨-, hc⟩ := partP_iff.mp h
  rcases Nat.lt_trichotomy a b with hlt | he | hlt
  · exact ((hc b hb).2.2.2.2 x hxb ((mem_flatTo b (by omega)).mpr ⟨a, hlt, hxa⟩)).elim
  · exact he
  · exact ((hc a ha).2.2.2.2 x hxa ((mem_flatTo a (by omega)).mpr ⟨b, hlt, hxb⟩)).elim
theorem clsI_part {p : List (List Int)} {rows : Int} (h : partP p rows = true) {a : Nat} {x : Int} (ha : a < p.length) : x ∈ p.getD a [] ↔ clsI p x = (a : Int) := by
  constructor
  · intro hx
    exact clsI_hit p x a ha (fun i hi hxi => by have := cls_one h (by omega) ha hxi hx; omega) hx
  · intro hx
    have := clsI_mem p x (by omega)
    rw [hx, show ((a : Int)).toNat = a by omega] at this
    exact this
/-- No row before i is in the same class of both. -/
def rep2 (p q : List (List Int)) (i : Nat) : Bool := decide (0 ≤ clsI p i ∧ 0 ≤ clsI q i) && !(List.range i).any fun b => decide (clsI p (b : Int) = clsI p (i : Int) ∧ clsI q (b : Int) = clsI q (i : Int))
/-- The classes of a product are those of the rows that have none before them in the same classes, in their order, but for those that are alone. -/
def prL (p q : List (List Int)) (i : Nat) : List (List Int) := ((List.range i).filter fun a => rep2 p q a && decide (1 < (prC p q (clsI p a).toNat (clsI q a).toNat).length)).map fun a => prC p q (clsI p (a : Nat)).toNat (clsI q (a : Nat)).toNat
theorem prC_mem {p q : List (List Int)} {rows : Int} (hp : partP p rows = true) (hq : partP q rows = true) {a : Int} (h0 : 0 ≤ clsI p a) (h1 : 0 ≤ clsI q a) (x : Int) : x ∈ prC p q (clsI p a).toNat (clsI q a).toNat ↔ clsI p x = clsI p a ∧ clsI q x = clsI q a := by
  have h2 := clsI_ge p a
  have h3 := clsI_ge q a
  unfold prC
  rw [List.mem_filter, decide_eq_true_eq, clsI_part hp (by omega), clsI_part hq (by omega)]
  constructor
  · rintro ⟨h4, h5⟩; omega
  · rintro ⟨h4, h5⟩; omega
theorem prSt_eq {p q : List (List Int)} {rows : Int} (hp : partP p rows = true) (hq : partP q rows = true) : ∀ i, (prSt p q i).1 = prL p q i ∧ ∀ x : Int, (x ∈ (prSt p q i).2 ↔ ∃ a : Nat, a < i ∧ 0 ≤ clsI p (a : Int) ∧ 0 ≤ clsI q (a : Int) ∧ clsI p x = clsI p (a : Int) ∧ clsI q x = clsI q (a : Int))
  | 0 => by simp [prSt, prL]
  | i + 1 => by
    obtain ⟨ih1, ih2⟩ := prSt_eq hp hq i
    have hL : prL p q (i + 1) = prL p q i ++ (if rep2 p q i = true ∧ 1 < (prC p q (clsI p i).toNat (clsI q i).toNat).length then [prC p q (clsI p i).toNat (clsI q i).toNat] else []) := by
      unfold prL
      rw [List.range_succ, List.filter_append, List.map_append]
      congr 1
      by_cases h : rep2 p q i = true ∧ 1 < (prC p q (clsI p i).toNat (clsI q i).toNat).length
      · rw [if_pos h, List.filter_cons, if_pos (by rw [h.1, decide_eq_true h.2]; rfl)]; rfl
      · rw [if_neg h, List.filter_cons, if_neg (by rw [Bool.and_eq_true, decide_eq_true_eq]; exact h)]; rfl
    have hrep : rep2 p q i = true ↔ 0 ≤ clsI p (i : Int) ∧ 0 ≤ clsI q (i : Int) ∧ (i : Int) ∉ (prSt p q i).2 := by
      unfold rep2
      rw [Bool.and_eq_true, decide_eq_true_eq, Bool.not_eq_true', ih2]
      constructor
      · rintro ⟨⟨h1, h2⟩, h3⟩
        refine ⟨h1, h2, ?_⟩
        rintro ⟨a, h4, h5, h6, h7, h8⟩
        rw [List.any_eq_false] at h3
        exact h3 a (List.mem_range.mpr h4) (decide_eq_true ⟨h7.symm, h8.symm⟩)
      · rintro ⟨h1, h2, h3⟩
        refine ⟨⟨h1, h2⟩, ?_⟩
        rw [List.any_eq_false]
        intro b hb hd
        have hd' := of_decide_eq_true hd
        exact h3 ⟨b, List.mem_range.mp hb, by omega, by omega, hd'.1.symm, hd'.2.symm⟩
    rw [hL]
    unfold prSt
    by_cases hs : clsI p (i : Int) < 0 ∨ clsI q (i : Int) < 0 ∨ (i : Int) ∈ (prSt p q i).2
    · have hr : ¬ rep2 p q i = true := by
        rw [hrep]
        rintro ⟨h1, h2, h3⟩
        rcases hs with h | h | h
        · omega
        · omega
        · exact h3 h
      rw [if_pos hs, if_neg (fun h => hr h.1), List.append_nil]
      refine ⟨ih1, fun x => ?_⟩
      rw [ih2]
      constructor
      · rintro ⟨a, h1, h2⟩; exact ⟨a, by omega, h2⟩
      · rintro ⟨a, h1, h2, h3, h4, h5⟩
        by_cases e : a = i
        · subst e
          rcases hs with h | h | h
          · omega
          · omega
          · obtain ⟨b, g1, g2, g3, g4, g5⟩ := (ih2 _).mp h
            exact ⟨b, g1, g2, g3, h4.trans g4, h5.trans g5⟩
        · exact ⟨a, by omega, h2, h3, h4, h5⟩
    · have h1 : 0 ≤ clsI p (i : Int) := Int.not_lt.mp fun h => hs (Or.inl h)
      have h2 : 0 ≤ clsI q (i : Int) := Int.not_lt.mp fun h => hs (Or.inr (Or.inl h))
      have hr : rep2 p q i = true := hrep.mpr ⟨h1, h2, fun h => hs (Or.inr (Or.inr h))⟩
      rw [if_neg hs]
      have hm : ∀ x : Int, x ∈ (prSt p q i).2 ++ prC p q (clsI p i).toNat (clsI q i).toNat ↔ ∃ a : Nat, a < i + 1 ∧ 0 ≤ clsI p (a : Int) ∧ 0 ≤ clsI q (a : Int) ∧ clsI p x = clsI p (a : Int) ∧ clsI q x = clsI q (a : Int) := by
        intro x
        rw [List.mem_append, ih2, prC_mem hp hq h1 h2]
        constructor
        · rintro (⟨a, g1, g2⟩ | ⟨g1, g2⟩)
          · exact ⟨a, by omega, g2⟩
          · exact ⟨i, by omega, h1, h2, g1, g2⟩
        · rintro ⟨a, g1, g2, g3, g4, g5⟩
          by_cases e : a = i
          · subst e; exact Or.inr ⟨g4, g5⟩
          · exact Or.inl ⟨a, by omega, g2, g3, g4, g5⟩
      by_cases hl : 1 < (prC p q (clsI p i).toNat (clsI q i).toNat).length
      · rw [if_pos hl, if_pos ⟨hr, hl⟩]
        exact ⟨by simp only; rw [ih1], hm⟩
      · rw [if_neg hl, if_neg (fun h => hl h.2), List.append_nil]
        exact ⟨ih1, hm⟩
theorem proS_eq (p q : List (List Int)) (rows : Int) (hp : partP p rows = true) (hq : partP q rows = true) : proS p q rows = prL p q rows.toNat := by
  unfold proS
  rw [if_pos (by rw [hp, hq]; rfl)]
  exact (prSt_eq hp hq rows.toNat).1
end Go.Proofs.YtnbjcelfdppkcadGreat
namespace Go.Proofs.YtnbjcelfdppkcadGreat

theorem ascH_unique {α : Type} {r : α → α → Prop} (irr : ∀ x, ¬ r x x) (tr : ∀ x y z, r x y → r y z → r x z) : ∀ (a b : List α), a.Pairwise r → b.Pairwise r → (∀ x, x ∈ a ↔ x ∈ b) → a = b
  | [], [], _, _, _ => rfl
  | [], y :: t, _, _, h => by have := (h y).2 (by simp); cases this
  | x :: s, [], _, _, h => by have := (h x).1 (by simp); cases this
  | x :: s, y :: t, ha, hb, h => by
    rw [List.pairwise_cons] at ha hb
    have hxy : x = y := by
      rcases List.mem_cons.1 ((h x).1 (by simp)) with e | e
      · exact e
      · rcases List.mem_cons.1 ((h y).2 (by simp)) with e' | e'
        · exact e'.symm
        · exact (irr x (tr _ _ _ (ha.1 y e') (hb.1 x e))).elim
    subst hxy
    have hst : s = t := ascH_unique irr tr s t ha.2 hb.2 fun z => by
      have hz := h z
      rw [List.mem_cons, List.mem_cons] at hz
      constructor
      · intro hm
        rcases hz.1 (Or.inr hm) with e | e
        · subst e; exact (irr z (ha.1 z hm)).elim
        · exact e
      · intro hm
        rcases hz.2 (Or.inr hm) with e | e
        · subst e; exact (irr z (hb.1 z hm)).elim
        · exact e
    rw [hst]
section
variable {c : Nat} {ll : List (List Int)} {m : Int} {S : Nat}
/-- The rows that begin a class. -/
def reps (c : Nat) (ll : List (List Int)) (m : Int) (S : Nat) : List Nat := (List.range ll.length).filter fun a => repB c ll m (S : Int) a && decide (1 < (clsC c ll m (S : Int) a).length)
/-- The classes. -/
def parL (c : Nat) (ll : List (List Int)) (m : Int) (S : Nat) : List (List Int) := prtL c ll m (S : Int) ll.length
theorem parL_map : parL c ll m S = (reps c ll m S).map (clsC c ll m (S : Int)) := rfl
theorem reps_mem {a : Nat} : a ∈ reps c ll m S ↔ a < ll.length ∧ repB c ll m (S : Int) a = true ∧ 1 < (clsC c ll m (S : Int) a).length := by
  unfold reps
  rw [List.mem_filter, List.mem_range, Bool.and_eq_true, decide_eq_true_eq]
theorem reps_asc : (reps c ll m S).Pairwise (fun a b => a < b) := List.Pairwise.filter _ List.pairwise_lt_range
theorem parL_len : (parL c ll m S).length = (reps c ll m S).length := by rw [parL_map, List.length_map]
theorem parL_get {i : Nat} (hi : i < (parL c ll m S).length) : (parL c ll m S).getD i [] = clsC c ll m (S : Int) ((reps c ll m S).getD i 0) ∧ (reps c ll m S).getD i 0 ∈ reps c ll m S := by
  rw [parL_len] at hi
  rw [parL_map, List.getD_eq_getElem?_getD, List.getElem?_map, List.getD_eq_getElem?_getD, List.getElem?_eq_getElem hi]
  exact ⟨rfl, List.getElem_mem hi⟩
theorem rowsC_ascH (i : Nat) (s : Int) : ∀ n, (rowsC c ll m s i n).Pairwise (fun a b => a < b)
  | 0 => by simp [rowsC]
  | n + 1 => by
    have ih := rowsC_ascH i s n
    unfold rowsC
    split
    · rw [List.pairwise_append]
      refine ⟨ih, by simp, fun x hx y hy => ?_⟩
      rw [List.mem_singleton] at hy
      subst hy
      rw [rowsC_mem] at hx
      rcases hx with rfl | ⟨k, h1, h2, -, rfl⟩ <;> omega
    · exact ih
theorem clsC_asc (a : Nat) (s : Int) : (clsC c ll m s a).Pairwise (fun x y => x < y) := rowsC_ascH a s _
/-- A class of at least two rows has a partner for its first one. -/
theorem clsC_two {a : Nat} (ha : a < ll.length) : 1 < (clsC c ll m (S : Int) a).length ↔ ∃ k : Nat, a < k ∧ k < ll.length ∧ agB c ll m (S : Int) a k = true := by
  constructor
  · intro h
    cases hq : clsC c ll m (S : Int) a with
    | nil => rw [hq] at h; simp at h
    | cons x t =>
      cases t with
      | nil => rw [hq] at h; simp at h
      | cons y t =>
        have hx := (clsC_mem c ll m (S : Int) a ha x).1 (by rw [hq]; simp)
        have hy := (clsC_mem c ll m (S : Int) a ha y).1 (by rw [hq]; simp)
        have hxy : x < y := by
          have := clsC_asc (c := c) (ll := ll) (m := m) a (S : Int)
          rw [hq, List.pairwise_cons] at this
          exact this.1 y (by simp)
        rcases hy with rfl | ⟨k, h1, h2, h3, -⟩
        · rcases hx with rfl | ⟨k, h1, h2, h3, rfl⟩ <;> omega
        · exact ⟨k, h1, h2, h3⟩
  · rintro ⟨k, h1, h2, h3⟩
    have hk : (k : Int) ∈ clsC c ll m (S : Int) a := (clsC_mem c ll m _ a ha _).2 (.inr ⟨k, h1, h2, h3, rfl⟩)
    have hz : (a : Int) ∈ clsC c ll m (S : Int) a := (clsC_mem c ll m _ a ha _).2 (.inl rfl)
    cases hq : clsC c ll m (S : Int) a with
    | nil => rw [hq] at hk; cases hk
    | cons x t =>
      cases t with
      | nil =>
        rw [hq, List.mem_singleton] at hk hz
        omega
      | cons y t => simp
/-- The rows of the class of a first row are those that agree with it. -/
theorem rep_mem (hc : c ≤ 5) (hS : S < 2 ^ c) {a : Nat} (ha : a ∈ reps c ll m S) {x : Int} : x ∈ clsC c ll m (S : Int) a ↔ ∃ k : Nat, k < ll.length ∧ x = (k : Int) ∧ agB c ll m (S : Int) a k = true := by
  obtain ⟨h1, h2, h3⟩ := reps_mem.1 ha
  rw [clsC_mem c ll m _ a h1]
  obtain ⟨y, y1, y2, y3⟩ := (clsC_two h1).1 h3
  have haa := agB_trans hc hS y3 (agB_symm hc hS y3)
  constructor
  · rintro (rfl | ⟨k, g1, g2, g3, rfl⟩)
    · exact ⟨a, h1, rfl, haa⟩
    · exact ⟨k, g2, rfl, g3⟩
  · rintro ⟨k, g1, rfl, g3⟩
    rcases Nat.lt_trichotomy k a with hlt | rfl | hlt
    · unfold repB at h2
      rw [Bool.not_eq_true', List.any_eq_false] at h2
      exact (h2 k (List.mem_range.2 hlt) (agB_symm hc hS g3)).elim
    · exact .inl rfl
    · exact .inr ⟨k, hlt, g1, g3, rfl⟩
theorem parL_part (hc : c ≤ 5) (hS : S < 2 ^ c) (h40 : ll.length ≤ 40) : partP (parL c ll m S) (ll.length : Int) = true := by
  rw [partP_iff]
  refine ⟨by omega, fun i hi => ?_⟩
  obtain ⟨e, hm⟩ := parL_get hi
  obtain ⟨h1, h2, h3⟩ := reps_mem.1 hm
  have hfirst : ∀ j, j < (parL c ll m S).length → ∃ t, (parL c ll m S).getD j [] = (((reps c ll m S).getD j 0 : Nat) : Int) :: t := by
    intro j hj
    obtain ⟨ej, hmj⟩ := parL_get hj
    obtain ⟨g1, -, -⟩ := reps_mem.1 hmj
    rw [ej]
    cases hq : clsC c ll m (S : Int) ((reps c ll m S).getD j 0) with
    | nil =>
      have := (clsC_mem c ll m (S : Int) _ g1 _).2 (.inl rfl)
      rw [hq] at this; cases this
    | cons x t =>
      have hz := (clsC_mem c ll m (S : Int) _ g1 _).2 (.inl rfl)
      have hx := (clsC_mem c ll m (S : Int) _ g1 x).1 (by rw [hq]; simp)
      have hp := clsC_asc (c := c) (ll := ll) (m := m) ((reps c ll m S).getD j 0) (S : Int)
      rw [hq, List.pairwise_cons] at hp
      rw [hq] at hz
      rcases List.mem_cons.1 hz with hz | hz
      · exact ⟨t, by rw [hz]⟩
      · have := hp.1 _ hz
        rcases hx with hx | ⟨k, k1, -, -, hx⟩ <;> omega
  have hlt : ∀ j, j < i → (reps c ll m S).getD j 0 < (reps c ll m S).getD i 0 := fun j hj => by
    rw [parL_len] at hi
    have := (List.pairwise_iff_getElem.1 (reps_asc (c := c) (ll := ll) (m := m) (S := S))) j i (by omega) hi hj
    rw [List.getD_eq_getElem?_getD, List.getElem?_eq_getElem (by omega), List.getD_eq_getElem?_getD, List.getElem?_eq_getElem hi]
    exact this
  refine ⟨by rw [e]; omega, ?_, ?_, ?_, ?_⟩
  · obtain ⟨t, ht⟩ := hfirst i hi
    rw [ht]
    show lastTo _ i < (((reps c ll m S).getD i 0 : Nat) : Int)
    by_cases h0 : i = 0
    · subst h0
      show (-1 : Int) < _
      omega
    · obtain ⟨j, rfl⟩ : ∃ j, i = j + 1 := ⟨i - 1, by omega⟩
      obtain ⟨t', ht'⟩ := hfirst j (by omega)
      have hl : lastTo (parL c ll m S) (j + 1) = ((parL c ll m S).getD j []).getD 0 0 := rfl
      rw [hl, ht']
      have := hlt j (by omega)
      show (((reps c ll m S).getD j 0 : Nat) : Int) < _
      omega
  · intro k hk
    have hx : ((parL c ll m S).getD i []).getD k 0 ∈ (parL c ll m S).getD i [] := by rw [← get_getD _ k hk]; exact List.getElem_mem _
    rw [e] at hx ⊢
    obtain ⟨q, q1, q2, -⟩ := (rep_mem hc hS hm).1 hx
    rw [q2]
    omega
  · intro k hk
    have hp := clsC_asc (c := c) (ll := ll) (m := m) ((reps c ll m S).getD i 0) (S : Int)
    rw [e] at hk ⊢
    have := (List.pairwise_iff_getElem.1 hp) k (k + 1) (by omega) hk (by omega)
    rw [get_getD _ k (by omega), get_getD _ (k + 1) hk] at this
    exact this
  · intro x hx hf
    obtain ⟨j, hj, hxj⟩ := (mem_flatTo i (by omega)).1 hf
    obtain ⟨ej, hmj⟩ := parL_get (c := c) (ll := ll) (m := m) (S := S) (i := j) (by omega)
    rw [e] at hx
    rw [ej] at hxj
    obtain ⟨q, q1, rfl, q3⟩ := (rep_mem hc hS hm).1 hx
    obtain ⟨q', q1', q2', q3'⟩ := (rep_mem hc hS hmj).1 hxj
    obtain rfl : q = q' := by omega
    have hab := agB_trans hc hS q3' (agB_symm hc hS q3)
    unfold repB at h2
    rw [Bool.not_eq_true', List.any_eq_false] at h2
    exact h2 _ (List.mem_range.2 (hlt j hj)) hab
/-- The class of a row: those that agree with it. -/
theorem clsI_rep (hc : c ≤ 5) (hS : S < 2 ^ c) (h40 : ll.length ≤ 40) {i x : Nat} (hi : i < (parL c ll m S).length) (hx : x < ll.length) : clsI (parL c ll m S) (x : Int) = (i : Int) ↔ agB c ll m (S : Int) ((reps c ll m S).getD i 0) x = true := by
  obtain ⟨e, hm⟩ := parL_get hi
  rw [← clsI_part (parL_part hc hS h40) hi, e, rep_mem hc hS hm]
  constructor
  · rintro ⟨k, h1, h2, h3⟩
    obtain rfl : x = k := by omega
    exact h3
  · intro h
    exact ⟨x, hx, rfl, h⟩
/-- A row is in a class if another one agrees with it. -/
theorem clsI_in (hc : c ≤ 5) (hS : S < 2 ^ c) (h40 : ll.length ≤ 40) {x : Nat} (hx : x < ll.length) : 0 ≤ clsI (parL c ll m S) (x : Int) ↔ ∃ y : Nat, y < ll.length ∧ y ≠ x ∧ agB c ll m (S : Int) x y = true := by
  constructor
  · intro h
    have hge := clsI_ge (parL c ll m S) (x : Int)
    obtain ⟨i, hi⟩ : ∃ i : Nat, clsI (parL c ll m S) (x : Int) = (i : Int) := ⟨_, (Int.toNat_of_nonneg h).symm⟩
    have hil : i < (parL c ll m S).length := by omega
    have ha := (clsI_rep hc hS h40 hil hx).1 hi
    obtain ⟨-, hm⟩ := parL_get hil
    obtain ⟨h1, h2, h3⟩ := reps_mem.1 hm
    by_cases hxa : (reps c ll m S).getD i 0 = x
    · obtain ⟨k, k1, k2, k3⟩ := (clsC_two h1).1 h3
      rw [hxa] at k1 k3
      exact ⟨k, k2, by omega, k3⟩
    · exact ⟨_, h1, hxa, agB_symm hc hS ha⟩
  · rintro ⟨y, hy, hne, hxy⟩
    have key : ∀ a : Nat, a < ll.length → repB c ll m (S : Int) a = true → agB c ll m (S : Int) a x = true → (∃ k, a < k ∧ k < ll.length ∧ agB c ll m (S : Int) a k = true) → 0 ≤ clsI (parL c ll m S) (x : Int) := by
      intro a h1 h2 h3 h4
      have hm : a ∈ reps c ll m S := reps_mem.2 ⟨h1, h2, (clsC_two h1).2 h4⟩
      obtain ⟨i, hi, he⟩ := List.mem_iff_getElem.1 hm
      have hg : (reps c ll m S).getD i 0 = a := by rw [List.getD_eq_getElem?_getD, List.getElem?_eq_getElem hi]; exact he
      have := (clsI_rep hc hS h40 (i := i) (by rw [parL_len]; exact hi) hx).2 (by rw [hg]; exact h3)
      omega
    cases hr : repB c ll m (S : Int) x with
    | true =>
      refine key x hx hr (agB_trans hc hS hxy (agB_symm hc hS hxy)) ⟨y, ?_, hy, hxy⟩
      by_cases hlt : y < x
      · unfold repB at hr
        rw [Bool.not_eq_true', List.any_eq_false] at hr
        exact (hr y (List.mem_range.2 hlt) (agB_symm hc hS hxy)).elim
      · omega
    | false =>
      unfold repB at hr
      rw [Bool.not_eq_false', List.any_eq_true] at hr
      obtain ⟨b, hb, hbx⟩ := hr
      obtain ⟨a, h1, h2, h3⟩ := rep_least hc hS x (b + 1) b (by omega) (List.mem_range.1 hb) hbx
      exact key a (by omega) h2 h3 ⟨x, h1, hx, h3⟩
/-- Two different rows are in one class if they agree. -/
theorem clsI_same (hc : c ≤ 5) (hS : S < 2 ^ c) (h40 : ll.length ≤ 40) {x y : Nat} (hx : x < ll.length) (hy : y < ll.length) (hne : x ≠ y) : (clsI (parL c ll m S) (x : Int) = clsI (parL c ll m S) (y : Int) ∧ 0 ≤ clsI (parL c ll m S) (x : Int)) ↔ agB c ll m (S : Int) x y = true := by
  constructor
  · rintro ⟨h, h0⟩
    have hge := clsI_ge (parL c ll m S) (x : Int)
    obtain ⟨i, hi⟩ : ∃ i : Nat, clsI (parL c ll m S) (x : Int) = (i : Int) := ⟨_, (Int.toNat_of_nonneg h0).symm⟩
    have hil : i < (parL c ll m S).length := by omega
    have h1 := (clsI_rep hc hS h40 hil hx).1 hi
    have h2 := (clsI_rep hc hS h40 hil hy).1 (by omega)
    exact agB_trans hc hS (agB_symm hc hS h1) h2
  · intro h
    have h0 := (clsI_in hc hS h40 hx).2 ⟨y, hy, fun e => hne e.symm, h⟩
    have hge := clsI_ge (parL c ll m S) (x : Int)
    obtain ⟨i, hi⟩ : ∃ i : Nat, clsI (parL c ll m S) (x : Int) = (i : Int) := ⟨_, (Int.toNat_of_nonneg h0).symm⟩
    have hil : i < (parL c ll m S).length := by omega
    have h1 := (clsI_rep hc hS h40 hil hx).1 hi
    have h2 := (clsI_rep hc hS h40 hil hy).2 (agB_trans hc hS h1 h)
    omega
end
end Go.Proofs.YtnbjcelfdppkcadGreat
namespace Go.Proofs.YtnbjcelfdppkcadGreat
open Go.RowKit

/-- The first pair that violates the dependency. -/
noncomputable def pairD (c : Int) (ll : List (List Int)) (m l r : Int) : Int × Int := pairI (badB c.toNat ll m l.toNat r.toNat) ll.length
def okD (c : Int) (ll : List (List Int)) (m l r : Int) : Bool := fineT c ll m && depB c l r
noncomputable def holdsD (c : Int) (ll : List (List Int)) (m l r : Int) : Bool := okD c ll m l r && decide ((pairD c ll m l r).1 < 0)
noncomputable def witI (c : Int) (ll : List (List Int)) (m l r : Int) : Int := if okD c ll m l r = true then (pairD c ll m l r).1 else -1
noncomputable def witK (c : Int) (ll : List (List Int)) (m l r : Int) : Int := if okD c ll m l r = true then (pairD c ll m l r).2 else -1
noncomputable def witB (c : Int) (ll : List (List Int)) (m l r : Int) : Bool := okD c ll m l r && decide (0 ≤ (pairD c ll m l r).1)
theorem depB_nat {c l r : Int} (h : depB c l r = true) : ∃ L R : Nat, l = (L : Int) ∧ r = (R : Int) ∧ R < 5 := by
  obtain ⟨⟨h1, h5⟩, ha, h0, hr⟩ := depB_iff.1 h
  refine ⟨l.toNat, r.toNat, ?_, by omega, by omega⟩
  unfold isA at ha
  simp at ha
  omega
theorem fineT_isT {c : Int} {ll : List (List Int)} {m : Int} (h : fineT c ll m = true) : isT c ll = true := by unfold fineT at h; simp at h; exact h.1

section
set_option maxRecDepth 20000
set_option maxHeartbeats 1600000
theorem holdsDep_any (c m l r : Int) (v : Value) (ll : List (List Int)) (w : World) (hr : ReadSS w v ll) (hl : ll.length ≤ 1048576) (ht : ∀ i, i < ll.length → (ll.getD i []).length ≤ 1048576) :
    Calls Tryz.prog 10 #[.agg #[.int .i64 c, v], .int .i64 m, .agg #[.int .i64 l, .int .i64 r]] w fun e w' => e = .returned (.bool (holdsD c ll m l r)) ∧ Below w.heap.size w w' := by
  have HF := Lib.hid (fun w' (hb : Below w.heap.size w w') => l4Fine_any c m v ll w' (hr.kept hb) hl ht)
  have HD := Lib.hid (isDep_any c l r)
  have HP := Lib.hid (fun (L R : Nat) w' (hb : Below w.heap.size w w') hT (hR : R < 5) => pair6_any c m L R v ll w' (hr.kept hb) hT hR)
  obtain ⟨a, cap, rfl, -⟩ := hr
  have hb1 := (Below.refl w.heap.size w).alloc (Nat.le_refl _) (.cells #[.int .i64 c, .slice a ll.length cap] 29)
  have hb2 := hb1.alloc hb1.size (.cells #[.int .i64 l, .int .i64 r] 35)
  have HB2 := Lib.hid hb2
  have HRF := Lib.hid (Below.refl ((w.alloc (.cells #[.int .i64 c, .slice a ll.length cap] 29)).alloc (.cells #[.int .i64 l, .int .i64 r] 35)).heap.size ((w.alloc (.cells #[.int .i64 c, .slice a ll.length cap] 29)).alloc (.cells #[.int .i64 l, .int .i64 r] 35)))
  obtain ⟨⟨c0, c1⟩, d0, d1⟩ := boxTD HRF.out
  clear hb1 hb2 ht
  cases hf : fineT c ll m with
  | false =>
    have HE : Hid (holdsD c ll m l r = false) := Lib.hid (by unfold holdsD okD; rw [hf]; rfl)
    rw [hf] at HF
    clear hf
    go_enter Tryz.func10, Tryz.ntmps10
    go_wp2_with fail
    refine (HF.out _ HB2.out).mono ?_
    rintro e w1 ⟨rfl, b1⟩
    have hb1 := HRF.out.trans (b1.mono HRF.out.size)
    clear b1 c0 c1 d0 d1
    obtain ⟨⟨c0, c1⟩, d0, d1⟩ := boxTD hb1
    have hb2 := HB2.out.trans (hb1.mono HB2.out.size)
    go_wp2_with fail
    go_ret
    exact ⟨by rw [HE.out]; rfl, hb2⟩
  | true =>
    rw [hf] at HF
    cases hd : depB c l r with
    | false =>
      have HE : Hid (holdsD c ll m l r = false) := Lib.hid (by unfold holdsD okD; rw [hd]; simp)
      rw [hd] at HD
      clear hf hd
      go_enter Tryz.func10, Tryz.ntmps10
      go_wp2_with fail
      refine (HF.out _ HB2.out).mono ?_
      rintro e w1 ⟨rfl, b1⟩
      have hb1 := HRF.out.trans (b1.mono HRF.out.size)
      clear b1 c0 c1 d0 d1
      obtain ⟨⟨c0, c1⟩, d0, d1⟩ := boxTD hb1
      have hb2 := HB2.out.trans (hb1.mono HB2.out.size)
      go_wp2_with fail
      refine (HD.out _).mono ?_
      rintro e w2 ⟨rfl, b2⟩
      have hb3 := hb1.trans (b2.mono hb1.size)
      clear b2 c0 c1 d0 d1 hb2
      obtain ⟨⟨c0, c1⟩, d0, d1⟩ := boxTD hb3
      have hb4 := HB2.out.trans (hb3.mono HB2.out.size)
      go_wp2_with fail
      go_ret
      exact ⟨by rw [HE.out]; rfl, hb4⟩
    | true =>
      rw [hd] at HD
      have hT := fineT_isT hf
      have hok : okD c ll m l r = true := by unfold okD; rw [hf, hd]; rfl
      obtain ⟨x, hx⟩ : ∃ x, x = (pairD c ll m l r).1 := ⟨_, rfl⟩
      have HE : Hid (holdsD c ll m l r = decide (x < 0)) := Lib.hid (by unfold holdsD; rw [hok, hx]; rfl)
      obtain ⟨L, R, rfl, rfl, hR⟩ := depB_nat hd
      have HQ := Lib.hid (fun w' hb => HP.out L R w' hb hT hR)
      unfold pairD at hx
      rw [show ((L : Int)).toNat = L from rfl, show ((R : Int)).toNat = R from rfl] at hx
      rw [← hx] at HQ
      clear hf hd hT hok hx HP
      go_enter Tryz.func10, Tryz.ntmps10
      go_wp2_with fail
      refine (HF.out _ HB2.out).mono ?_
      rintro e w1 ⟨rfl, b1⟩
      have hb1 := HRF.out.trans (b1.mono HRF.out.size)
      clear b1 c0 c1 d0 d1
      obtain ⟨⟨c0, c1⟩, d0, d1⟩ := boxTD hb1
      have hb2 := HB2.out.trans (hb1.mono HB2.out.size)
      go_wp2_with fail
      refine (HD.out _).mono ?_
      rintro e w2 ⟨rfl, b2⟩
      have hb3 := hb1.trans (b2.mono hb1.size)
      clear b2 c0 c1 d0 d1 hb2
      obtain ⟨⟨c0, c1⟩, d0, d1⟩ := boxTD hb3
      have hb4 := HB2.out.trans (hb3.mono HB2.out.size)
      go_wp2_with fail
      refine (HQ.out _ hb4).mono ?_
      rintro e w3 ⟨rfl, b3⟩
      have hb5 := hb4.trans (b3.mono hb4.size)
      clear b3 c0 c1 d0 d1
      go_wp2_with fail
      go_ret
      exact ⟨by rw [HE.out]; rfl, hb5⟩
end
end Go.Proofs.YtnbjcelfdppkcadGreat
namespace Go.Proofs.YtnbjcelfdppkcadGreat

theorem or_fin : ∀ (L : Fin 32) (R : Fin 5) (j : Fin 5), bitB (L.val ||| 2 ^ R.val) j.val = (bitB L.val j.val || decide (j.val = R.val)) := by decide +kernel
theorem or_lt : ∀ (c : Fin 6) (L : Fin 32) (R : Fin 5), L.val < 2 ^ c.val → R.val < c.val → (L.val ||| 2 ^ R.val) < 2 ^ c.val := by decide +kernel
theorem pow_bit : ∀ (R : Fin 5) (j : Fin 5), bitB (2 ^ R.val) j.val = decide (j.val = R.val) := by decide +kernel
theorem lt32 {c S : Nat} (hc : c ≤ 5) (hS : S < 2 ^ c) : S < 32 := by
  have : 2 ^ c ≤ 32 := by
    rcases (show c = 0 ∨ c = 1 ∨ c = 2 ∨ c = 3 ∨ c = 4 ∨ c = 5 by omega) with rfl | rfl | rfl | rfl | rfl | rfl <;> decide
  omega
section
variable {c : Nat} {ll : List (List Int)} {m : Int} {L R : Nat}
/-- Two rows agree in both sides if they agree in each. -/
theorem agB_or (hc : c ≤ 5) (hL : L < 2 ^ c) (hR : R < c) (i k : Nat) : agB c ll m ((L ||| 2 ^ R : Nat) : Int) i k = true ↔ agB c ll m (L : Int) i k = true ∧ agB c ll m ((2 ^ R : Nat) : Int) i k = true := by
  have h32 := lt32 hc hL
  have hO := or_lt ⟨c, by omega⟩ ⟨L, h32⟩ ⟨R, by omega⟩ hL hR
  have hP : 2 ^ R < 2 ^ c := Nat.pow_lt_pow_right (by omega) hR
  rw [agB_iff c ll m _ i k hc hO, agB_iff c ll m _ i k hc hL, agB_iff c ll m _ i k hc hP]
  constructor
  · intro h
    refine ⟨fun j hj hb => h j hj ?_, fun j hj hb => h j hj ?_⟩
    · have := or_fin ⟨L, h32⟩ ⟨R, by omega⟩ ⟨j, by omega⟩
      simp only at this
      rw [this, hb]; rfl
    · have h1 := or_fin ⟨L, h32⟩ ⟨R, by omega⟩ ⟨j, by omega⟩
      have h2 := pow_bit ⟨R, by omega⟩ ⟨j, by omega⟩
      simp only at h1 h2
      rw [h2] at hb
      rw [h1, hb]; simp
  · rintro ⟨h1, h2⟩ j hj hb
    have g1 := or_fin ⟨L, h32⟩ ⟨R, by omega⟩ ⟨j, by omega⟩
    have g2 := pow_bit ⟨R, by omega⟩ ⟨j, by omega⟩
    simp only at g1 g2
    rw [g1, Bool.or_eq_true] at hb
    rcases hb with hb | hb
    · exact h1 j hj hb
    · exact h2 j hj (by rw [g2]; exact hb)
/-- Equal on the right: agreeing in the set of that one column. -/
theorem agB_one (hc : c ≤ 5) (hR : R < c) (i k : Nat) : agB c ll m ((2 ^ R : Nat) : Int) i k = bitB (agrTo m (ll.getD i []) (ll.getD k []) c).toNat R := by
  have hP : 2 ^ R < 2 ^ c := Nat.pow_lt_pow_right (by omega) hR
  obtain ⟨X, h1, -, h3, h4⟩ := agrTo_bit m (ll.getD i []) (ll.getD k []) c hc
  rw [Bool.eq_iff_iff, agB_iff c ll m _ i k hc hP, h1, show ((X : Int)).toNat = X by omega, h4 R (by omega), decide_eq_true hR, Bool.true_and]
  constructor
  · intro h
    refine h R hR ?_
    have := pow_bit ⟨R, by omega⟩ ⟨R, by omega⟩
    simp only at this
    rw [this]; simp
  · intro h j hj hb
    have := pow_bit ⟨R, by omega⟩ ⟨j, by omega⟩
    simp only at this
    rw [this, decide_eq_true_eq] at hb
    subst hb
    exact h
theorem badB_iff (hc : c ≤ 5) (hR : R < c) (i k : Nat) : badB c ll m L R i k = true ↔ agB c ll m (L : Int) i k = true ∧ ¬ agB c ll m ((2 ^ R : Nat) : Int) i k = true := by
  unfold badB
  rw [Bool.and_eq_true, Bool.not_eq_true', agB_one hc hR]
  constructor
  · rintro ⟨h1, h2⟩; exact ⟨h1, by rw [h2]; simp⟩
  · rintro ⟨h1, h2⟩; exact ⟨h1, by simpa using h2⟩
/-- It holds if no two rows agree on the left alone. -/
def HoldsAll (c : Nat) (ll : List (List Int)) (m : Int) (L R : Nat) : Prop := ∀ i k, i < k → k < ll.length → agB c ll m (L : Int) i k = true → agB c ll m ((2 ^ R : Nat) : Int) i k = true
theorem pairI_holds (hc : c ≤ 5) (hR : R < c) : (pairI (badB c ll m L R) ll.length).1 < 0 ↔ HoldsAll c ll m L R := by
  rcases pairI_is (badB c ll m L R) ll.length with ⟨h1, -, h⟩ | ⟨i, k, h1, -, h2, h3, h4, -⟩
  · rw [h1]
    refine ⟨fun _ i k hik hk hL => ?_, fun _ => by omega⟩
    have hb := h i k hik hk
    by_cases hr : agB c ll m ((2 ^ R : Nat) : Int) i k = true
    · exact hr
    · rw [(badB_iff hc hR i k).2 ⟨hL, hr⟩] at hb; cases hb
  · rw [h1]
    refine ⟨fun h => by omega, fun h => ?_⟩
    obtain ⟨g1, g2⟩ := (badB_iff hc hR i k).1 h4
    exact (g2 (h i k h2 h3 g1)).elim
/-- The product of the sides' partitions is the partition of both. -/
theorem parL_product (hc : c ≤ 5) (hL : L < 2 ^ c) (hR : R < c) (h40 : ll.length ≤ 40) : proS (parL c ll m L) (parL c ll m (2 ^ R)) (ll.length : Int) = parL c ll m (L ||| 2 ^ R) := by
  have hO : (L ||| 2 ^ R) < 2 ^ c := or_lt ⟨c, by omega⟩ ⟨L, lt32 hc hL⟩ ⟨R, by omega⟩ hL hR
  have hP : 2 ^ R < 2 ^ c := Nat.pow_lt_pow_right (by omega) hR
  have pL := parL_part (m := m) hc hL h40
  have pR := parL_part (m := m) hc hP h40
  rw [proS_eq _ _ _ pL pR, show ((ll.length : Int)).toNat = ll.length by omega]
  unfold prL
  rw [show parL c ll m (L ||| 2 ^ R) = ((List.range ll.length).filter fun a => repB c ll m ((L ||| 2 ^ R : Nat) : Int) a && decide (1 < (clsC c ll m ((L ||| 2 ^ R : Nat) : Int) a).length)).map (clsC c ll m ((L ||| 2 ^ R : Nat) : Int)) from rfl]
  -- where a row has a partner in both, the product's class is its class
  have hpart : ∀ a, a < ll.length → (∃ y, y < ll.length ∧ y ≠ a ∧ agB c ll m ((L ||| 2 ^ R : Nat) : Int) a y = true) →
      (0 ≤ clsI (parL c ll m L) (a : Int) ∧ 0 ≤ clsI (parL c ll m (2 ^ R)) (a : Int)) ∧ ∀ x : Nat, x < ll.length → ((clsI (parL c ll m L) (x : Int) = clsI (parL c ll m L) (a : Int) ∧ clsI (parL c ll m (2 ^ R)) (x : Int) = clsI (parL c ll m (2 ^ R)) (a : Int)) ↔ agB c ll m ((L ||| 2 ^ R : Nat) : Int) a x = true) := by
    rintro a ha ⟨y, hy, hne, hay⟩
    obtain ⟨y1, y2⟩ := (agB_or hc hL hR a y).1 hay
    have i1 := (clsI_in hc hL h40 ha).2 ⟨y, hy, hne, y1⟩
    have i2 := (clsI_in hc hP h40 ha).2 ⟨y, hy, hne, y2⟩
    refine ⟨⟨i1, i2⟩, fun x hx => ?_⟩
    by_cases hxa : x = a
    · subst hxa
      exact ⟨fun _ => agB_trans hc hO hay (agB_symm hc hO hay), fun _ => ⟨rfl, rfl⟩⟩
    · rw [agB_or hc hL hR, ← clsI_same hc hL h40 ha hx (fun e => hxa e.symm), ← clsI_same hc hP h40 ha hx (fun e => hxa e.symm)]
      constructor
      · rintro ⟨h1, h2⟩; exact ⟨⟨h1.symm, i1⟩, h2.symm, i2⟩
      · rintro ⟨⟨h1, -⟩, h2, -⟩; exact ⟨h1.symm, h2.symm⟩
  have hcls : ∀ a, a < ll.length → repB c ll m ((L ||| 2 ^ R : Nat) : Int) a = true → (∃ y, y < ll.length ∧ y ≠ a ∧ agB c ll m ((L ||| 2 ^ R : Nat) : Int) a y = true) → prC (parL c ll m L) (parL c ll m (2 ^ R)) (clsI (parL c ll m L) (a : Int)).toNat (clsI (parL c ll m (2 ^ R)) (a : Int)).toNat = clsC c ll m ((L ||| 2 ^ R : Nat) : Int) a := by
    intro a ha hrep hex
    obtain ⟨⟨i1, i2⟩, hs⟩ := hpart a ha hex
    obtain ⟨y, hy, hne, hay⟩ := hex
    have hya : a < y := by
      by_cases hlt : y < a
      · unfold repB at hrep
        rw [Bool.not_eq_true', List.any_eq_false] at hrep
        exact (hrep y (List.mem_range.2 hlt) (agB_symm hc hO hay)).elim
      · omega
    have hm : a ∈ reps c ll m (L ||| 2 ^ R) := reps_mem.2 ⟨ha, hrep, (clsC_two ha).2 ⟨y, hya, hy, hay⟩⟩
    have hge := clsI_ge (parL c ll m L) (a : Int)
    refine ascH_unique (r := fun x y => x < y) (fun x => by omega) (fun x y z => by omega) _ _ ?_ (clsC_asc _ _) fun x => ?_
    · obtain ⟨-, hcl⟩ := partP_iff.mp pL
      have h4 := (hcl (clsI (parL c ll m L) (a : Int)).toNat (by omega)).2.2.2.1
      unfold prC
      refine List.Pairwise.filter _ ?_
      rw [List.pairwise_iff_getElem]
      intro i j hi hj hij
      have := asc_lt h4 (i := i) (j - i - 1) (by omega)
      rw [show i + (j - i - 1) + 1 = j by omega, ← get_getD _ _ hi, ← get_getD _ _ hj] at this
      exact this
    · rw [prC_mem pL pR i1 i2, rep_mem hc hO hm]
      constructor
      · rintro ⟨h1, h2⟩
        have hx : x ∈ (parL c ll m L).getD (clsI (parL c ll m L) x).toNat [] := (clsI_part pL (by omega)).2 (by omega)
        obtain ⟨e, hmm⟩ := parL_get (c := c) (ll := ll) (m := m) (S := L) (i := (clsI (parL c ll m L) x).toNat) (by omega)
        rw [e] at hx
        obtain ⟨k, k1, rfl, -⟩ := (rep_mem hc hL hmm).1 hx
        exact ⟨k, k1, rfl, (hs k k1).1 ⟨h1, h2⟩⟩
      · rintro ⟨k, k1, rfl, k3⟩
        exact (hs k k1).2 k3
  have hfil : ∀ a, a < ll.length → (rep2 (parL c ll m L) (parL c ll m (2 ^ R)) a && decide (1 < (prC (parL c ll m L) (parL c ll m (2 ^ R)) (clsI (parL c ll m L) (a : Int)).toNat (clsI (parL c ll m (2 ^ R)) (a : Int)).toNat).length)) = (repB c ll m ((L ||| 2 ^ R : Nat) : Int) a && decide (1 < (clsC c ll m ((L ||| 2 ^ R : Nat) : Int) a).length)) := by
    intro a ha
    by_cases hex : ∃ y, y < ll.length ∧ y ≠ a ∧ agB c ll m ((L ||| 2 ^ R : Nat) : Int) a y = true
    · obtain ⟨⟨i1, i2⟩, hs⟩ := hpart a ha hex
      have hrr : rep2 (parL c ll m L) (parL c ll m (2 ^ R)) a = repB c ll m ((L ||| 2 ^ R : Nat) : Int) a := by
        unfold rep2 repB
        rw [decide_eq_true ⟨i1, i2⟩, Bool.true_and]
        congr 1
        rw [Bool.eq_iff_iff, List.any_eq_true, List.any_eq_true]
        constructor
        · rintro ⟨b, hb, h⟩
          exact ⟨b, hb, agB_symm hc hO ((hs b (by have := List.mem_range.1 hb; omega)).1 (of_decide_eq_true h))⟩
        · rintro ⟨b, hb, h⟩
          exact ⟨b, hb, decide_eq_true ((hs b (by have := List.mem_range.1 hb; omega)).2 (agB_symm hc hO h))⟩
      rw [hrr]
      cases hrep : repB c ll m ((L ||| 2 ^ R : Nat) : Int) a with
      | false => rfl
      | true => rw [hcls a ha hrep hex]
    · have h2 : ¬ 1 < (clsC c ll m ((L ||| 2 ^ R : Nat) : Int) a).length := fun h => by
        obtain ⟨k, k1, k2, k3⟩ := (clsC_two ha).1 h
        exact hex ⟨k, k2, by omega, k3⟩
      rw [decide_eq_false h2, Bool.and_false]
      cases hr2 : rep2 (parL c ll m L) (parL c ll m (2 ^ R)) a with
      | false => rfl
      | true =>
        rw [Bool.true_and, decide_eq_false_iff_not]
        intro hlen
        have hr2' := hr2
        unfold rep2 at hr2'
        rw [Bool.and_eq_true, decide_eq_true_eq] at hr2'
        obtain ⟨⟨i1, i2⟩, -⟩ := hr2'
        have hmemx : ∀ x, x ∈ prC (parL c ll m L) (parL c ll m (2 ^ R)) (clsI (parL c ll m L) (a : Int)).toNat (clsI (parL c ll m (2 ^ R)) (a : Int)).toNat → x = (a : Int) := by
          intro x hx
          obtain ⟨h1, h3⟩ := (prC_mem pL pR i1 i2 x).1 hx
          have hge := clsI_ge (parL c ll m L) x
          have hxm : x ∈ (parL c ll m L).getD (clsI (parL c ll m L) x).toNat [] := (clsI_part pL (by omega)).2 (by omega)
          obtain ⟨e, hmm⟩ := parL_get (c := c) (ll := ll) (m := m) (S := L) (i := (clsI (parL c ll m L) x).toNat) (by omega)
          rw [e] at hxm
          obtain ⟨k, k1, rfl, -⟩ := (rep_mem hc hL hmm).1 hxm
          by_cases hka : k = a
          · rw [hka]
          · exact (hex ⟨k, k1, hka, (agB_or hc hL hR a k).2 ⟨(clsI_same hc hL h40 ha k1 (fun e => hka e.symm)).1 ⟨h1.symm, i1⟩, (clsI_same hc hP h40 ha k1 (fun e => hka e.symm)).1 ⟨h3.symm, i2⟩⟩⟩).elim
        have hasc : (prC (parL c ll m L) (parL c ll m (2 ^ R)) (clsI (parL c ll m L) (a : Int)).toNat (clsI (parL c ll m (2 ^ R)) (a : Int)).toNat).Pairwise (fun x y => x < y) := by
          obtain ⟨-, hcl⟩ := partP_iff.mp pL
          have hge := clsI_ge (parL c ll m L) (a : Int)
          have h4 := (hcl (clsI (parL c ll m L) (a : Int)).toNat (by omega)).2.2.2.1
          unfold prC
          refine List.Pairwise.filter _ ?_
          rw [List.pairwise_iff_getElem]
          intro i j hi hj hij
          have := asc_lt h4 (i := i) (j - i - 1) (by omega)
          rw [show i + (j - i - 1) + 1 = j by omega, ← get_getD _ _ hi, ← get_getD _ _ hj] at this
          exact this
        match hq : prC (parL c ll m L) (parL c ll m (2 ^ R)) (clsI (parL c ll m L) (a : Int)).toNat (clsI (parL c ll m (2 ^ R)) (a : Int)).toNat, hlen with
        | x :: y :: t, _ =>
          rw [hq] at hmemx hasc
          have hx := hmemx x (by simp)
          have hy := hmemx y (by simp)
          rw [List.pairwise_cons] at hasc
          have := hasc.1 y (by simp)
          omega
  rw [List.filter_congr (fun a ha => hfil a (List.mem_range.1 ha))]
  refine List.map_congr_left fun a ha => ?_
  have hm : a ∈ reps c ll m (L ||| 2 ^ R) := ha
  obtain ⟨h1, h2, h3⟩ := reps_mem.1 hm
  obtain ⟨k, k1, k2, k3⟩ := (clsC_two h1).1 h3
  exact hcls a h1 h2 ⟨k, k2, by omega, k3⟩
end
end Go.Proofs.YtnbjcelfdppkcadGreat
namespace Go.Proofs.YtnbjcelfdppkcadGreat
open Go.RowKit

def agrOf (c : Int) (ll : List (List Int)) (m i k : Int) : Int := if fineT c ll m = true ∧ (0 ≤ i ∧ i ≤ ll.length - 1) ∧ (0 ≤ k ∧ k ≤ ll.length - 1) then agrTo m (ll.getD i.toNat []) (ll.getD k.toNat []) c.toNat else 0
end Go.Proofs.YtnbjcelfdppkcadGreat
