/- Texts of this claim, merged: DepD, PmD, CovB, CovC. Conditions: as stated. -/
import Derived.Test.YtnbjcelfdppkcaaGreatTc18
import Derived.Test.YtnbjcelfdppkcaaGreatTc17
import Derived.Deep.RegionHeld3
import Derived.Test.YtnbjcelfdppkcaaGreatTc3
namespace Go.Proofs.YtnbjcelfdppkcaaGreat
open Go.RowKit

/-- Two rows are equal on the right. -/
def eqR (c : Nat) (ll : List (List Int)) (m : Int) (R : Nat) (a b : Int) : Bool := bitB (agrTo m (ll.getD a.toNat []) (ll.getD b.toNat []) c).toNat R
/-- How many of the first n rows of a class are equal to its row k on the right, k itself counted at the start. -/
def sameTo (c : Nat) (ll : List (List Int)) (m : Int) (R : Nat) (p : List Int) (k : Nat) : Nat → Nat
  | 0 => 1
  | j + 1 => if j ≠ k ∧ eqR c ll m R (p.getD k 0) (p.getD j 0) = true then sameTo c ll m R p k j + 1 else sameTo c ll m R p k j
def mostTo (c : Nat) (ll : List (List Int)) (m : Int) (R : Nat) (p : List Int) : Nat → Nat
  | 0 => 0
  | k + 1 => max (mostTo c ll m R p k) (sameTo c ll m R p k p.length)
def remTo (c : Nat) (ll : List (List Int)) (m : Int) (R : Nat) (P : List (List Int)) : Nat → Int
  | 0 => 0
  | i + 1 => remTo c ll m R P i + (P.getD i []).length - mostTo c ll m R (P.getD i []) (P.getD i []).length
def remD (c : Int) (ll : List (List Int)) (m l r : Int) : Int := if okD c ll m l r = true then remTo c.toNat ll m r.toNat (clSt c.toNat ll m l ll.length).1 (clSt c.toNat ll m l ll.length).1.length else -1
theorem sameTo_le (c : Nat) (ll : List (List Int)) (m : Int) (R : Nat) (p : List Int) (k : Nat) : ∀ j, 1 ≤ sameTo c ll m R p k j ∧ sameTo c ll m R p k j ≤ j + 1
  | 0 => ⟨Nat.le_refl _, Nat.le_refl _⟩
  | j + 1 => by
    have := sameTo_le c ll m R p k j
    unfold sameTo
    split <;> omega
theorem mostTo_le (c : Nat) (ll : List (List Int)) (m : Int) (R : Nat) (p : List Int) : ∀ k, mostTo c ll m R p k ≤ p.length + 1
  | 0 => by unfold mostTo; omega
  | k + 1 => by
    have := mostTo_le c ll m R p k
    have := (sameTo_le c ll m R p k p.length).2
    unfold mostTo
    omega
theorem remTo_bd (c : Nat) (ll : List (List Int)) (m : Int) (R : Nat) (P : List (List Int)) : ∀ i, i ≤ P.length → -(i : Int) ≤ remTo c ll m R P i ∧ remTo c ll m R P i ≤ tot (P.take i)
  | 0, _ => by simp [remTo, tot]
  | i + 1, hi => by
    have h := remTo_bd c ll m R P i (by omega)
    have h2 := mostTo_le c ll m R (P.getD i []) (P.getD i []).length
    have h3 := tot_succ (ll := P) (k := i) (by omega)
    unfold remTo
    omega
theorem clSt_cls (c : Nat) (ll : List (List Int)) (m s : Int) : ∀ i, i ≤ ll.length → ∀ C ∈ (clSt c ll m s i).1, ∃ a, a < i ∧ C = clsC c ll m s a
  | 0, _ => by simp [clSt]
  | i + 1, hi => by
    have ih := clSt_cls c ll m s i (by omega)
    intro C hC
    unfold clSt at hC
    split at hC
    · obtain ⟨a, h1, h2⟩ := ih C hC; exact ⟨a, by omega, h2⟩
    · split at hC
      · rcases List.mem_append.1 hC with h | h
        · obtain ⟨a, h1, h2⟩ := ih C h; exact ⟨a, by omega, h2⟩
        · exact ⟨i, by omega, by simpa using h⟩
      · obtain ⟨a, h1, h2⟩ := ih C hC; exact ⟨a, by omega, h2⟩
/-- The rows of the classes are rows of the table. -/
theorem clSt_rows {c : Nat} {ll : List (List Int)} {m s : Int} {i k : Nat} (hi : i < (clSt c ll m s ll.length).1.length) (hk : k < ((clSt c ll m s ll.length).1.getD i []).length) : ∃ q : Nat, ((clSt c ll m s ll.length).1.getD i []).getD k 0 = (q : Int) ∧ q < ll.length := by
  obtain ⟨a, h1, h2⟩ := clSt_cls c ll m s ll.length (Nat.le_refl _) ((clSt c ll m s ll.length).1.getD i []) (by rw [List.getD_eq_getElem?_getD, List.getElem?_eq_getElem hi]; exact List.getElem_mem _)
  have hm : ((clSt c ll m s ll.length).1.getD i []).getD k 0 ∈ clsC c ll m s a := by rw [← h2, ← get_getD _ k hk]; exact List.getElem_mem _
  rcases (clsC_mem c ll m s a h1 _).1 hm with h | ⟨q, h3, h4, h5, h6⟩
  · exact ⟨a, h, h1⟩
  · exact ⟨q, h6, h4⟩
theorem bit_one (X k : Nat) : (bits BinOp.and IntKind.i64 ((X : Int) / 2 ^ k) 1 == 1) = bitB X k := bit_test X k
theorem cell_on {w w' : World} {p : Addr} {v : Value} (h : w.cell? p = some v) (b : Below w.heap.size w w') : w'.cell? p = some v := (b.cell (World.block_lt_of_cell? w _ h)).trans h
/-- What a region of a class's rows holds on to. -/
theorem keep6 {w3 w' w'' : World} {p0 p1 p2 p3 p4 p5 : Addr} {v0 v1 v2 v3 v4 v5 : Value} (h : (w'.cell? p0 = some v0 ∧ w'.cell? p1 = some v1) ∧ w'.cell? p2 = some v2 ∧ w'.cell? p3 = some v3 ∧ w'.cell? p4 = some v4 ∧ w'.cell? p5 = some v5 ∧ Below w3.heap.size w3 w') (b : Below w'.heap.size w' w'') :
    (w''.cell? p0 = some v0 ∧ w''.cell? p1 = some v1) ∧ w''.cell? p2 = some v2 ∧ w''.cell? p3 = some v3 ∧ w''.cell? p4 = some v4 ∧ w''.cell? p5 = some v5 ∧ Below w3.heap.size w3 w'' :=
  ⟨⟨cell_on h.1.1 b, cell_on h.1.2 b⟩, cell_on h.2.1 b, cell_on h.2.2.1 b, cell_on h.2.2.2.1 b, cell_on h.2.2.2.2.1 b, h.2.2.2.2.2.trans (b.mono h.2.2.2.2.2.size)⟩
theorem below6 {w3 w' : World} {p0 p1 p2 p3 p4 p5 : Addr} {v0 v1 v2 v3 v4 v5 : Value} (h : (w'.cell? p0 = some v0 ∧ w'.cell? p1 = some v1) ∧ w'.cell? p2 = some v2 ∧ w'.cell? p3 = some v3 ∧ w'.cell? p4 = some v4 ∧ w'.cell? p5 = some v5 ∧ Below w3.heap.size w3 w') : Below w3.heap.size w3 w' := h.2.2.2.2.2
section
set_option maxRecDepth 20000
set_option maxHeartbeats 3200000
end
end Go.Proofs.YtnbjcelfdppkcaaGreat
namespace Go.Proofs.YtnbjcelfdppkcaaGreat

section
variable {c : Nat} {ll : List (List Int)} {m : Int} {L R : Nat}
theorem clSt_parL (hc : c ≤ 5) (hL : L < 2 ^ c) : (clSt c ll m (L : Int) ll.length).1 = parL c ll m L := (clSt_eq hc hL ll.length (Nat.le_refl _)).1
theorem mostTo_ge (p : List Int) (k : Nat) : ∀ n, k < n → sameTo c ll m R p k p.length ≤ mostTo c ll m R p n
  | 0, h => absurd h (Nat.not_lt_zero _)
  | n + 1, h => by
    unfold mostTo
    by_cases hk : k = n
    · subst hk; omega
    · have := mostTo_ge p k n (by omega)
      omega
theorem mostTo_is (p : List Int) : ∀ n, mostTo c ll m R p n = 0 ∧ n = 0 ∨ ∃ k, k < n ∧ mostTo c ll m R p n = sameTo c ll m R p k p.length
  | 0 => .inl ⟨rfl, rfl⟩
  | n + 1 => by
    right
    unfold mostTo
    rcases mostTo_is p n with ⟨h, h0⟩ | ⟨k, hk, h⟩
    · exact ⟨n, by omega, by rw [h]; omega⟩
    · by_cases hle : mostTo c ll m R p n ≤ sameTo c ll m R p n p.length
      · exact ⟨n, by omega, by omega⟩
      · exact ⟨k, by omega, by rw [← h]; omega⟩
theorem sameTo_lt (p : List Int) (k : Nat) : ∀ j, sameTo c ll m R p k j + (if j ≤ k then 0 else 1) ≤ j + 1
  | 0 => by simp [sameTo]
  | j + 1 => by
    have ih := sameTo_lt p k j
    unfold sameTo
    by_cases hjk : j = k
    · subst hjk
      rw [if_neg (fun h => h.1 rfl), if_neg (by omega)]
      rw [if_pos (Nat.le_refl _)] at ih
      omega
    · split
      · split at ih <;> split <;> omega
      · split at ih <;> split <;> omega
theorem mostTo_len (p : List Int) : mostTo c ll m R p p.length ≤ p.length := by
  rcases mostTo_is (c := c) (ll := ll) (m := m) (R := R) p p.length with ⟨h, -⟩ | ⟨k, hk, h⟩
  · omega
  · have := sameTo_lt (c := c) (ll := ll) (m := m) (R := R) p k p.length
    rw [if_neg (by omega)] at this
    omega
theorem remTo_sum (P : List (List Int)) : ∀ i, i ≤ P.length → remTo c ll m R P i = ((((P.take i).map fun r => r.length - mostTo c ll m R r r.length).sum : Nat) : Int)
  | 0, _ => rfl
  | i + 1, hi => by
    rw [take_succ_getD P [] i (by omega), List.map_append, List.sum_append]
    unfold remTo
    rw [remTo_sum P i (by omega)]
    have := mostTo_len (c := c) (ll := ll) (m := m) (R := R) (P.getD i [])
    simp only [List.map_cons, List.map_nil, List.sum_cons, List.sum_nil]
    omega
/-- The kept rows of a class, all equal on the right, are no more than the most. -/
theorem kept_same (p : List Int) (M : Int → Bool) (k : Nat) (hMk : M (p.getD k 0) = true) (hall : ∀ j, j < p.length → j ≠ k → M (p.getD j 0) = true → eqR c ll m R (p.getD k 0) (p.getD j 0) = true) :
    ∀ j, j ≤ p.length → ((p.take j).filter M).length + (if j ≤ k then 1 else 0) ≤ sameTo c ll m R p k j
  | 0, _ => by simp [sameTo]
  | j + 1, hj => by
    have ih := kept_same p M k hMk hall j (by omega)
    have es : sameTo c ll m R p k (j + 1) = if j ≠ k ∧ eqR c ll m R (p.getD k 0) (p.getD j 0) = true then sameTo c ll m R p k j + 1 else sameTo c ll m R p k j := rfl
    rw [take_succ_getD p 0 j (by omega), List.filter_append, List.length_append]
    by_cases hjk : j = k
    · subst hjk
      have es2 : sameTo c ll m R p j (j + 1) = sameTo c ll m R p j j := by rw [es]; exact if_neg (fun h => h.1 rfl)
      rw [es2, if_neg (show ¬ j + 1 ≤ j by omega), List.filter_cons, if_pos hMk]
      rw [if_pos (Nat.le_refl _)] at ih
      simp only [List.filter_nil, List.length_cons, List.length_nil]
      omega
    · have h1 : (if j + 1 ≤ k then 1 else 0) ≤ (if j ≤ k then 1 else 0) := by split <;> split <;> omega
      cases hM : M (p.getD j 0) with
      | true =>
        have es2 : sameTo c ll m R p k (j + 1) = sameTo c ll m R p k j + 1 := by rw [es]; exact if_pos ⟨hjk, hall j (by omega) hjk hM⟩
        rw [es2, List.filter_cons, if_pos hM]
        simp only [List.filter_nil, List.length_cons, List.length_nil]
        omega
      | false =>
        have es2 : sameTo c ll m R p k j ≤ sameTo c ll m R p k (j + 1) := by rw [es]; split <;> omega
        rw [List.filter_cons, if_neg (by rw [hM]; simp)]
        simp only [List.filter_nil, List.length_nil]
        omega
theorem kept_most (p : List Int) (M : Int → Bool) (hall : ∀ j k, j < p.length → k < p.length → j ≠ k → M (p.getD k 0) = true → M (p.getD j 0) = true → eqR c ll m R (p.getD k 0) (p.getD j 0) = true) : (p.filter M).length ≤ mostTo c ll m R p p.length := by
  by_cases hex : ∃ k, k < p.length ∧ M (p.getD k 0) = true
  · obtain ⟨k, hk, hM⟩ := hex
    have h1 := kept_same (c := c) (ll := ll) (m := m) (R := R) p M k hM (fun j hj hne hMj => hall j k hj hk hne hM hMj) p.length (Nat.le_refl _)
    rw [List.take_length] at h1
    have h2 := mostTo_ge (c := c) (ll := ll) (m := m) (R := R) p k p.length hk
    omega
  · have : p.filter M = [] := by
      rw [List.filter_eq_nil_iff]
      intro x hx hMx
      obtain ⟨j, hj, rfl⟩ := mem_getD'.mp hx
      exact hex ⟨j, hj, hMx⟩
    rw [this]; exact Nat.zero_le _
theorem filter_split {α : Type} (l : List α) (p : α → Bool) : l.length = (l.filter p).length + (l.filter fun x => !p x).length := by
  induction l with
  | nil => rfl
  | cons x t ih =>
    rw [List.filter_cons, List.filter_cons, List.length_cons, ih]
    cases h : p x with
    | true => simp; omega
    | false => simp; omega
theorem sum_le {α : Type} (l : List α) (f g : α → Nat) (h : ∀ x ∈ l, f x ≤ g x) : (l.map f).sum ≤ (l.map g).sum := by
  induction l with
  | nil => exact Nat.le_refl _
  | cons x t ih =>
    have h1 := h x (by simp)
    have h2 := ih fun y hy => h y (by simp [hy])
    simp only [List.map_cons, List.sum_cons]
    omega
theorem asc_one (l : List Nat) (hp : l.Pairwise fun a b => a < b) (h : ∀ a ∈ l, ∀ b ∈ l, a = b) : l.length ≤ 1 := by
  match l, hp, h with
  | [], _, _ => exact Nat.zero_le _
  | [x], _, _ => exact Nat.le_refl _
  | x :: y :: t, hp, h =>
    rw [List.pairwise_cons] at hp
    have h1 := hp.1 y (by simp)
    have h2 := h x (by simp) y (by simp)
    omega
/-- What was removed, class by class, is no more than what was removed. -/
theorem removed_le (hc : c ≤ 5) (hL : L < 2 ^ c) (M : Nat → Bool) : ((parL c ll m L).map fun r => (r.filter fun x => !M x.toNat).length).sum ≤ ((List.range ll.length).filter fun k => !M k).length := by
  rw [parL_map, List.map_map]
  have h1 : ((reps c ll m L).map ((fun r : List Int => (r.filter fun x => !M x.toNat).length) ∘ clsC c ll m (L : Int))).sum = ((reps c ll m L).map fun a => ((List.range ll.length).map fun k => if (agB c ll m (L : Int) a k && !M k) = true then 1 else 0).sum).sum := by
    congr 1
    refine List.map_congr_left fun a ha => ?_
    rw [sum_ind]
    have e : (clsC c ll m (L : Int) a).filter (fun x => !M x.toNat) = ((List.range ll.length).filter fun k => agB c ll m (L : Int) a k && !M k).map fun (k : Nat) => (k : Int) := by
      refine ascH_unique (r := fun x y => x < y) (fun x => by omega) (fun x y z => by omega) _ _ ((clsC_asc _ _).filter _) ?_ fun x => ?_
      · rw [List.pairwise_map]
        exact (List.pairwise_lt_range.filter _).imp fun {x y} h => by omega
      · rw [List.mem_filter, rep_mem hc hL ha, List.mem_map]
        constructor
        · rintro ⟨⟨k, k1, rfl, k3⟩, h⟩
          exact ⟨k, by rw [List.mem_filter, List.mem_range, Bool.and_eq_true]; exact ⟨k1, k3, h⟩, rfl⟩
        · rintro ⟨k, hk, rfl⟩
          rw [List.mem_filter, List.mem_range, Bool.and_eq_true] at hk
          exact ⟨⟨k, hk.1, rfl, hk.2.1⟩, hk.2.2⟩
    show ((clsC c ll m (L : Int) a).filter fun x => !M x.toNat).length = _
    rw [e, List.length_map]
  rw [h1, sum_swap, ← sum_ind]
  refine sum_le _ _ _ fun k hk => ?_
  rw [sum_ind]
  cases hM : M k with
  | true => simp
  | false =>
    rw [if_pos (by simp)]
    refine asc_one _ (reps_asc.filter _) fun a ha b hb => ?_
    rw [List.mem_filter, Bool.and_eq_true] at ha hb
    obtain ⟨a1, a2, -⟩ := reps_mem.1 ha.1
    obtain ⟨b1, b2, -⟩ := reps_mem.1 hb.1
    have hab := agB_trans hc hL ha.2.1 (agB_symm hc hL hb.2.1)
    rcases Nat.lt_trichotomy a b with hlt | he | hlt
    · unfold repB at b2
      rw [Bool.not_eq_true', List.any_eq_false] at b2
      exact (b2 a (List.mem_range.2 hlt) hab).elim
    · exact he
    · unfold repB at a2
      rw [Bool.not_eq_true', List.any_eq_false] at a2
      exact (a2 b (List.mem_range.2 hlt) (agB_symm hc hL hab)).elim
/-- Rows are kept without a violation only if as many are removed as are stated. -/
theorem rem_least (hc : c ≤ 5) (hL : L < 2 ^ c) (hR : R < c) (M : Nat → Bool) (hM : ∀ i k, i < k → k < ll.length → M i = true → M k = true → agB c ll m (L : Int) i k = true → agB c ll m ((2 ^ R : Nat) : Int) i k = true) :
    remTo c ll m R (parL c ll m L) (parL c ll m L).length ≤ (((List.range ll.length).filter fun k => !M k).length : Int) := by
  have hP : 2 ^ R < 2 ^ c := Nat.pow_lt_pow_right (by omega) hR
  rw [remTo_sum _ _ (Nat.le_refl _), List.take_length]
  refine Int.ofNat_le.2 (Nat.le_trans (sum_le _ _ _ fun r hr => ?_) (removed_le (m := m) hc hL M))
  obtain ⟨j, hj, rfl⟩ := List.mem_iff_getElem.1 hr
  obtain ⟨e, hm⟩ := parL_get hj
  rw [List.getD_eq_getElem?_getD, List.getElem?_eq_getElem hj] at e
  simp only [Option.getD_some] at e
  have hsp := filter_split ((parL c ll m L)[j]) (fun x => M x.toNat)
  have hk := kept_most (c := c) (ll := ll) (m := m) (R := R) ((parL c ll m L)[j]) (fun x => M x.toNat) (fun t s ht hs hne hMs hMt => by
    rw [e] at ht hs hMs hMt ⊢
    have hmt : (clsC c ll m (L : Int) ((reps c ll m L).getD j 0)).getD t 0 ∈ clsC c ll m (L : Int) ((reps c ll m L).getD j 0) := by rw [← get_getD _ t ht]; exact List.getElem_mem _
    have hms : (clsC c ll m (L : Int) ((reps c ll m L).getD j 0)).getD s 0 ∈ clsC c ll m (L : Int) ((reps c ll m L).getD j 0) := by rw [← get_getD _ s hs]; exact List.getElem_mem _
    obtain ⟨y, y1, y2, y3⟩ := (rep_mem hc hL hm).1 hmt
    obtain ⟨x, x1, x2, x3⟩ := (rep_mem hc hL hm).1 hms
    have hxy : x ≠ y := by
      intro he
      have hp := clsC_asc (c := c) (ll := ll) (m := m) ((reps c ll m L).getD j 0) (L : Int)
      have hpg := List.pairwise_iff_getElem.1 hp
      rcases Nat.lt_trichotomy s t with hlt | he2 | hlt
      · have := hpg s t hs ht hlt
        rw [get_getD _ s hs, get_getD _ t ht, x2, y2] at this
        omega
      · exact hne he2.symm
      · have := hpg t s ht hs hlt
        rw [get_getD _ s hs, get_getD _ t ht, x2, y2] at this
        omega
    rw [x2] at hMs ⊢
    rw [y2] at hMt ⊢
    simp only [show ∀ n : Nat, ((n : Int)).toNat = n from fun n => rfl] at hMs hMt
    have hag := agB_trans hc hL (agB_symm hc hL x3) y3
    have hrr : agB c ll m ((2 ^ R : Nat) : Int) x y = true := by
      rcases Nat.lt_trichotomy x y with hlt | he | hlt
      · exact hM x y hlt y1 hMs hMt hag
      · exact (hxy he).elim
      · exact agB_symm hc hP (hM y x hlt x1 hMt hMs (agB_symm hc hL hag))
    rw [agB_one hc hR] at hrr
    exact hrr)
  show ((parL c ll m L)[j]).length - mostTo c ll m R ((parL c ll m L)[j]) ((parL c ll m L)[j]).length ≤ _
  omega
theorem same_miss (p : List Int) (k t : Nat) (htk : t ≠ k) (h : eqR c ll m R (p.getD k 0) (p.getD t 0) = false) : ∀ j, t < j → sameTo c ll m R p k j + (if j ≤ k then 0 else 1) ≤ j
  | 0, hj => absurd hj (Nat.not_lt_zero _)
  | j + 1, hj => by
    have es : sameTo c ll m R p k (j + 1) = if j ≠ k ∧ eqR c ll m R (p.getD k 0) (p.getD j 0) = true then sameTo c ll m R p k j + 1 else sameTo c ll m R p k j := rfl
    by_cases htj : t = j
    · subst htj
      have h0 := sameTo_lt (c := c) (ll := ll) (m := m) (R := R) p k t
      have es2 : sameTo c ll m R p k (t + 1) = sameTo c ll m R p k t := by rw [es]; exact if_neg (fun g => by rw [h] at g; cases g.2)
      rw [es2]
      split at h0 <;> split <;> omega
    · have ih := same_miss p k t htk h j (by omega)
      by_cases hjk : j = k
      · subst hjk
        have es2 : sameTo c ll m R p j (j + 1) = sameTo c ll m R p j j := by rw [es]; exact if_neg (fun g => g.1 rfl)
        rw [es2, if_neg (by omega)]
        rw [if_pos (Nat.le_refl _)] at ih
        omega
      · have es2 : sameTo c ll m R p k (j + 1) ≤ sameTo c ll m R p k j + 1 := by rw [es]; split <;> omega
        split at ih <;> split <;> omega
theorem sum_zero {α : Type} (l : List α) (f : α → Nat) (h : (l.map f).sum = 0) : ∀ x ∈ l, f x = 0 := by
  induction l with
  | nil => intro x hx; cases hx
  | cons y t ih =>
    simp only [List.map_cons, List.sum_cons] at h
    intro x hx
    rcases List.mem_cons.1 hx with rfl | hx
    · omega
    · exact ih (by omega) x hx
theorem remTo_nat (P : List (List Int)) : 0 ≤ remTo c ll m R P P.length := by
  rw [remTo_sum _ _ (Nat.le_refl _)]; omega
/-- No rows have to be removed just if it holds. -/
theorem rem_zero (hc : c ≤ 5) (hL : L < 2 ^ c) (hR : R < c) : remTo c ll m R (parL c ll m L) (parL c ll m L).length = 0 ↔ HoldsAll c ll m L R := by
  have hP : 2 ^ R < 2 ^ c := Nat.pow_lt_pow_right (by omega) hR
  constructor
  · intro h0 i k hik hk hag
    rw [remTo_sum _ _ (Nat.le_refl _), List.take_length] at h0
    have hz := sum_zero _ _ (Int.ofNat.inj h0)
    -- the class of both rows
    have h40 : ∃ a, a ∈ reps c ll m L ∧ agB c ll m (L : Int) a i = true := by
      cases hr : repB c ll m (L : Int) i with
      | true => exact ⟨i, reps_mem.2 ⟨by omega, hr, (clsC_two (by omega)).2 ⟨k, hik, hk, hag⟩⟩, agB_trans hc hL hag (agB_symm hc hL hag)⟩
      | false =>
        unfold repB at hr
        rw [Bool.not_eq_false', List.any_eq_true] at hr
        obtain ⟨b, hb, hbi⟩ := hr
        obtain ⟨a, g1, g2, g3⟩ := rep_least hc hL i (b + 1) b (by omega) (List.mem_range.1 hb) hbi
        exact ⟨a, reps_mem.2 ⟨by omega, g2, (clsC_two (by omega)).2 ⟨i, g1, by omega, g3⟩⟩, g3⟩
    obtain ⟨a, ham, hai⟩ := h40
    obtain ⟨a1, a2, a3⟩ := reps_mem.1 ham
    have hrm : clsC c ll m (L : Int) a ∈ parL c ll m L := by rw [parL_map]; exact List.mem_map.2 ⟨a, ham, rfl⟩
    have hmost := hz _ hrm
    have hml := mostTo_len (c := c) (ll := ll) (m := m) (R := R) (clsC c ll m (L : Int) a)
    rcases mostTo_is (c := c) (ll := ll) (m := m) (R := R) (clsC c ll m (L : Int) a) (clsC c ll m (L : Int) a).length with ⟨-, g0⟩ | ⟨s, hs, g⟩
    · omega
    · have hall : ∀ t, t < (clsC c ll m (L : Int) a).length → t ≠ s → eqR c ll m R ((clsC c ll m (L : Int) a).getD s 0) ((clsC c ll m (L : Int) a).getD t 0) = true := by
        intro t ht hts
        cases he : eqR c ll m R ((clsC c ll m (L : Int) a).getD s 0) ((clsC c ll m (L : Int) a).getD t 0) with
        | true => rfl
        | false =>
          have hmi := same_miss (c := c) (ll := ll) (m := m) (R := R) (clsC c ll m (L : Int) a) s t hts he _ ht
          rw [if_neg (by omega)] at hmi
          omega
      have hms : (clsC c ll m (L : Int) a).getD s 0 ∈ clsC c ll m (L : Int) a := by rw [← get_getD _ s hs]; exact List.getElem_mem _
      obtain ⟨x, x1, x2, x3⟩ := (rep_mem hc hL ham).1 hms
      have hto : ∀ y : Nat, y < ll.length → agB c ll m (L : Int) a y = true → y ≠ x → agB c ll m ((2 ^ R : Nat) : Int) x y = true := by
        intro y hy hay hyx
        obtain ⟨t, ht, he⟩ := mem_getD'.mp ((rep_mem hc hL ham).2 ⟨y, hy, rfl, hay⟩)
        have hts : t ≠ s := fun e => by rw [e, x2] at he; omega
        have := hall t ht hts
        rw [x2, ← he] at this
        rw [agB_one hc hR]
        exact this
      have hak := agB_trans hc hL hai hag
      by_cases hix : i = x
      · subst hix
        exact hto k hk hak (by omega)
      · by_cases hkx : k = x
        · subst hkx
          exact agB_symm hc hP (hto i (by omega) hai hix)
        · exact agB_trans hc hP (agB_symm hc hP (hto i (by omega) hai hix)) (hto k hk hak hkx)
  · intro h
    have h1 := rem_least (ll := ll) (m := m) hc hL hR (fun _ => true) (fun i k hik hk _ _ => h i k hik hk)
    have h2 := remTo_nat (c := c) (ll := ll) (m := m) (R := R) (parL c ll m L)
    have h3 : ((List.range ll.length).filter fun _ => !true) = [] := by simp
    rw [h3] at h1
    simp only [List.length_nil] at h1
    omega
/-- A row stays. -/
theorem rem_lt (hc : c ≤ 5) (hL : L < 2 ^ c) (h : 0 < remTo c ll m R (parL c ll m L) (parL c ll m L).length) : remTo c ll m R (parL c ll m L) (parL c ll m L).length < (ll.length : Int) := by
  have he := parL_error (ll := ll) (m := m) hc hL
  rw [errTo_sum _ _ (Nat.le_refl _), List.take_length] at he
  rw [remTo_sum _ _ (Nat.le_refl _), List.take_length] at h ⊢
  have h1 := sum_le (parL c ll m L) (fun r => r.length - mostTo c ll m R r r.length) (fun r => r.length - 1) (fun r hr => by
    rcases mostTo_is (c := c) (ll := ll) (m := m) (R := R) r r.length with ⟨-, g0⟩ | ⟨s, hs, g⟩
    · omega
    · have := (sameTo_le c ll m R r s r.length).1
      omega)
  have h2 : (nonreps c ll m L).length + 1 ≤ ll.length ∨ ll.length = 0 := by
    by_cases h0 : ll.length = 0
    · exact .inr h0
    · left
      have hsp := filter_split (List.range ll.length) (fun k => !repB c ll m (L : Int) k)
      rw [List.length_range] at hsp
      have h3 : 0 ∈ (List.range ll.length).filter fun x => !(!repB c ll m (L : Int) x) := by
        rw [List.mem_filter, List.mem_range]
        exact ⟨by omega, by unfold repB; simp⟩
      have h4 : 0 < ((List.range ll.length).filter fun x => !(!repB c ll m (L : Int) x)).length := List.length_pos_of_mem h3
      unfold nonreps
      omega
  have h3 : (nonreps c ll m L).length ≤ ll.length := by unfold nonreps; exact Nat.le_trans (List.length_filter_le _ _) (by simp)
  omega
end
end Go.Proofs.YtnbjcelfdppkcaaGreat
namespace Go.Proofs.YtnbjcelfdppkcaaGreat
open Go.RowKit

/-- The sets below n that g takes, in order. -/
def brdTo (g : Nat → Bool) : Nat → List Int
  | 0 => []
  | x + 1 => if g x = true then brdTo g x ++ [(x : Int)] else brdTo g x
theorem brdTo_mem (g : Nat → Bool) (y : Int) : ∀ n, (y ∈ brdTo g n ↔ ∃ x, x < n ∧ g x = true ∧ y = (x : Int))
  | 0 => by simp [brdTo]
  | n + 1 => by
    have ih := brdTo_mem g y n
    unfold brdTo
    constructor
    · intro h
      split at h
      · rename_i hg
        rcases List.mem_append.1 h with h | h
        · obtain ⟨x, x1, x2, x3⟩ := ih.1 h
          exact ⟨x, by omega, x2, x3⟩
        · rw [List.mem_singleton] at h
          exact ⟨n, by omega, hg, h⟩
      · obtain ⟨x, x1, x2, x3⟩ := ih.1 h
        exact ⟨x, by omega, x2, x3⟩
    · rintro ⟨x, x1, x2, x3⟩
      by_cases e : x = n
      · subst e
        rw [if_pos x2]
        exact List.mem_append.2 (.inr (by rw [x3]; exact List.mem_singleton.2 rfl))
      · have := ih.2 ⟨x, by omega, x2, x3⟩
        split
        · exact List.mem_append.2 (.inl this)
        · exact this
theorem brdTo_len (g : Nat → Bool) : ∀ n, (brdTo g n).length ≤ n
  | 0 => by simp [brdTo]
  | n + 1 => by
    have := brdTo_len g n
    unfold brdTo
    split
    · rw [List.length_append, List.length_singleton]; omega
    · omega
theorem brdTo_ok (g : Nat → Bool) {n : Nat} (hn : n ≤ 32) : setsOk (brdTo g n) = true := by
  unfold setsOk
  rw [Bool.and_eq_true, decide_eq_true_iff, List.all_eq_true]
  refine ⟨fun y hy => ?_, by have := brdTo_len g n; omega⟩
  obtain ⟨x, x1, -, rfl⟩ := (brdTo_mem g y n).1 hy
  have h : ∀ x : Fin 32, valB ((x.val : Nat) : Int) = true := by decide +kernel
  exact h ⟨x, by omega⟩
theorem and_sub (a b : Nat) (ha : a < 32) (hb : b < 32) : (bits .and .i64 (a : Int) (b : Int) == (a : Int)) = subN a b := by
  have h : ∀ a b : Fin 32, (bits .and .i64 ((a.val : Nat) : Int) ((b.val : Nat) : Int) == ((a.val : Nat) : Int)) = subN a.val b.val := by decide +kernel
  exact h ⟨a, ha⟩ ⟨b, hb⟩
theorem and_sub' (a b : Nat) (ha : a < 32) (hb : b < 32) : (bits .and .i64 (b : Int) (a : Int) == (a : Int)) = subN a b := by
  have h : ∀ a b : Fin 32, (bits .and .i64 ((b.val : Nat) : Int) ((a.val : Nat) : Int) == ((a.val : Nat) : Int)) = subN a.val b.val := by decide +kernel
  exact h ⟨a, ha⟩ ⟨b, hb⟩
/-- The members of the greatest sets of a family. -/
theorem maxS_brd (g : Nat → Bool) {n : Nat} (hn : n ≤ 32) (y : Int) : y ∈ maxS (brdTo g n) ↔ ∃ x, x < n ∧ g x = true ∧ y = (x : Int) ∧ ∀ z, z < n → g z = true → subN x z = true → z = x := by
  unfold maxS
  rw [if_pos (brdTo_ok g hn), mxTo_mem]
  constructor
  · rintro ⟨t, ht, rfl, hk⟩
    obtain ⟨x, x1, x2, x3⟩ := (brdTo_mem g _ n).1 (mem_getD.2 ⟨t, ht, rfl⟩)
    refine ⟨x, x1, x2, x3, fun z hz hg hs => ?_⟩
    obtain ⟨s, hsl, e⟩ := mem_getD.1 ((brdTo_mem g (z : Int) n).2 ⟨z, hz, hg, rfl⟩)
    have h := (topK_iff _ _ _).1 hk s hsl
    rw [← e, x3, Bool.or_eq_true, beq_iff_eq] at h
    rcases h with h | h
    · omega
    · have hb := and_sub x z (by omega) (by omega)
      rw [hs, beq_iff_eq] at hb
      rw [hb] at h
      simp at h
  · rintro ⟨x, x1, x2, rfl, h⟩
    obtain ⟨s, hsl, e⟩ := mem_getD.1 ((brdTo_mem g (x : Int) n).2 ⟨x, x1, x2, rfl⟩)
    refine ⟨s, hsl, e, (topK_iff _ _ _).2 fun t ht => ?_⟩
    obtain ⟨z, z1, z2, z3⟩ := (brdTo_mem g _ n).1 (mem_getD.2 ⟨t, ht, rfl⟩)
    rw [z3, Bool.or_eq_true, beq_iff_eq]
    by_cases hs : subN x z = true
    · exact .inl (by rw [h z z1 z2 hs])
    · have hb := and_sub x z (by omega) (by omega)
      refine .inr ?_
      rw [bne, hb]
      simpa using hs
/-- The members of the smallest sets of a family. -/
theorem minS_brd (g : Nat → Bool) {n : Nat} (hn : n ≤ 32) (y : Int) : y ∈ minS (brdTo g n) ↔ ∃ x, x < n ∧ g x = true ∧ y = (x : Int) ∧ ∀ z, z < n → g z = true → subN z x = true → z = x := by
  unfold minS
  rw [if_pos (brdTo_ok g hn), mnTo_mem]
  constructor
  · rintro ⟨t, ht, rfl, hk⟩
    obtain ⟨x, x1, x2, x3⟩ := (brdTo_mem g _ n).1 (mem_getD.2 ⟨t, ht, rfl⟩)
    refine ⟨x, x1, x2, x3, fun z hz hg hs => ?_⟩
    obtain ⟨s, hsl, e⟩ := mem_getD.1 ((brdTo_mem g (z : Int) n).2 ⟨z, hz, hg, rfl⟩)
    have h := (lowK_iff _ _ _).1 hk s hsl
    rw [← e, x3, Bool.or_eq_true, beq_iff_eq] at h
    rcases h with h | h
    · omega
    · have hb := and_sub' z x (by omega) (by omega)
      rw [hs, beq_iff_eq] at hb
      rw [hb] at h
      simp at h
  · rintro ⟨x, x1, x2, rfl, h⟩
    obtain ⟨s, hsl, e⟩ := mem_getD.1 ((brdTo_mem g (x : Int) n).2 ⟨x, x1, x2, rfl⟩)
    refine ⟨s, hsl, e, (lowK_iff _ _ _).2 fun t ht => ?_⟩
    obtain ⟨z, z1, z2, z3⟩ := (brdTo_mem g _ n).1 (mem_getD.2 ⟨t, ht, rfl⟩)
    rw [z3, Bool.or_eq_true, beq_iff_eq]
    by_cases hs : subN z x = true
    · exact .inl (by rw [h z z1 z2 hs])
    · have hb := and_sub' z x (by omega) (by omega)
      refine .inr ?_
      rw [bne, hb]
      simpa using hs
/-- A set without column R is in one of the border just if its dependency does not hold. -/
theorem border_iff {C R : Nat} (hC : C ≤ 5) (hR : R < C) {f : Nat → Prop} (hu : UpN (2 ^ C) f) {g : Nat → Bool} (hg : ∀ x, x < 2 ^ C → (g x = true ↔ ¬ f x ∧ bitB x R = false)) {x : Nat} (hx : x < 2 ^ C) (hr : bitB x R = false) :
    (∃ y : Nat, y < 2 ^ C ∧ (y : Int) ∈ maxS (brdTo g (2 ^ C)) ∧ subN x y = true) ↔ ¬ f x := by
  have h32 : 2 ^ C ≤ 32 := Nat.le_trans (Nat.pow_le_pow_right (by omega) hC) (by decide)
  constructor
  · rintro ⟨y, hy, hm, hs⟩ hf
    obtain ⟨z, z1, z2, z3, -⟩ := (maxS_brd g h32 _).1 hm
    obtain rfl : y = z := by omega
    exact ((hg y z1).1 z2).1 (hu x y hx z1 hs hf)
  · intro hf
    obtain ⟨y, y1, y2, y3⟩ := most_ex hC hR 32 x (by omega) hx hr hf
    obtain ⟨m1, m2, m3⟩ := (most_iff hC hu hR y1).1 y3
    exact ⟨y, y1, (maxS_brd g h32 _).2 ⟨y, y1, (hg y y1).2 ⟨m1, m2⟩, rfl, fun z hz hgz hs => by
      obtain ⟨g1, g2⟩ := (hg z hz).1 hgz
      exact m3 z hz g1 g2 hs⟩, y2⟩
/-- What a list of dependencies is built like: for each column in order, the sets of ps that f takes. -/
def mdIn (f : Int → Nat → Bool) (ps : List Int) (r : Nat) (l0 : List (Int × Int)) : Nat → List (Int × Int)
  | 0 => l0
  | i + 1 => if f (ps.getD i 0) r = true then mdIn f ps r l0 i ++ [(ps.getD i 0, (r : Int))] else mdIn f ps r l0 i
def mdOut (f : Int → Nat → Bool) (ps : List Int) : Nat → List (Int × Int)
  | 0 => []
  | r + 1 => mdIn f ps r (mdOut f ps r) ps.length
theorem mdIn_mem (f : Int → Nat → Bool) (ps : List Int) (r : Nat) (l0 : List (Int × Int)) (d : Int × Int) : ∀ n, (d ∈ mdIn f ps r l0 n ↔ d ∈ l0 ∨ ∃ t, t < n ∧ f (ps.getD t 0) r = true ∧ d = (ps.getD t 0, (r : Int)))
  | 0 => by simp [mdIn]
  | n + 1 => by
    have ih := mdIn_mem f ps r l0 d n
    unfold mdIn
    constructor
    · intro h
      split at h
      · rename_i hf
        rcases List.mem_append.1 h with h | h
        · rcases ih.1 h with h | ⟨t, t1, t2, t3⟩
          · exact .inl h
          · exact .inr ⟨t, by omega, t2, t3⟩
        · rw [List.mem_singleton] at h
          exact .inr ⟨n, by omega, hf, h⟩
      · rcases ih.1 h with h | ⟨t, t1, t2, t3⟩
        · exact .inl h
        · exact .inr ⟨t, by omega, t2, t3⟩
    · intro h
      have key : (d ∈ l0 ∨ ∃ t, t < n ∧ f (ps.getD t 0) r = true ∧ d = (ps.getD t 0, (r : Int))) ∨ (f (ps.getD n 0) r = true ∧ d = (ps.getD n 0, (r : Int))) := by
        rcases h with h | ⟨t, t1, t2, t3⟩
        · exact .inl (.inl h)
        · by_cases e : t = n
          · subst e; exact .inr ⟨t2, t3⟩
          · exact .inl (.inr ⟨t, by omega, t2, t3⟩)
      rcases key with h | ⟨h, h'⟩
      · split
        · exact List.mem_append.2 (.inl (ih.2 h))
        · exact ih.2 h
      · rw [if_pos h]
        exact List.mem_append.2 (.inr (List.mem_singleton.2 h'))
theorem mdOut_mem (f : Int → Nat → Bool) (ps : List Int) (d : Int × Int) : ∀ C, (d ∈ mdOut f ps C ↔ ∃ r, r < C ∧ ∃ S, S ∈ ps ∧ f S r = true ∧ d = (S, (r : Int)))
  | 0 => by simp [mdOut]
  | C + 1 => by
    have ih := mdOut_mem f ps d C
    unfold mdOut
    rw [mdIn_mem, ih]
    constructor
    · rintro (⟨r, r1, S, r2, r3, r4⟩ | ⟨t, t1, t2, t3⟩)
      · exact ⟨r, by omega, S, r2, r3, r4⟩
      · exact ⟨C, by omega, _, mem_getD.2 ⟨t, t1, rfl⟩, t2, t3⟩
    · rintro ⟨r, r1, S, r2, r3, r4⟩
      by_cases e : r = C
      · subst e
        obtain ⟨t, t1, rfl⟩ := mem_getD.1 r2
        exact .inr ⟨t, t1, r3, r4⟩
      · exact .inl ⟨r, by omega, S, r2, r3, r4⟩
theorem mdIn_same {f f' : Int → Nat → Bool} {ps : List Int} {r : Nat} (l0 : List (Int × Int)) (h : ∀ S ∈ ps, f S r = f' S r) : ∀ n, n ≤ ps.length → mdIn f ps r l0 n = mdIn f' ps r l0 n
  | 0, _ => rfl
  | n + 1, hn => by
    unfold mdIn
    rw [mdIn_same l0 h n (by omega), h _ (mem_getD.2 ⟨n, by omega, rfl⟩)]
theorem mdOut_same {f f' : Int → Nat → Bool} {ps : List Int} : ∀ C, (∀ S ∈ ps, ∀ r, r < C → f S r = f' S r) → mdOut f ps C = mdOut f' ps C
  | 0, _ => rfl
  | C + 1, h => by
    unfold mdOut
    rw [mdOut_same C (fun S hS r hr => h S hS r (by omega)), mdIn_same _ (fun S hS => h S hS C (by omega)) _ (Nat.le_refl _)]
theorem mdIn_len (f : Int → Nat → Bool) (ps : List Int) (r : Nat) (l0 : List (Int × Int)) : ∀ n, (mdIn f ps r l0 n).length ≤ l0.length + n
  | 0 => by simp [mdIn]
  | n + 1 => by
    have := mdIn_len f ps r l0 n
    unfold mdIn
    split
    · rw [List.length_append, List.length_singleton]; omega
    · omega
theorem mdOut_len (f : Int → Nat → Bool) (ps : List Int) : ∀ C, (mdOut f ps C).length ≤ C * ps.length
  | 0 => by simp [mdOut]
  | C + 1 => by
    have h1 := mdOut_len f ps C
    have h2 := mdIn_len f ps C (mdOut f ps C) ps.length
    unfold mdOut
    rw [Nat.succ_mul]
    omega
end Go.Proofs.YtnbjcelfdppkcaaGreat
namespace Go.Proofs.YtnbjcelfdppkcaaGreat
open Go.RowKit

/-- Whether no pair of rows violates it. -/
noncomputable def h7 (C : Nat) (ll : List (List Int)) (m : Int) (L R : Nat) : Bool := decide ((pairI (badB C ll m L R) ll.length).1 < 0)
/-- Minimal. -/
noncomputable def minN (C : Nat) (ll : List (List Int)) (m : Int) (L R : Nat) : Bool := !bitB L R && h7 C ll m L R && (List.range C).all (fun i => !(bitB L i && h7 C ll m (L - 2 ^ i) R))
theorem h7_iff {C : Nat} {ll : List (List Int)} {m : Int} {L R : Nat} (hC : C ≤ 5) (hR : R < C) : h7 C ll m L R = true ↔ HoldsAll C ll m L R := by
  unfold h7
  rw [decide_eq_true_iff]
  exact pairI_holds hC hR
theorem two5 {C : Nat} (hC : C ≤ 5) : 2 ^ C ≤ 32 := Nat.le_trans (Nat.pow_le_pow_right (by omega) hC) (by decide)
theorem minN_iff {C : Nat} {ll : List (List Int)} {m : Int} {L R : Nat} (hC : C ≤ 5) (hR : R < C) (hL : L < 2 ^ C) : minN C ll m L R = true ↔ bitB L R = false ∧ LeastN (fun S => HoldsAll C ll m S R) L := by
  have h32 := two5 hC
  unfold minN LeastN
  rw [Bool.and_eq_true, Bool.and_eq_true, Bool.not_eq_true', h7_iff hC hR, List.all_eq_true]
  constructor
  · rintro ⟨⟨h1, h2⟩, h3⟩
    refine ⟨h1, h2, fun j hj hb hf => ?_⟩
    have hjC := bit_lt ⟨C, by omega⟩ ⟨L, by omega⟩ ⟨j, hj⟩ hL hb
    have h := h3 j (List.mem_range.2 hjC)
    rw [hb, (h7_iff hC hR).2 hf] at h
    cases h
  · rintro ⟨h1, h2, h3⟩
    refine ⟨⟨h1, h2⟩, fun j hj => ?_⟩
    rw [Bool.not_eq_true', Bool.and_eq_false_iff]
    cases hb : bitB L j with
    | false => exact .inl rfl
    | true =>
      refine .inr (Bool.eq_false_iff.2 fun h => ?_)
      exact h3 j (by have := List.mem_range.1 hj; omega) hb ((h7_iff hC hR).1 h)
theorem parts_fin : ∀ (C : Fin 6) (x : Fin 32), ((x.val : Nat) : Int) ∈ parts ((C.val : Nat) : Int) ↔ x.val < 2 ^ C.val := by decide +kernel
theorem parts_nat : ∀ C : Fin 6, ∀ S ∈ parts ((C.val : Nat) : Int), 0 ≤ S ∧ S < 32 := by decide +kernel
theorem parts_mem {C : Nat} (hC : C ≤ 5) (S : Int) : S ∈ parts (C : Int) ↔ ∃ x : Nat, x < 2 ^ C ∧ S = (x : Int) := by
  have h32 := two5 hC
  constructor
  · intro h
    obtain ⟨s0, s1⟩ := parts_nat ⟨C, by omega⟩ S h
    obtain ⟨x, rfl⟩ : ∃ x : Nat, S = (x : Int) := ⟨S.toNat, by omega⟩
    exact ⟨x, (parts_fin ⟨C, by omega⟩ ⟨x, by omega⟩).1 h, rfl⟩
  · rintro ⟨x, hx, rfl⟩
    exact (parts_fin ⟨C, by omega⟩ ⟨x, by omega⟩).2 hx
/-- A part has no column that the whole has not. -/
theorem sub_bit {C y x R : Nat} (hC : C ≤ 5) (hR : R < C) (hy : y < 2 ^ C) (hx : x < 2 ^ C) (hs : subN y x = true) (hb : bitB x R = false) : bitB y R = false := by
  have h32 := two5 hC
  refine Bool.eq_false_iff.2 fun h => ?_
  have := (subN_bit ⟨y, by omega⟩ ⟨x, by omega⟩).1 hs ⟨R, by omega⟩ h
  simp only at this
  rw [hb] at this
  cases this
/-- Every set without column R for which the dependency holds covers the left side of a minimal one, and no other does. -/
theorem cover_iff {C : Nat} {ll : List (List Int)} {m : Int} {R x : Nat} (hC : C ≤ 5) (hR : R < C) (hx : x < 2 ^ C) (hr : bitB x R = false) :
    (∃ y : Nat, y < 2 ^ C ∧ ((y : Int), (R : Int)) ∈ mdOut (fun S r => minN C ll m S.toNat r) (parts (C : Int)) C ∧ subN y x = true) ↔ HoldsAll C ll m x R := by
  have h32 := two5 hC
  constructor
  · rintro ⟨y, hy, hm, hs⟩
    obtain ⟨r, r1, S, r2, r3, r4⟩ := (mdOut_mem _ _ _ _).1 hm
    obtain ⟨e1, e2⟩ := Prod.mk.inj r4
    obtain rfl : R = r := by omega
    subst e1
    have h := ((minN_iff hC hR (by simpa using hy)).1 r3).2.1
    exact holds_up hC y x hy hx hs (by simpa using h)
  · intro h
    obtain ⟨y, y1, y2, y3, y4⟩ := least_ex (f := fun S => HoldsAll C ll m S R) x (by omega) h
    have hy : y < 2 ^ C := by omega
    exact ⟨y, hy, (mdOut_mem _ _ _ _).2 ⟨R, hR, (y : Int), (parts_mem hC _).2 ⟨y, hy, rfl⟩, (minN_iff hC hR (by simpa using hy)).2 ⟨sub_bit hC hR (by simpa using hy) hx (by simpa using y3) hr, by simpa using y4⟩, rfl⟩, y3⟩
/-- Those of a list that g takes, in its order. -/
def fltTo (g : Int → Bool) (ps : List Int) : Nat → List Int
  | 0 => []
  | i + 1 => if g (ps.getD i 0) = true then fltTo g ps i ++ [ps.getD i 0] else fltTo g ps i
theorem fltTo_mem (g : Int → Bool) (ps : List Int) (y : Int) : ∀ n, (y ∈ fltTo g ps n ↔ ∃ t, t < n ∧ g (ps.getD t 0) = true ∧ y = ps.getD t 0)
  | 0 => by simp [fltTo]
  | n + 1 => by
    have ih := fltTo_mem g ps y n
    unfold fltTo
    constructor
    · intro h
      split at h
      · rename_i hf
        rcases List.mem_append.1 h with h | h
        · obtain ⟨t, t1, t2, t3⟩ := ih.1 h
          exact ⟨t, by omega, t2, t3⟩
        · rw [List.mem_singleton] at h
          exact ⟨n, by omega, hf, h⟩
      · obtain ⟨t, t1, t2, t3⟩ := ih.1 h
        exact ⟨t, by omega, t2, t3⟩
    · rintro ⟨t, t1, t2, t3⟩
      by_cases e : t = n
      · subst e
        rw [if_pos t2]
        exact List.mem_append.2 (.inr (List.mem_singleton.2 t3))
      · have := ih.2 ⟨t, by omega, t2, t3⟩
        split
        · exact List.mem_append.2 (.inl this)
        · exact this
theorem fltTo_len (g : Int → Bool) (ps : List Int) : ∀ n, (fltTo g ps n).length ≤ n
  | 0 => by simp [fltTo]
  | n + 1 => by
    have := fltTo_len g ps n
    unfold fltTo
    split
    · rw [List.length_append, List.length_singleton]; omega
    · omega
/-- The smallest sets of a list of small sets. -/
theorem minS_mem {l : List Int} (hl : setsOk l = true) (hb : ∀ y ∈ l, ∃ x : Nat, x < 32 ∧ y = (x : Int)) (x : Nat) : (x : Int) ∈ minS l ↔ (x : Int) ∈ l ∧ ∀ z : Nat, (z : Int) ∈ l → subN z x = true → z = x := by
  unfold minS
  rw [if_pos hl, mnTo_mem]
  constructor
  · rintro ⟨t, ht, e, hk⟩
    have hm : (x : Int) ∈ l := mem_getD.2 ⟨t, ht, e⟩
    obtain ⟨x', x1, x2⟩ := hb _ hm
    refine ⟨hm, fun z hz hs => ?_⟩
    obtain ⟨z', z1, z2⟩ := hb _ hz
    obtain ⟨s, hsl, e'⟩ := mem_getD.1 hz
    have h := (lowK_iff _ _ _).1 hk s hsl
    rw [← e', Bool.or_eq_true, beq_iff_eq] at h
    rcases h with h | h
    · omega
    · have hb := and_sub' z x (by omega) (by omega)
      rw [hs, beq_iff_eq] at hb
      rw [hb] at h
      simp at h
  · rintro ⟨hm, h⟩
    obtain ⟨x', x1, x2⟩ := hb _ hm
    obtain ⟨s, hsl, e⟩ := mem_getD.1 hm
    refine ⟨s, hsl, e, (lowK_iff _ _ _).2 fun t ht => ?_⟩
    have hz : l.getD t 0 ∈ l := mem_getD.2 ⟨t, ht, rfl⟩
    obtain ⟨z, z1, z2⟩ := hb _ hz
    rw [z2] at hz ⊢
    rw [Bool.or_eq_true, beq_iff_eq]
    by_cases hs : subN z x = true
    · exact .inl (by rw [h z hz hs])
    · have hb := and_sub' z x (by omega) (by omega)
      refine .inr ?_
      rw [bne, hb]
      simpa using hs
/-- A family's smallest sets without column R are the minimal left sides, if the family is what holds. -/
theorem low_min {C : Nat} {ll : List (List Int)} {m : Int} {R : Nat} (hC : C ≤ 5) (hR : R < C) {g : Int → Bool} (hg : ∀ x : Nat, x < 2 ^ C → (g (x : Int) = true ↔ bitB x R = false ∧ HoldsAll C ll m x R)) {x : Nat} (hx : x < 2 ^ C) :
    (x : Int) ∈ minS (fltTo g (parts (C : Int)) (parts (C : Int)).length) ↔ minN C ll m x R = true := by
  have h32 := two5 hC
  have hmem : ∀ y, y ∈ fltTo g (parts (C : Int)) (parts (C : Int)).length ↔ ∃ x : Nat, x < 2 ^ C ∧ g (x : Int) = true ∧ y = (x : Int) := by
    intro y
    rw [fltTo_mem]
    constructor
    · rintro ⟨t, t1, t2, t3⟩
      obtain ⟨z, z1, z2⟩ := (parts_mem hC _).1 (mem_getD.2 ⟨t, t1, t3⟩)
      exact ⟨z, z1, by rw [← z2, t3]; exact t2, z2⟩
    · rintro ⟨z, z1, z2, z3⟩
      obtain ⟨t, t1, t2⟩ := mem_getD.1 ((parts_mem hC y).2 ⟨z, z1, z3⟩)
      exact ⟨t, t1, by rw [← t2, z3]; exact z2, t2⟩
  have hok : setsOk (fltTo g (parts (C : Int)) (parts (C : Int)).length) = true := by
    unfold setsOk
    rw [Bool.and_eq_true, decide_eq_true_iff, List.all_eq_true]
    refine ⟨fun y hy => ?_, ?_⟩
    · obtain ⟨z, z1, -, rfl⟩ := (hmem y).1 hy
      have h : ∀ x : Fin 32, valB ((x.val : Nat) : Int) = true := by decide +kernel
      exact h ⟨z, by omega⟩
    · have h1 := fltTo_len g (parts (C : Int)) (parts (C : Int)).length
      have h2 : ∀ C : Fin 6, (parts ((C.val : Nat) : Int)).length ≤ 32 := by decide +kernel
      have h3 := h2 ⟨C, by omega⟩
      simp only at h3
      omega
  rw [minS_mem hok (fun y hy => by obtain ⟨z, z1, -, z3⟩ := (hmem y).1 hy; exact ⟨z, by omega, z3⟩), minN_iff hC hR hx, least_iff h32 (holds_up hC) hx]
  constructor
  · rintro ⟨h1, h2⟩
    obtain ⟨z, z1, z2, z3⟩ := (hmem _).1 h1
    obtain rfl : x = z := by omega
    obtain ⟨g1, g2⟩ := (hg x hx).1 z2
    refine ⟨g1, g2, fun z hz hf hs => h2 z ((hmem _).2 ⟨z, hz, (hg z hz).2 ⟨sub_bit hC hR hz hx hs g1, hf⟩, rfl⟩) hs⟩
  · rintro ⟨h1, h2, h3⟩
    refine ⟨(hmem _).2 ⟨x, hx, (hg x hx).2 ⟨h1, h2⟩, rfl⟩, fun z hz hs => ?_⟩
    obtain ⟨z', z1, z2, z3⟩ := (hmem _).1 hz
    obtain rfl : z = z' := by omega
    exact h3 z z1 ((hg z z1).1 z2).2 hs
end Go.Proofs.YtnbjcelfdppkcaaGreat
