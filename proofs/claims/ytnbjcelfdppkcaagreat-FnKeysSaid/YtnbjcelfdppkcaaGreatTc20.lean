/- Texts of this claim, merged: PmE, PmF, CovD, CovE, TrA. Conditions: as stated. -/
import Derived.Test.YtnbjcelfdppkcaaGreatTc19
import Derived.Test.YtnbjcelfdppkcaaGreatTc11
namespace Go.Proofs.YtnbjcelfdppkcaaGreat

section
variable {c : Nat} {ll : List (List Int)} {m : Int} {L R : Nat} {M : Nat → Bool}
/-- The kept ones among the first n rows. -/
def subT (M : Nat → Bool) (ll : List (List Int)) : Nat → List (List Int)
  | 0 => []
  | n + 1 => if M n = true then subT M ll n ++ [ll.getD n []] else subT M ll n
theorem subT_succ (n : Nat) : subT M ll (n + 1) = if M n = true then subT M ll n ++ [ll.getD n []] else subT M ll n := rfl
theorem subT_len : ∀ n, (subT M ll n).length = ((List.range n).filter M).length
  | 0 => rfl
  | n + 1 => by
    rw [List.range_succ, List.filter_append, List.length_append, ← subT_len n, subT_succ]
    by_cases h : M n = true
    · rw [if_pos h]; simp [h]
    · rw [if_neg h]; simp [h]
theorem subT_grow (i : Nat) : ∀ n, i ≤ n → ∃ X, subT M ll n = subT M ll i ++ X
  | 0, h => by
    obtain rfl : i = 0 := by omega
    exact ⟨[], rfl⟩
  | n + 1, h => by
    by_cases e : i = n + 1
    · subst e; exact ⟨[], (List.append_nil _).symm⟩
    · obtain ⟨X, hX⟩ := subT_grow i n (by omega)
      rw [subT_succ]
      by_cases hM : M n = true
      · rw [if_pos hM, hX]; exact ⟨X ++ [ll.getD n []], List.append_assoc _ _ _⟩
      · rw [if_neg hM]; exact ⟨X, hX⟩
theorem subT_at (i n : Nat) (hi : i < n) (hM : M i = true) : (subT M ll i).length < (subT M ll n).length ∧ (subT M ll n).getD (subT M ll i).length [] = ll.getD i [] := by
  obtain ⟨X, hX⟩ := subT_grow (M := M) (ll := ll) (i + 1) n hi
  have hs : subT M ll (i + 1) = subT M ll i ++ [ll.getD i []] := by rw [subT_succ, if_pos hM]
  rw [hX, hs]
  refine ⟨by simp, ?_⟩
  rw [List.append_assoc, List.getD_eq_getElem?_getD, List.getElem?_append_right (Nat.le_refl _), Nat.sub_self]
  rfl
theorem subT_mem (n : Nat) : ∀ r ∈ subT M ll n, ∃ i, i < n ∧ M i = true ∧ r = ll.getD i [] := by
  induction n with
  | zero => intro r hr; simp [subT] at hr
  | succ n ih =>
    intro r hr
    rw [subT_succ] at hr
    by_cases hM : M n = true
    · rw [if_pos hM] at hr
      rcases List.mem_append.1 hr with h | h
      · obtain ⟨i, h1, h2, h3⟩ := ih r h
        exact ⟨i, by omega, h2, h3⟩
      · exact ⟨n, by omega, hM, List.mem_singleton.1 h⟩
    · rw [if_neg hM] at hr
      obtain ⟨i, h1, h2, h3⟩ := ih r hr
      exact ⟨i, by omega, h2, h3⟩
theorem sub_least (hc : c ≤ 5) (hL : L < 2 ^ c) (hR : R < c) (h : HoldsAll c (subT M ll ll.length) m L R) :
    remTo c ll m R (parL c ll m L) (parL c ll m L).length + ((subT M ll ll.length).length : Int) ≤ (ll.length : Int) := by
  have h1 := rem_least (c := c) (ll := ll) (m := m) hc hL hR M (fun i k hik hk hMi hMk ha => by
    obtain ⟨p1, p2⟩ := subT_at (M := M) (ll := ll) i ll.length (by omega) hMi
    obtain ⟨q1, q2⟩ := subT_at (M := M) (ll := ll) k ll.length hk hMk
    obtain ⟨s1, -⟩ := subT_at (M := M) (ll := ll) i k hik hMi
    have := h _ _ s1 q1
    unfold agB at this ha ⊢
    rw [p2, q2] at this
    exact this ha)
  have h2 := filter_split (List.range ll.length) M
  rw [List.length_range] at h2
  rw [subT_len]
  omega
end
end Go.Proofs.YtnbjcelfdppkcaaGreat
namespace Go.Proofs.YtnbjcelfdppkcaaGreat

section
variable {c : Int} {ll : List (List Int)} {m l r : Int} {M : Nat → Bool}
theorem okD_nat (h : okD c ll m l r = true) : ∃ C L R : Nat, c = (C : Int) ∧ l = (L : Int) ∧ r = (R : Int) ∧ C ≤ 5 ∧ L < 2 ^ C ∧ R < C := by
  unfold okD at h
  rw [Bool.and_eq_true, depB_iff] at h
  obtain ⟨-, ⟨h1, h2⟩, h3, h4, h5⟩ := h
  unfold isA at h3
  rw [decide_eq_true_iff] at h3
  obtain ⟨-, h6, h7⟩ := h3
  refine ⟨c.toNat, l.toNat, r.toNat, by omega, by omega, by omega, by omega, ?_, by omega⟩
  have h8 : ((2 ^ c.toNat : Nat) : Int) = 2 ^ c.toNat := by rw [Int.natCast_pow]; rfl
  omega
theorem rem_neg (h : remD c ll m l r < 0) : okD c ll m l r = false := by
  cases ho : okD c ll m l r with
  | false => rfl
  | true =>
    exfalso
    have := remTo_nat (c := c.toNat) (ll := ll) (m := m) (R := r.toNat) (clSt c.toNat ll m l ll.length).1
    unfold remD at h
    rw [if_pos ho] at h
    omega
theorem rem_ok (h : 0 ≤ remD c ll m l r) : okD c ll m l r = true := by
  cases ho : okD c ll m l r with
  | true => rfl
  | false =>
    exfalso
    unfold remD at h
    rw [if_neg (by rw [ho]; exact Bool.false_ne_true)] at h
    omega
theorem ok_holds (ho : okD c ll m l r = false) : holdsD c ll m l r = false ∧ witB c ll m l r = false := by
  unfold holdsD witB
  rw [ho]
  exact ⟨rfl, rfl⟩
theorem holds_wit (ho : okD c ll m l r = true) : holdsD c ll m l r = !witB c ll m l r := by
  unfold holdsD witB
  rw [ho, Bool.true_and, Bool.true_and, Bool.eq_iff_iff]
  simp
theorem holds_iff (ho : okD c ll m l r = true) {C L R : Nat} (h1 : c = (C : Int)) (h2 : l = (L : Int)) (h3 : r = (R : Int)) (hC : C ≤ 5) (hR : R < C) : holdsD c ll m l r = true ↔ HoldsAll C ll m L R := by
  subst h1 h2 h3
  unfold holdsD pairD
  rw [ho, Bool.true_and, decide_eq_true_iff]
  exact pairI_holds hC hR
theorem holds_all {C L R : Nat} (h1 : c = (C : Int)) (h2 : l = (L : Int)) (h3 : r = (R : Int)) (hC : C ≤ 5) (hR : R < C) (h : holdsD c ll m l r = true) : HoldsAll C ll m L R := by
  have ho : okD c ll m l r = true := by
    unfold holdsD at h
    rw [Bool.and_eq_true] at h
    exact h.1
  exact (holds_iff ho h1 h2 h3 hC hR).1 h
theorem remD_nat (ho : okD c ll m l r = true) {C L R : Nat} (h1 : c = (C : Int)) (h2 : l = (L : Int)) (h3 : r = (R : Int)) (hC : C ≤ 5) (hL : L < 2 ^ C) : remD c ll m l r = remTo C ll m R (parL C ll m L) (parL C ll m L).length := by
  subst h1 h2 h3
  unfold remD
  rw [if_pos ho]
  simp only [Int.toNat_natCast]
  rw [clSt_parL hC hL]
/-- It holds exactly if no rows have to be removed. -/
theorem holds_rem (ho : okD c ll m l r = true) : holdsD c ll m l r = decide (remD c ll m l r = 0) := by
  obtain ⟨C, L, R, h1, h2, h3, hC, hL, hR⟩ := okD_nat ho
  rw [Bool.eq_iff_iff, decide_eq_true_iff, holds_iff ho h1 h2 h3 hC hR, remD_nat ho h1 h2 h3 hC hL]
  exact (rem_zero hC hL hR).symm
/-- Fewer rows than there are have to be removed. -/
theorem rem_fewer (ho : okD c ll m l r = true) (h : 0 < remD c ll m l r) : remD c ll m l r < (ll.length : Int) := by
  obtain ⟨C, L, R, h1, h2, h3, hC, hL, hR⟩ := okD_nat ho
  rw [remD_nat ho h1 h2 h3 hC hL] at h ⊢
  exact rem_lt hC hL h
/-- If it holds in a table of kept rows, then at least as many rows are missing. -/
theorem rem_sub (ho : okD c ll m l r = true) (h : holdsD c (subT M ll ll.length) m l r = true) : remD c ll m l r + ((subT M ll ll.length).length : Int) ≤ (ll.length : Int) := by
  obtain ⟨C, L, R, h1, h2, h3, hC, hL, hR⟩ := okD_nat ho
  rw [remD_nat ho h1 h2 h3 hC hL]
  exact sub_least hC hL hR (holds_all h1 h2 h3 hC hR h)
end
end Go.Proofs.YtnbjcelfdppkcaaGreat
namespace Go.Proofs.YtnbjcelfdppkcaaGreat
open Go.RowKit

theorem isA_fit {C S : Nat} (hC : C ≤ 5) (hS : S < 2 ^ C) : isA (C : Int) (S : Int) = true := by
  unfold isA
  rw [decide_eq_true_iff]
  have : ((2 ^ C : Nat) : Int) = (2 : Int) ^ C := by rw [Int.natCast_pow]; rfl
  rw [show ((C : Int)).toNat = C from rfl]
  omega
/-- In a valid table every set and column of it is a dependency. -/
theorem okD_all {C : Nat} {ll : List (List Int)} {m : Int} {S R : Nat} (hf : fineT (C : Int) ll m = true) (h1 : 1 ≤ C) (hC : C ≤ 5) (hS : S < 2 ^ C) (hR : R < C) : okD (C : Int) ll m (S : Int) (R : Int) = true := by
  unfold okD
  rw [hf, Bool.true_and, depB_iff]
  exact ⟨by omega, isA_fit hC hS, by omega⟩
noncomputable def appB (c : Int) (ll : List (List Int)) (m rows : Int) (r : Nat) (S : Int) : Bool := !bitB S.toNat r && decide (remD c ll m S (r : Int) ≤ rows)
noncomputable def lowL (C : Nat) (ll : List (List Int)) (m rows : Int) (r : Nat) : List Int := minS (fltTo (appB (C : Int) ll m rows r) (parts (C : Int)) (parts (C : Int)).length)
noncomputable def appD (C : Nat) (ll : List (List Int)) (m rows : Int) : List (Int × Int) := mdOut (fun S r => decide (S ∈ lowL C ll m rows r)) (parts (C : Int)) C
noncomputable def minD (C : Nat) (ll : List (List Int)) (m : Int) : List (Int × Int) := mdOut (fun S r => minN C ll m S.toNat r) (parts (C : Int)) C
theorem app_zero {C : Nat} {ll : List (List Int)} {m : Int} (hf : fineT (C : Int) ll m = true) (h1 : 1 ≤ C) (hC : C ≤ 5) : appD C ll m 0 = minD C ll m := by
  unfold appD minD
  refine mdOut_same _ fun S hS r hr => ?_
  obtain ⟨x, hx, rfl⟩ := (parts_mem hC S).1 hS
  rw [Bool.eq_iff_iff, decide_eq_true_iff]
  show _ ↔ minN C ll m x r = true
  refine low_min hC hr (fun z hz => ?_) hx
  unfold appB
  rw [Bool.and_eq_true, Bool.not_eq_true', decide_eq_true_iff]
  have ho := okD_all (S := z) (R := r) hf h1 hC hz hr
  have h2 := holds_rem ho
  have h3 := holds_iff ho rfl rfl rfl hC hr
  have h4 : 0 ≤ remD (C : Int) ll m (z : Int) (r : Int) := by
    refine Int.not_lt.1 fun h => ?_
    have := rem_neg h
    rw [ho] at this
    cases this
  rw [← h3, h2, decide_eq_true_iff]
  constructor
  · rintro ⟨a, b⟩; exact ⟨a, by omega⟩
  · rintro ⟨a, b⟩; exact ⟨a, by omega⟩
theorem flt_small {C : Nat} (hC : C ≤ 5) (g : Int → Bool) : setsOk (fltTo g (parts (C : Int)) (parts (C : Int)).length) = true ∧ ∀ y ∈ fltTo g (parts (C : Int)) (parts (C : Int)).length, ∃ x : Nat, x < 32 ∧ y = (x : Int) := by
  have h32 := two5 hC
  have hb : ∀ y ∈ fltTo g (parts (C : Int)) (parts (C : Int)).length, ∃ x : Nat, x < 32 ∧ y = (x : Int) := by
    intro y hy
    obtain ⟨t, t1, -, t3⟩ := (fltTo_mem _ _ _ _).1 hy
    obtain ⟨z, z1, z2⟩ := (parts_mem hC _).1 (mem_getD.2 ⟨t, t1, t3⟩)
    exact ⟨z, by omega, z2⟩
  refine ⟨?_, hb⟩
  unfold setsOk
  rw [Bool.and_eq_true, decide_eq_true_iff, List.all_eq_true]
  refine ⟨fun y hy => ?_, ?_⟩
  · obtain ⟨z, z1, rfl⟩ := hb y hy
    have h : ∀ x : Fin 32, valB ((x.val : Nat) : Int) = true := by decide +kernel
    exact h ⟨z, z1⟩
  · have h1 := fltTo_len g (parts (C : Int)) (parts (C : Int)).length
    have h2 : ∀ C : Fin 6, (parts ((C.val : Nat) : Int)).length ≤ 32 := by decide +kernel
    have h3 := h2 ⟨C, by omega⟩
    simp only at h3
    omega
/-- What an approximate dependency removes. -/
theorem app_rows {C : Nat} {ll : List (List Int)} {m rows : Int} (hC : C ≤ 5) {d : Int × Int} (hd : d ∈ appD C ll m rows) : remD (C : Int) ll m d.1 d.2 ≤ rows := by
  obtain ⟨r, r1, S, r2, r3, rfl⟩ := (mdOut_mem _ _ _ _).1 hd
  obtain ⟨x, hx, rfl⟩ := (parts_mem hC S).1 r2
  have hm := of_decide_eq_true r3
  obtain ⟨k1, k2⟩ := flt_small hC (appB (C : Int) ll m rows r)
  have h := ((minS_mem k1 k2 x).1 hm).1
  obtain ⟨t, t1, t2, t3⟩ := (fltTo_mem _ _ _ _).1 h
  rw [← t3] at t2
  unfold appB at t2
  rw [Bool.and_eq_true, decide_eq_true_iff] at t2
  exact t2.2
theorem minD_len {C : Nat} {ll : List (List Int)} {m : Int} (hC : C ≤ 5) : (minD C ll m).length ≤ 160 := by
  have h1 := mdOut_len (fun S r => minN C ll m S.toNat r) (parts (C : Int)) C
  have h2 : ∀ C : Fin 6, C.val * (parts ((C.val : Nat) : Int)).length ≤ 160 := by decide +kernel
  have h3 := h2 ⟨C, by omega⟩
  exact Nat.le_trans h1 h3
theorem appD_len {C : Nat} {ll : List (List Int)} {m rows : Int} (hC : C ≤ 5) : (appD C ll m rows).length ≤ 160 := by
  have h1 := mdOut_len (fun S r => decide (S ∈ lowL C ll m rows r)) (parts (C : Int)) C
  have h2 : ∀ C : Fin 6, C.val * (parts ((C.val : Nat) : Int)).length ≤ 160 := by decide +kernel
  have h3 := h2 ⟨C, by omega⟩
  exact Nat.le_trans h1 h3
/-- Whether one of the first k is so. -/
def anyTo (p : Nat → Bool) : Nat → Bool
  | 0 => false
  | k + 1 => anyTo p k || p k
theorem anyTo_iff (p : Nat → Bool) : ∀ n, (anyTo p n = true ↔ ∃ t, t < n ∧ p t = true)
  | 0 => by simp [anyTo]
  | n + 1 => by
    have ih := anyTo_iff p n
    unfold anyTo
    rw [Bool.or_eq_true, ih]
    constructor
    · rintro (⟨t, t1, t2⟩ | h)
      · exact ⟨t, by omega, t2⟩
      · exact ⟨n, by omega, h⟩
    · rintro ⟨t, t1, t2⟩
      by_cases e : t = n
      · subst e; exact .inr t2
      · exact .inl ⟨t, by omega, t2⟩
/-- The border's list. -/
noncomputable def brdL (C : Nat) (ll : List (List Int)) (m : Int) (R : Nat) : List Int := maxS (brdTo (fun x => !bitB x R && !h7 C ll m x R) (2 ^ C))
/-- For a set without column R: it is in none of the border, its dependency holds, and a minimal left side is part of it, all or none. -/
theorem border_holds {C : Nat} {ll : List (List Int)} {m : Int} {R x : Nat} (hC : C ≤ 5) (hR : R < C) (hx : x < 2 ^ C) (hr : bitB x R = false) :
    (anyTo (fun i => bits .and .i64 ((brdL C ll m R).getD i 0) (x : Int) == (x : Int)) (brdL C ll m R).length = true ↔ ¬ HoldsAll C ll m x R) ∧
    (anyTo (fun i => ((minD C ll m).getD i (0, 0)).2 == (R : Int) && (bits .and .i64 ((minD C ll m).getD i (0, 0)).1 (x : Int) == ((minD C ll m).getD i (0, 0)).1)) (minD C ll m).length = true ↔ HoldsAll C ll m x R) := by
  have h32 := two5 hC
  constructor
  · rw [anyTo_iff, ← border_iff (f := fun S => HoldsAll C ll m S R) hC hR (holds_up hC) (g := fun x => !bitB x R && !h7 C ll m x R) (fun z hz => by
      rw [Bool.and_eq_true, Bool.not_eq_true', Bool.not_eq_true', ← h7_iff hC hR, Bool.not_eq_true]
      exact And.comm) hx hr]
    constructor
    · rintro ⟨t, t1, t2⟩
      have hm : (brdL C ll m R).getD t 0 ∈ brdL C ll m R := mem_getD.2 ⟨t, t1, rfl⟩
      obtain ⟨y, y1, -, y3, -⟩ := (maxS_brd _ h32 _).1 hm
      rw [y3] at hm t2
      rw [and_sub' x y (by omega) (by omega)] at t2
      exact ⟨y, y1, hm, t2⟩
    · rintro ⟨y, y1, y2, y3⟩
      obtain ⟨t, t1, t2⟩ := mem_getD.1 y2
      exact ⟨t, t1, by
        have e : (brdL C ll m R).getD t 0 = (y : Int) := t2.symm
        rw [e, and_sub' x y (by omega) (by omega)]; exact y3⟩
  · rw [anyTo_iff, ← cover_iff hC hR hx hr]
    constructor
    · rintro ⟨t, t1, t2⟩
      have hm : (minD C ll m).getD t (0, 0) ∈ minD C ll m := by
        rw [List.getD_eq_getElem?_getD, List.getElem?_eq_getElem t1]
        exact List.getElem_mem t1
      obtain ⟨r, r1, S, r2, r3, r4⟩ := (mdOut_mem _ _ _ _).1 hm
      obtain ⟨y, y1, rfl⟩ := (parts_mem hC S).1 r2
      rw [Bool.and_eq_true, r4] at t2
      obtain ⟨e1, e2⟩ := t2
      have e3 : r = R := by have := beq_iff_eq.1 e1; simp only at this; omega
      subst e3
      rw [r4] at hm
      exact ⟨y, y1, hm, by rw [← and_sub y x (by omega) (by omega)]; exact e2⟩
    · rintro ⟨y, y1, y2, y3⟩
      obtain ⟨t, t1, t2⟩ := List.mem_iff_getElem.1 y2
      refine ⟨t, t1, ?_⟩
      have e : (minD C ll m).getD t (0, 0) = ((y : Int), (R : Int)) := by
        unfold minD
        rw [List.getD_eq_getElem?_getD, List.getElem?_eq_getElem t1]
        exact t2
      rw [e, Bool.and_eq_true]
      exact ⟨by simp, by rw [and_sub y x (by omega) (by omega)]; exact y3⟩
end Go.Proofs.YtnbjcelfdppkcaaGreat
namespace Go.Proofs.YtnbjcelfdppkcaaGreat
open Go.RowKit

theorem filter_next {α : Type} (p : α → Bool) (l : List α) (d : α) (k : Nat) (h : k < l.length) : (l.take (k + 1)).filter p = if p (l.getD k d) = true then (l.take k).filter p ++ [l.getD k d] else (l.take k).filter p := by
  rw [take_succ_getD l d k h, List.filter_append]
  by_cases hp : p (l.getD k d) = true
  · rw [if_pos hp, List.filter_cons_of_pos hp]; rfl
  · rw [if_neg hp, List.filter_cons_of_neg hp]
    simp
theorem mdIn_filter (f : Int → Nat → Bool) (ps : List Int) (r : Nat) (l0 : List (Int × Int)) : ∀ n, n ≤ ps.length → mdIn f ps r l0 n = l0 ++ ((ps.take n).filter (fun S => f S r)).map (fun S => (S, (r : Int)))
  | 0, _ => by simp [mdIn]
  | n + 1, h => by
    have ih := mdIn_filter f ps r l0 n (by omega)
    have e := filter_next (fun S => f S r) ps 0 n h
    unfold mdIn
    by_cases hf : f (ps.getD n 0) r = true
    · rw [if_pos hf] at e
      rw [if_pos hf, e, ih, List.map_append, ← List.append_assoc]; rfl
    · rw [if_neg hf] at e
      rw [if_neg hf, e, ih]
theorem mdOut_succ (f : Int → Nat → Bool) (ps : List Int) (r : Nat) : mdOut f ps (r + 1) = mdOut f ps r ++ (ps.filter (fun S => f S r)).map (fun S => (S, (r : Int))) := by
  have h := mdIn_filter f ps r (mdOut f ps r) ps.length (Nat.le_refl _)
  rw [List.take_length] at h
  exact h
theorem mdOut_filter (f : Int → Nat → Bool) (q : Int × Int → Bool) (ps : List Int) : ∀ C, (mdOut f ps C).filter q = mdOut (fun S r => f S r && q (S, (r : Int))) ps C
  | 0 => rfl
  | C + 1 => by
    rw [mdOut_succ, mdOut_succ, List.filter_append, mdOut_filter f q ps C, List.filter_map, List.filter_filter]
    congr 2
    exact List.filter_congr fun S _ => Bool.and_comm _ _
/-- e says no more than d. -/
def covB (e d : Int × Int) : Bool := decide (e.2 = d.2) && partZ e.1 d.1
/-- Whether a different one of the list covers d. -/
def unB (l : List (Int × Int)) (d : Int × Int) : Bool := l.any fun e => !decide (e = d) && covB e d
def uncL (l : List (Int × Int)) : List (Int × Int) := l.filter fun d => !unB l d
def candL (C : Nat) : List (Int × Int) := mdOut (fun S r => !bitB S.toNat r) (parts (C : Int)) C
theorem part_sub (a b : Nat) (ha : a < 32) (hb : b < 32) : partZ (a : Int) (b : Int) = subN a b := by
  have h : ∀ a b : Fin 32, partZ ((a.val : Nat) : Int) ((b.val : Nat) : Int) = subN a.val b.val := by decide +kernel
  exact h ⟨a, ha⟩ ⟨b, hb⟩
/-- The dependencies of a filtered list of candidates that no other one covers. -/
theorem unc_low {C : Nat} (hC : C ≤ 5) (g : Int × Int → Bool) :
    uncL ((candL C).filter g) = mdOut (fun S r => decide (S ∈ minS (fltTo (fun S => !bitB S.toNat r && g (S, (r : Int))) (parts (C : Int)) (parts (C : Int)).length))) (parts (C : Int)) C := by
  have h32 := two5 hC
  have hl : (candL C).filter g = mdOut (fun S r => !bitB S.toNat r && g (S, (r : Int))) (parts (C : Int)) C := mdOut_filter _ _ _ _
  have key : ∀ l, l = mdOut (fun S r => !bitB S.toNat r && g (S, (r : Int))) (parts (C : Int)) C →
      (mdOut (fun S r => !bitB S.toNat r && g (S, (r : Int))) (parts (C : Int)) C).filter (fun d => !unB l d) =
      mdOut (fun S r => decide (S ∈ minS (fltTo (fun S => !bitB S.toNat r && g (S, (r : Int))) (parts (C : Int)) (parts (C : Int)).length))) (parts (C : Int)) C := by
    intro l hll
    rw [mdOut_filter]
    refine mdOut_same _ fun S hS r hr => ?_
    obtain ⟨x, hx, rfl⟩ := (parts_mem hC S).1 hS
    obtain ⟨k1, k2⟩ := flt_small hC (fun S => !bitB S.toNat r && g (S, (r : Int)))
    have hmem : ∀ z : Nat, ((z : Int) ∈ fltTo (fun S => !bitB S.toNat r && g (S, (r : Int))) (parts (C : Int)) (parts (C : Int)).length ↔ z < 2 ^ C ∧ (!bitB z r && g ((z : Int), (r : Int))) = true) := by
      intro z
      rw [fltTo_mem]
      constructor
      · rintro ⟨t, t1, t2, t3⟩
        obtain ⟨z', z1, z2⟩ := (parts_mem hC _).1 (mem_getD.2 ⟨t, t1, t3⟩)
        obtain rfl : z = z' := by omega
        rw [← t3] at t2
        exact ⟨z1, t2⟩
      · rintro ⟨z1, z2⟩
        obtain ⟨t, t1, t2⟩ := mem_getD.1 ((parts_mem hC (z : Int)).2 ⟨z, z1, rfl⟩)
        exact ⟨t, t1, by rw [← t2]; exact z2, t2⟩
    have hml : ∀ z : Nat, z < 2 ^ C → (((z : Int), (r : Int)) ∈ l ↔ (!bitB z r && g ((z : Int), (r : Int))) = true) := by
      intro z hz
      rw [hll, mdOut_mem]
      constructor
      · rintro ⟨r', r1, S, r2, r3, r4⟩
        obtain ⟨e1, e2⟩ := Prod.mk.inj r4
        obtain rfl : r = r' := by omega
        subst e1
        exact r3
      · intro h
        exact ⟨r, hr, (z : Int), (parts_mem hC _).2 ⟨z, hz, rfl⟩, h, rfl⟩
    rw [Bool.eq_iff_iff, decide_eq_true_iff, minS_mem k1 k2 x, hmem x, Bool.and_eq_true, Bool.not_eq_true']
    show (_ ∧ _) ↔ _
    constructor
    · rintro ⟨h1, h2⟩
      refine ⟨⟨hx, h1⟩, fun z hz hs => Classical.byContradiction fun hne => ?_⟩
      obtain ⟨z1, z2⟩ := (hmem z).1 hz
      have : unB l ((x : Int), (r : Int)) = true := by
        unfold unB
        rw [List.any_eq_true]
        refine ⟨((z : Int), (r : Int)), (hml z z1).2 z2, ?_⟩
        rw [Bool.and_eq_true, Bool.not_eq_true']
        refine ⟨decide_eq_false fun e => hne (by have := (Prod.mk.inj e).1; omega), ?_⟩
        unfold covB
        simp only [decide_true, Bool.true_and]
        rw [part_sub z x (by omega) (by omega)]; exact hs
      rw [h2] at this
      cases this
    · rintro ⟨⟨-, h1⟩, h2⟩
      refine ⟨h1, Bool.eq_false_iff.2 fun h => ?_⟩
      unfold unB at h
      rw [List.any_eq_true] at h
      obtain ⟨e, he, h⟩ := h
      rw [Bool.and_eq_true, Bool.not_eq_true', decide_eq_false_iff_not] at h
      obtain ⟨hne, hc⟩ := h
      have he' := he
      rw [hll, mdOut_mem] at he'
      obtain ⟨r', r1, S, r2, r3, rfl⟩ := he'
      obtain ⟨z, hz, rfl⟩ := (parts_mem hC S).1 r2
      unfold covB at hc
      rw [Bool.and_eq_true, decide_eq_true_iff] at hc
      obtain ⟨e2, hp⟩ := hc
      simp only at e2 hp
      obtain rfl : r = r' := by omega
      rw [part_sub z x (by omega) (by omega)] at hp
      obtain rfl := h2 z ((hmem z).2 ⟨hz, (hml z hz).1 he⟩) hp
      exact hne rfl
  unfold uncL
  rw [hl]
  exact key _ rfl
theorem unc_min {C : Nat} {ll : List (List Int)} {m : Int} (hf : fineT (C : Int) ll m = true) (h1 : 1 ≤ C) (hC : C ≤ 5) :
    uncL ((candL C).filter (fun d => holdsD (C : Int) ll m d.1 d.2)) = minD C ll m := by
  rw [unc_low hC]
  unfold minD
  refine mdOut_same _ fun S hS r hr => ?_
  obtain ⟨x, hx, rfl⟩ := (parts_mem hC S).1 hS
  rw [Bool.eq_iff_iff, decide_eq_true_iff]
  show _ ↔ minN C ll m x r = true
  refine low_min hC hr (fun z hz => ?_) hx
  rw [Bool.and_eq_true, Bool.not_eq_true']
  have ho := okD_all (S := z) (R := r) hf h1 hC hz hr
  have h3 := holds_iff ho rfl rfl rfl hC hr
  rw [← h3]
  exact Iff.rfl
theorem unc_app {C : Nat} {ll : List (List Int)} {m rows : Int} (hC : C ≤ 5) :
    uncL ((candL C).filter (fun d => decide (remD (C : Int) ll m d.1 d.2 ≤ rows))) = appD C ll m rows := by
  rw [unc_low hC]
  rfl
/-- The greatest and the smallest sets hang on the members alone. -/
theorem maxS_ext {l l' : List Int} (h : setsOk l = true) (h' : setsOk l' = true) (he : ∀ y, y ∈ l ↔ y ∈ l') : maxS l = maxS l' := by
  unfold maxS
  rw [if_pos h, if_pos h']
  refine ascI_unique _ _ (mxTo_asc _ _) (mxTo_asc _ _) fun y => ?_
  have step : ∀ (a b : List Int), (∀ y, y ∈ a ↔ y ∈ b) → y ∈ mxTo a a.length → y ∈ mxTo b b.length := by
    intro a b hab hy
    rw [mxTo_mem] at hy ⊢
    obtain ⟨t, t1, t2, t3⟩ := hy
    obtain ⟨s, s1, s2⟩ := mem_getD.1 ((hab y).1 (mem_getD.2 ⟨t, t1, t2⟩))
    refine ⟨s, s1, s2, (topK_iff _ _ _).2 fun u hu => ?_⟩
    obtain ⟨v, v1, v2⟩ := mem_getD.1 ((hab _).2 (mem_getD.2 ⟨u, hu, rfl⟩))
    have := (topK_iff _ _ _).1 t3 v v1
    rw [← v2] at this
    exact this
  exact ⟨step _ _ he, step _ _ fun z => (he z).symm⟩
theorem minS_ext {l l' : List Int} (h : setsOk l = true) (h' : setsOk l' = true) (he : ∀ y, y ∈ l ↔ y ∈ l') : minS l = minS l' := by
  unfold minS
  rw [if_pos h, if_pos h']
  refine ascI_unique _ _ (mnTo_asc _ _) (mnTo_asc _ _) fun y => ?_
  have step : ∀ (a b : List Int), (∀ y, y ∈ a ↔ y ∈ b) → y ∈ mnTo a a.length → y ∈ mnTo b b.length := by
    intro a b hab hy
    rw [mnTo_mem] at hy ⊢
    obtain ⟨t, t1, t2, t3⟩ := hy
    obtain ⟨s, s1, s2⟩ := mem_getD.1 ((hab y).1 (mem_getD.2 ⟨t, t1, t2⟩))
    refine ⟨s, s1, s2, (lowK_iff _ _ _).2 fun u hu => ?_⟩
    obtain ⟨v, v1, v2⟩ := mem_getD.1 ((hab _).2 (mem_getD.2 ⟨u, hu, rfl⟩))
    have := (lowK_iff _ _ _).1 t3 v v1
    rw [← v2] at this
    exact this
  exact ⟨step _ _ he, step _ _ fun z => (he z).symm⟩
theorem parts_len32 {C : Nat} (hC : C ≤ 5) : (parts (C : Int)).length ≤ 32 := by
  have h2 : ∀ C : Fin 6, (parts ((C.val : Nat) : Int)).length ≤ 32 := by decide +kernel
  exact h2 ⟨C, by omega⟩
theorem filt_ok {C : Nat} (hC : C ≤ 5) (g : Int → Bool) : setsOk ((parts (C : Int)).filter g) = true := by
  have h32 := two5 hC
  unfold setsOk
  rw [Bool.and_eq_true, decide_eq_true_iff, List.all_eq_true]
  refine ⟨fun y hy => ?_, ?_⟩
  · obtain ⟨x, hx, rfl⟩ := (parts_mem hC y).1 (List.mem_filter.1 hy).1
    have h : ∀ x : Fin 32, valB ((x.val : Nat) : Int) = true := by decide +kernel
    exact h ⟨x, by omega⟩
  · have h1 := List.length_filter_le g (parts (C : Int))
    have := parts_len32 hC
    omega
theorem filt_brd {C : Nat} (hC : C ≤ 5) {g : Int → Bool} {f : Nat → Bool} (h : ∀ x : Nat, x < 2 ^ C → g (x : Int) = f x) (y : Int) : y ∈ (parts (C : Int)).filter g ↔ y ∈ brdTo f (2 ^ C) := by
  rw [List.mem_filter, brdTo_mem]
  constructor
  · rintro ⟨h1, h2⟩
    obtain ⟨x, hx, rfl⟩ := (parts_mem hC y).1 h1
    exact ⟨x, hx, by rw [← h x hx]; exact h2, rfl⟩
  · rintro ⟨x, hx, h2, rfl⟩
    exact ⟨(parts_mem hC _).2 ⟨x, hx, rfl⟩, by rw [h x hx]; exact h2⟩
theorem max_filt {C : Nat} (hC : C ≤ 5) {g : Int → Bool} {f : Nat → Bool} (h : ∀ x : Nat, x < 2 ^ C → g (x : Int) = f x) : maxS ((parts (C : Int)).filter g) = maxS (brdTo f (2 ^ C)) :=
  maxS_ext (filt_ok hC g) (brdTo_ok f (two5 hC)) (filt_brd hC h)
theorem min_filt {C : Nat} (hC : C ≤ 5) {g : Int → Bool} {f : Nat → Bool} (h : ∀ x : Nat, x < 2 ^ C → g (x : Int) = f x) : minS ((parts (C : Int)).filter g) = minS (brdTo f (2 ^ C)) :=
  minS_ext (filt_ok hC g) (brdTo_ok f (two5 hC)) (filt_brd hC h)
theorem holds_h7 {C : Nat} {ll : List (List Int)} {m : Int} (hf : fineT (C : Int) ll m = true) (h1 : 1 ≤ C) (hC : C ≤ 5) {x R : Nat} (hx : x < 2 ^ C) (hR : R < C) : holdsD (C : Int) ll m (x : Int) (R : Int) = h7 C ll m x R := by
  have ho := okD_all (S := x) (R := R) hf h1 hC hx hR
  have h3 := holds_iff ho rfl rfl rfl hC hR
  rw [Bool.eq_iff_iff, h3, h7_iff hC hR]
/-- The border, from the list of sets by size. -/
theorem brd_filt {C : Nat} {ll : List (List Int)} {m : Int} {R : Nat} (hf : fineT (C : Int) ll m = true) (h1 : 1 ≤ C) (hC : C ≤ 5) (hR : R < C) :
    maxS (((parts (C : Int)).filter (fun S => !bitB S.toNat R)).filter (fun S => !holdsD (C : Int) ll m S (R : Int))) = brdL C ll m R := by
  rw [List.filter_filter]
  unfold brdL
  refine max_filt hC fun x hx => ?_
  rw [holds_h7 hf h1 hC hx hR]
  show (_ && !bitB x R) = _
  rw [Bool.and_comm]
theorem parts_small (n S : Int) (h : S ∈ parts n) : ∃ X : Nat, S = (X : Int) ∧ X < 32 := by
  by_cases hn : 0 ≤ n ∧ n ≤ 5
  · obtain ⟨C, rfl⟩ : ∃ C : Nat, n = (C : Int) := ⟨n.toNat, by omega⟩
    obtain ⟨h0, h1⟩ := parts_nat ⟨C, by omega⟩ S h
    exact ⟨S.toNat, by omega, by omega⟩
  · unfold parts at h
    rw [if_neg hn] at h
    cases h
theorem all_hit {p : Int → Bool} (l : List Int) (d : Int) (k : Nat) (h : k < l.length) (hp : p (l.getD k d) = false) : l.all p = false := by
  cases h' : l.all p with
  | false => rfl
  | true =>
    have := List.all_eq_true.1 h' (l.getD k d) (by rw [List.getD_eq_getElem?_getD, List.getElem?_eq_getElem h]; exact List.getElem_mem h)
    rw [hp] at this; cases this
end Go.Proofs.YtnbjcelfdppkcaaGreat
namespace Go.Proofs.YtnbjcelfdppkcaaGreat
open Go.RowKit

/-- x has a column in common with e. -/
def hitI (e x : Int) : Bool := !(bits .and .i64 e x == 0)
theorem hit_fin : ∀ a b : Fin 32, hitI ((a.val : Nat) : Int) ((b.val : Nat) : Int) = true ↔ ∃ j : Fin 5, bitB a.val j.val = true ∧ bitB b.val j.val = true := by decide +kernel
theorem hit_comm_fin : ∀ a b : Fin 32, (bits .and .i64 ((a.val : Nat) : Int) ((b.val : Nat) : Int) != 0) = hitI ((b.val : Nat) : Int) ((a.val : Nat) : Int) := by decide +kernel
theorem or_fin9 : ∀ (a : Fin 32) (j : Fin 5), bitB a.val j.val = false → bits .or .i64 ((a.val : Nat) : Int) (2 ^ j.val) = ((a.val + 2 ^ j.val : Nat) : Int) := by decide +kernel
theorem hit_iff {a b : Nat} (ha : a < 32) (hb : b < 32) : hitI (a : Int) (b : Int) = true ↔ ∃ j, j < 5 ∧ bitB a j = true ∧ bitB b j = true := by
  refine (hit_fin ⟨a, ha⟩ ⟨b, hb⟩).trans ⟨fun ⟨j, h⟩ => ⟨j.val, j.isLt, h⟩, fun ⟨j, hj, h⟩ => ⟨⟨j, hj⟩, h⟩⟩
theorem hit_up {e a b : Nat} (he : e < 32) (ha : a < 32) (hb : b < 32) (hs : subN a b = true) (h : hitI (e : Int) (a : Int) = true) : hitI (e : Int) (b : Int) = true := by
  obtain ⟨j, hj, h1, h2⟩ := (hit_iff he ha).1 h
  exact (hit_iff he hb).2 ⟨j, hj, h1, (subN_bit ⟨a, ha⟩ ⟨b, hb⟩).1 hs ⟨j, hj⟩ h2⟩
/-- One set with each of the first k columns of an edge. -/
def grwOne (e y : Int) : Nat → List Int
  | 0 => []
  | k + 1 => if bitB e.toNat k = true then grwOne e y k ++ [bits .or .i64 y (2 ^ k)] else grwOne e y k
/-- The first i sets with an edge taken into account. -/
def grwTo (l : List Int) (e : Int) : Nat → List Int
  | 0 => []
  | i + 1 => if (bits .and .i64 (l.getD i 0) e != 0) = true then grwTo l e i ++ [l.getD i 0] else grwTo l e i ++ grwOne e (l.getD i 0) 5
/-- The different ones of the first i, in ascending order. -/
def ddTo (l : List Int) : Nat → List Int
  | 0 => []
  | i + 1 => put4 (ddTo l i) (l.getD i 0)
def grwL (l : List Int) (e : Int) : List Int := if (setsOk l && valB e) = true then minS (ddTo (grwTo l e l.length) (grwTo l e l.length).length) else []
/-- The first i edges taken into account. -/
def trTo (E : List Int) : Nat → List Int
  | 0 => [0]
  | i + 1 => grwL (trTo E i) (E.getD i 0)
def trL (E : List Int) (n : Int) : List Int := if (decide ((0 ≤ n ∧ n ≤ 5) ∧ E.length ≤ 100) && E.all (isA n)) = true then trTo E E.length else []
/-- x hits the first i edges. -/
def hitTo (E : List Int) (x : Nat) : Nat → Bool
  | 0 => true
  | i + 1 => hitTo E x i && hitI (E.getD i 0) (x : Int)
def hitsA (E : List Int) (x : Int) : Bool := E.all (fun e => valB e && hitI e x) && valB x
theorem grwOne_mem (e y z : Int) : ∀ k, z ∈ grwOne e y k ↔ ∃ j, j < k ∧ bitB e.toNat j = true ∧ z = bits .or .i64 y (2 ^ j)
  | 0 => by simp [grwOne]
  | k + 1 => by
    have ih := grwOne_mem e y z k
    unfold grwOne
    constructor
    · intro h
      split at h
      · rename_i hb
        rcases List.mem_append.1 h with h | h
        · obtain ⟨j, h1, h2⟩ := ih.1 h
          exact ⟨j, by omega, h2⟩
        · exact ⟨k, by omega, hb, List.mem_singleton.1 h⟩
      · obtain ⟨j, h1, h2⟩ := ih.1 h
        exact ⟨j, by omega, h2⟩
    · rintro ⟨j, h1, h2, h3⟩
      by_cases e' : j = k
      · subst e'
        rw [if_pos h2]
        exact List.mem_append.2 (.inr (List.mem_singleton.2 h3))
      · have := ih.2 ⟨j, by omega, h2, h3⟩
        split
        · exact List.mem_append.2 (.inl this)
        · exact this
theorem grwTo_mem (l : List Int) (e z : Int) : ∀ i, z ∈ grwTo l e i ↔ ∃ t, t < i ∧ ((bits .and .i64 (l.getD t 0) e != 0) = true ∧ z = l.getD t 0 ∨ (bits .and .i64 (l.getD t 0) e != 0) = false ∧ ∃ j, j < 5 ∧ bitB e.toNat j = true ∧ z = bits .or .i64 (l.getD t 0) (2 ^ j))
  | 0 => by simp [grwTo]
  | i + 1 => by
    have ih := grwTo_mem l e z i
    unfold grwTo
    constructor
    · intro h
      split at h
      · rename_i hb
        rcases List.mem_append.1 h with h | h
        · obtain ⟨t, h1, h2⟩ := ih.1 h
          exact ⟨t, by omega, h2⟩
        · exact ⟨i, by omega, .inl ⟨hb, List.mem_singleton.1 h⟩⟩
      · rename_i hb
        rcases List.mem_append.1 h with h | h
        · obtain ⟨t, h1, h2⟩ := ih.1 h
          exact ⟨t, by omega, h2⟩
        · exact ⟨i, by omega, .inr ⟨by simpa using hb, (grwOne_mem _ _ _ 5).1 h⟩⟩
    · rintro ⟨t, h1, h2⟩
      by_cases e' : t = i
      · subst e'
        rcases h2 with ⟨hb, rfl⟩ | ⟨hb, h2⟩
        · rw [if_pos hb]
          exact List.mem_append.2 (.inr (List.mem_singleton.2 rfl))
        · rw [if_neg (by rw [hb]; exact Bool.false_ne_true)]
          exact List.mem_append.2 (.inr ((grwOne_mem _ _ _ 5).2 h2))
      · have := ih.2 ⟨t, by omega, h2⟩
        split
        · exact List.mem_append.2 (.inl this)
        · exact List.mem_append.2 (.inl this)
theorem ddTo_mem (l : List Int) (z : Int) : ∀ i, z ∈ ddTo l i ↔ ∃ t, t < i ∧ z = l.getD t 0
  | 0 => by simp [ddTo]
  | i + 1 => by
    have ih := ddTo_mem l z i
    unfold ddTo
    rw [put4_mem, ih]
    constructor
    · rintro (rfl | ⟨t, h1, h2⟩)
      · exact ⟨i, by omega, rfl⟩
      · exact ⟨t, by omega, h2⟩
    · rintro ⟨t, h1, h2⟩
      by_cases e : t = i
      · subst e; exact .inl h2
      · exact .inr ⟨t, by omega, h2⟩
theorem ddTo_asc (l : List Int) : ∀ i, AscI (ddTo l i)
  | 0 => mnTo_asc [] 0
  | i + 1 => put4_asc (ddTo_asc l i) _
theorem dd_mem (l : List Int) (z : Int) : z ∈ ddTo l l.length ↔ z ∈ l := by
  rw [ddTo_mem, mem_getD]
theorem hitTo_iff (E : List Int) (x : Nat) : ∀ i, hitTo E x i = true ↔ ∀ t, t < i → hitI (E.getD t 0) (x : Int) = true
  | 0 => by simp [hitTo]
  | i + 1 => by
    have ih := hitTo_iff E x i
    unfold hitTo
    rw [Bool.and_eq_true, ih]
    constructor
    · rintro ⟨h1, h2⟩ t ht
      by_cases e : t = i
      · subst e; exact h2
      · exact h1 t (by omega)
    · exact fun h => ⟨fun t ht => h t (by omega), h i (by omega)⟩
theorem valN {x : Int} (h : valB x = true) : ∃ X : Nat, x = (X : Int) ∧ X < 32 := by
  unfold valB at h
  rw [decide_eq_true_iff] at h
  exact ⟨x.toNat, by omega, by omega⟩
theorem val_nat {x : Nat} (h : x < 32) : valB (x : Int) = true := by
  unfold valB
  rw [decide_eq_true_iff]
  omega
theorem asc_ge {l : List Int} (h : AscI l) (h0 : ∀ y ∈ l, 0 ≤ y) : ∀ i, i < l.length → (i : Int) ≤ l.getD i 0
  | 0, hi => by have := h0 _ (mem_getD.2 ⟨0, hi, rfl⟩); omega
  | i + 1, hi => by
    have ih := asc_ge h h0 i (by omega)
    have := ascI_getD h (show i < i + 1 by omega) hi
    omega
theorem asc_len {l : List Int} (h : AscI l) (hb : ∀ y ∈ l, valB y = true) : l.length ≤ 32 := by
  by_cases h0 : l.length = 0
  · omega
  · have h1 := asc_ge h (fun y hy => by obtain ⟨X, rfl, -⟩ := valN (hb y hy); omega) (l.length - 1) (by omega)
    obtain ⟨X, h2, h3⟩ := valN (hb _ (mem_getD.2 ⟨l.length - 1, by omega, rfl⟩))
    omega
theorem asc_ok {l : List Int} (h : AscI l) (hb : ∀ y ∈ l, valB y = true) : setsOk l = true := by
  unfold setsOk
  rw [Bool.and_eq_true, decide_eq_true_iff, List.all_eq_true]
  have := asc_len h hb
  exact ⟨hb, by omega⟩
theorem minS_asc (l : List Int) : AscI (minS l) := by
  unfold minS
  split
  · exact mnTo_asc _ _
  · exact List.Pairwise.nil
theorem subN_anti {a b : Nat} (h1 : subN a b = true) (h2 : subN b a = true) : a = b := by
  unfold subN at *
  rw [beq_iff_eq] at *
  rw [← h1, Nat.and_comm]
  exact h2
theorem add_sub_fin : ∀ (a b : Fin 32) (j : Fin 5), subN a.val b.val = true → bitB b.val j.val = true → bitB a.val j.val = false → subN (a.val + 2 ^ j.val) b.val = true := by decide +kernel
/-- The sets that stand for x among those that an edge leads to. -/
def CandN (f : Nat → Bool) (e c : Nat) : Prop := ∃ y : Nat, y < 32 ∧ (y : Int) ∈ minS (brdTo f 32) ∧ (hitI (e : Int) (y : Int) = true ∧ c = y ∨ hitI (e : Int) (y : Int) = false ∧ ∃ j, j < 5 ∧ bitB e j = true ∧ c = y + 2 ^ j)
theorem no_bit {e y j : Nat} (he : e < 32) (hy : y < 32) (hj : j < 5) (h : hitI (e : Int) (y : Int) = false) (hb : bitB e j = true) : bitB y j = false := by
  cases hc : bitB y j with
  | false => rfl
  | true => rw [(hit_iff he hy).2 ⟨j, hj, hb, hc⟩] at h; cases h
theorem cand_iff {f : Nat → Bool} {e : Nat} (he : e < 32) (z : Int) : z ∈ grwTo (minS (brdTo f 32)) (e : Int) (minS (brdTo f 32)).length ↔ ∃ c : Nat, z = (c : Int) ∧ CandN f e c := by
  rw [grwTo_mem]
  have hm : ∀ y ∈ minS (brdTo f 32), ∃ Y : Nat, y = (Y : Int) ∧ Y < 32 := fun y hy => by
    obtain ⟨x, h1, -, h3, -⟩ := (minS_brd f (Nat.le_refl _) y).1 hy
    exact ⟨x, h3, h1⟩
  constructor
  · rintro ⟨t, ht, h⟩
    have hy := mem_getD.2 ⟨t, ht, rfl⟩
    obtain ⟨Y, e1, hY⟩ := hm _ hy
    rw [e1] at h hy
    rw [hit_comm_fin ⟨Y, hY⟩ ⟨e, he⟩] at h
    rcases h with ⟨h1, rfl⟩ | ⟨h1, j, hj, hb, rfl⟩
    · exact ⟨Y, rfl, Y, hY, hy, .inl ⟨h1, rfl⟩⟩
    · have hn := no_bit he hY hj h1 (by simpa using hb)
      exact ⟨Y + 2 ^ j, or_fin9 ⟨Y, hY⟩ ⟨j, hj⟩ hn, Y, hY, hy, .inr ⟨h1, j, hj, by simpa using hb, rfl⟩⟩
  · rintro ⟨c, rfl, Y, hY, hy, h⟩
    obtain ⟨t, ht, e1⟩ := mem_getD.1 hy
    refine ⟨t, ht, ?_⟩
    rw [← e1, hit_comm_fin ⟨Y, hY⟩ ⟨e, he⟩]
    rcases h with ⟨h1, rfl⟩ | ⟨h1, j, hj, hb, rfl⟩
    · exact .inl ⟨h1, rfl⟩
    · exact .inr ⟨h1, j, hj, by simpa using hb, (or_fin9 ⟨Y, hY⟩ ⟨j, hj⟩ (no_bit he hY hj h1 hb)).symm⟩
theorem minS_sub' {l : List Int} (hl : setsOk l = true) {x : Int} (h : x ∈ minS l) : ∃ t, t < l.length ∧ ∃ X : Nat, x = (X : Int) := by
  unfold minS at h
  rw [if_pos hl, mnTo_mem] at h
  obtain ⟨t, ht, e, -⟩ := h
  unfold setsOk at hl
  rw [Bool.and_eq_true, List.all_eq_true] at hl
  obtain ⟨X, hX, -⟩ := valN (hl.1 x (mem_getD.2 ⟨t, ht, e⟩))
  exact ⟨t, ht, X, hX⟩
theorem grw_min {f : Nat → Bool} {e : Nat} (he : e < 32) (hup : UpN 32 (fun x => f x = true)) :
    grwL (minS (brdTo f 32)) (e : Int) = minS (brdTo (fun x => f x && hitI (e : Int) (x : Int)) 32) := by
  have hL : setsOk (minS (brdTo f 32)) = true := asc_ok (minS_asc _) fun y hy => by
    obtain ⟨x, h1, -, rfl, -⟩ := (minS_brd f (Nat.le_refl _) y).1 hy
    exact val_nat h1
  -- what is led to hits, and everything that hits lies above something that is led to
  have hg : ∀ c, CandN f e c → c < 32 ∧ f c = true ∧ hitI (e : Int) (c : Int) = true := by
    rintro c ⟨y, hy, hm, h⟩
    obtain ⟨x, -, hx2, hx3, -⟩ := (minS_brd f (Nat.le_refl _) (y : Int)).1 hm
    obtain rfl : y = x := by omega
    rcases h with ⟨h1, rfl⟩ | ⟨h1, j, hj, hb, rfl⟩
    · exact ⟨hy, hx2, h1⟩
    · have hn := no_bit he hy hj h1 hb
      obtain ⟨m1, m2, m3, -⟩ := more_fin ⟨y, hy⟩ ⟨j, hj⟩ hn
      exact ⟨m1, hup y _ hy m1 m2 hx2, (hit_iff he m1).2 ⟨j, hj, hb, m3⟩⟩
  have hc : ∀ z, z < 32 → f z = true → hitI (e : Int) (z : Int) = true → ∃ c, CandN f e c ∧ subN c z = true := by
    intro z hz h1 h2
    obtain ⟨y, hy, -, hs, hl⟩ := least_ex (f := fun x => f x = true) z hz h1
    obtain ⟨l1, l2⟩ := (least_iff (n := 32) (Nat.le_refl _) hup hy).1 hl
    have hm : (y : Int) ∈ minS (brdTo f 32) := (minS_brd f (Nat.le_refl _) _).2 ⟨y, hy, l1, rfl, l2⟩
    cases hh : hitI (e : Int) (y : Int) with
    | true => exact ⟨y, ⟨y, hy, hm, .inl ⟨hh, rfl⟩⟩, hs⟩
    | false =>
      obtain ⟨j, hj, b1, b2⟩ := (hit_iff he hz).1 h2
      exact ⟨y + 2 ^ j, ⟨y, hy, hm, .inr ⟨hh, j, hj, b1, rfl⟩⟩, add_sub_fin ⟨y, hy⟩ ⟨z, hz⟩ ⟨j, hj⟩ hs b2 (no_bit he hy hj hh b1)⟩
  have hD : ∀ z, z ∈ ddTo (grwTo (minS (brdTo f 32)) (e : Int) (minS (brdTo f 32)).length) (grwTo (minS (brdTo f 32)) (e : Int) (minS (brdTo f 32)).length).length ↔ ∃ c : Nat, z = (c : Int) ∧ CandN f e c := fun z => (dd_mem _ _).trans (cand_iff he z)
  have hDk := asc_ok (ddTo_asc (grwTo (minS (brdTo f 32)) (e : Int) (minS (brdTo f 32)).length) _) fun y hy => by
    obtain ⟨c, rfl, h⟩ := (hD y).1 hy
    exact val_nat (hg c h).1
  unfold grwL
  rw [if_pos (by rw [hL, val_nat he]; rfl)]
  refine ascI_unique _ _ (minS_asc _) (minS_asc _) fun x => ?_
  have hbD : ∀ y ∈ ddTo (grwTo (minS (brdTo f 32)) (e : Int) (minS (brdTo f 32)).length) (grwTo (minS (brdTo f 32)) (e : Int) (minS (brdTo f 32)).length).length, ∃ x : Nat, x < 32 ∧ y = (x : Int) := fun y hy => by
    obtain ⟨c, rfl, h⟩ := (hD y).1 hy
    exact ⟨c, (hg c h).1, rfl⟩
  rw [minS_brd _ (Nat.le_refl _)]
  constructor
  · intro hx
    obtain ⟨X, rfl⟩ : ∃ X : Nat, x = (X : Int) := by
      obtain ⟨t, -, h⟩ := minS_sub' hDk hx
      exact h
    obtain ⟨h1, h2⟩ := (minS_mem hDk hbD X).1 hx
    obtain ⟨c, e1, hcd⟩ := (hD _).1 h1
    obtain rfl : X = c := by omega
    obtain ⟨g1, g2, g3⟩ := hg X hcd
    refine ⟨X, g1, by rw [g2, g3]; rfl, rfl, fun z hz hgz hs => ?_⟩
    rw [Bool.and_eq_true] at hgz
    obtain ⟨c, c1, c2⟩ := hc z hz hgz.1 hgz.2
    have := h2 c ((hD _).2 ⟨c, rfl, c1⟩) (subN_trans c2 hs)
    subst this
    exact subN_anti hs c2
  · rintro ⟨X, hX, hgX, rfl, hmin⟩
    rw [Bool.and_eq_true] at hgX
    obtain ⟨c, c1, c2⟩ := hc X hX hgX.1 hgX.2
    obtain ⟨g1, g2, g3⟩ := hg c c1
    have := hmin c g1 (by rw [g2, g3]; rfl) c2
    subst this
    refine (minS_mem hDk hbD c).2 ⟨(hD _).2 ⟨c, rfl, c1⟩, fun z hz hs => ?_⟩
    obtain ⟨d, e1, hd⟩ := (hD _).1 hz
    obtain rfl : z = d := by omega
    obtain ⟨k1, k2, k3⟩ := hg z hd
    exact hmin z k1 (by rw [k2, k3]; rfl) hs
theorem hit_upN (E : List Int) (i : Nat) (hE : ∀ t, t < i → valB (E.getD t 0) = true) : UpN 32 (fun x => hitTo E x i = true) := fun a b ha hb hs h => by
  simp only at h ⊢
  rw [hitTo_iff] at h ⊢
  intro t ht
  obtain ⟨X, e, hX⟩ := valN (hE t ht)
  have := h t ht
  rw [e] at this ⊢
  exact hit_up hX ha hb hs this
/-- The first i edges taken into account: the smallest sets that hit them. -/
theorem trTo_eq (E : List Int) : ∀ i, (∀ t, t < i → valB (E.getD t 0) = true) → trTo E i = minS (brdTo (fun x => hitTo E x i) 32)
  | 0, _ => by
    show [0] = minS (brdTo (fun _ => true) 32)
    decide +kernel
  | i + 1, hE => by
    obtain ⟨X, e, hX⟩ := valN (hE i (by omega))
    have h := grw_min (f := fun x => hitTo E x i) hX (hit_upN E i fun t ht => hE t (by omega))
    unfold trTo
    rw [trTo_eq E i fun t ht => hE t (by omega), e, h]
    congr 2
    funext x
    show _ = (hitTo E x i && hitI (E.getD i 0) (x : Int))
    rw [e]
end Go.Proofs.YtnbjcelfdppkcaaGreat
