/- Texts of this claim, merged: ParI, RecK. Conditions: as stated. -/
import Derived.Test.YtficnbeciohpfaaSg12
import Derived.Maps.RangeWalk
import Derived.Maps.AppendAt
import Derived.WideKeyEntry
import Derived.WideKeyPair
namespace Go.Proofs.Ytficnbeciohpfaa
open Go.RowKit

/-- What is asked of class i. -/
def Cls (p : List (List Int)) (rows : Int) (i : Nat) : Prop :=
  2 ≤ (p.getD i []).length ∧ lastTo p i < (p.getD i []).getD 0 0 ∧ (∀ k, k < (p.getD i []).length → 0 ≤ (p.getD i []).getD k 0 ∧ (p.getD i []).getD k 0 ≤ rows - 1) ∧
    (∀ k, k + 1 < (p.getD i []).length → (p.getD i []).getD k 0 < (p.getD i []).getD (k + 1) 0) ∧ ∀ x ∈ p.getD i [], x ∉ flatTo p i
theorem mem_getD' {l : List Int} {y : Int} : y ∈ l ↔ ∃ t, t < l.length ∧ y = l.getD t 0 := by
  constructor
  · intro h
    obtain ⟨t, ht, rfl⟩ := List.mem_iff_getElem.mp h
    exact ⟨t, ht, get_getD l t ht⟩
  · rintro ⟨t, ht, rfl⟩
    rw [← get_getD l t ht]; exact List.getElem_mem ht
theorem mem_take {l : List Int} {y : Int} {k : Nat} (hk : k ≤ l.length) : y ∈ l.take k ↔ ∃ t, t < k ∧ y = l.getD t 0 := by
  rw [mem_getD', List.length_take]
  constructor
  · rintro ⟨t, ht, h⟩
    refine ⟨t, by omega, ?_⟩
    rw [h, ← get_getD l t (by omega), ← get_getD (l.take k) t (by rw [List.length_take]; omega), List.getElem_take]
  · rintro ⟨t, ht, h⟩
    refine ⟨t, by omega, ?_⟩
    rw [h, ← get_getD l t (by omega), ← get_getD (l.take k) t (by rw [List.length_take]; omega), List.getElem_take]
theorem asc_lt {l : List Int} (h : ∀ k, k + 1 < l.length → l.getD k 0 < l.getD (k + 1) 0) {i : Nat} : ∀ d, i + d + 1 < l.length → l.getD i 0 < l.getD (i + d + 1) 0
  | 0, hd => h i hd
  | d + 1, hd => by
    have h1 := asc_lt h (i := i) d (by omega)
    have h2 := h (i + d + 1) (by omega)
    rw [show i + (d + 1) + 1 = i + d + 1 + 1 by omega]
    omega
theorem okC_iff {p : List (List Int)} {rows : Int} {i : Nat} : okC (rows - 1) p i = true ↔ Cls p rows i := by
  unfold okC Cls
  rw [Bool.and_eq_true, List.all_eq_true, decide_eq_true_eq]
  constructor
  · rintro ⟨⟨h1, h2⟩, h3⟩
    have hx : ∀ k, k < (p.getD i []).length → (0 ≤ (p.getD i []).getD k 0 ∧ (p.getD i []).getD k 0 ≤ rows - 1) ∧ (0 < k → (p.getD i []).getD (k - 1) 0 < (p.getD i []).getD k 0) ∧ (p.getD i []).getD k 0 ∉ flatTo p i ++ (p.getD i []).take k := by
      intro k hk
      have := h3 k (List.mem_range.mpr hk)
      unfold okX at this
      simp only [Bool.and_eq_true, Bool.not_eq_true', Bool.and_eq_false_iff, decide_eq_true_eq, decide_eq_false_iff_not] at this
      obtain ⟨⟨ha, hb⟩, hc⟩ := this
      exact ⟨ha, fun h0 => by rcases hb with hb | hb <;> omega, hc⟩
    refine ⟨h1, h2, fun k hk => (hx k hk).1, fun k hk => (hx (k + 1) hk).2.1 (by omega), fun x hxm => ?_⟩
    obtain ⟨t, ht, rfl⟩ := mem_getD'.mp hxm
    exact fun hf => (hx t ht).2.2 (List.mem_append.mpr (Or.inl hf))
  · rintro ⟨h1, h2, h3, h4, h5⟩
    refine ⟨⟨h1, h2⟩, fun k hk => ?_⟩
    have hk' := List.mem_range.mp hk
    unfold okX
    simp only [Bool.and_eq_true, Bool.not_eq_true', Bool.and_eq_false_iff, decide_eq_true_eq, decide_eq_false_iff_not]
    refine ⟨⟨h3 k hk', ?_⟩, fun hm => ?_⟩
    · by_cases h0 : 0 < k
      · right
        have := h4 (k - 1) (by omega)
        rw [show k - 1 + 1 = k by omega] at this
        omega
      · exact Or.inl h0
    · rcases List.mem_append.mp hm with hm | hm
      · exact h5 _ (mem_getD'.mpr ⟨k, hk', rfl⟩) hm
      · obtain ⟨t, ht, e⟩ := (mem_take (by omega)).mp hm
        have := asc_lt h4 (i := t) (k - t - 1) (by omega)
        rw [show t + (k - t - 1) + 1 = k by omega] at this
        omega
theorem partP_iff {p : List (List Int)} {rows : Int} : partP p rows = true ↔ (0 ≤ rows ∧ rows ≤ 40) ∧ ∀ i, i < p.length → Cls p rows i := by
  constructor
  · intro h
    have hr := partP_rows h
    have hR : IntKind.i64.wrap (rows - 1) = rows - 1 := by rw [IntKind.wrap_i64]; omega
    unfold partP at h
    rw [Bool.and_eq_true, List.all_eq_true, hR] at h
    exact ⟨hr, fun i hi => okC_iff.mp (h.1 i (List.mem_range.mpr hi))⟩
  · rintro ⟨hr, h⟩
    have hR : IntKind.i64.wrap (rows - 1) = rows - 1 := by rw [IntKind.wrap_i64]; omega
    unfold partP
    rw [Bool.and_eq_true, List.all_eq_true, hR, decide_eq_true_eq]
    exact ⟨fun i hi => okC_iff.mpr (h i (List.mem_range.mp hi)), hr⟩
theorem mem_flatTo {p : List (List Int)} {x : Int} : ∀ i, i ≤ p.length → (x ∈ flatTo p i ↔ ∃ j, j < i ∧ x ∈ p.getD j [])
  | 0, _ => by simp [flatTo]
  | i + 1, hi => by
    rw [flatTo_succ p i (by omega), List.mem_append, mem_flatTo i (by omega)]
    constructor
    · rintro (⟨j, h1, h2⟩ | h)
      · exact ⟨j, by omega, h2⟩
      · exact ⟨i, by omega, h⟩
    · rintro ⟨j, h1, h2⟩
      by_cases e : j = i
      · subst e; exact Or.inr h2
      · exact Or.inl ⟨j, by omega, h2⟩
/-- A row lies in one class at most. -/
theorem cls_one {p : List (List Int)} {rows : Int} (h : partP p rows = true) {a b : Nat} {x : Int} (ha : a < p.length) (hb : b < p.length) (hxa : x ∈ p.getD a []) (hxb : x ∈ p.getD b []) : a = b := by
  obtain ⟨-, hc⟩ := partP_iff.mp h
  rcases Nat.lt_trichotomy a b with hlt | he | hlt
  · exact ((hc b hb).2.2.2.2 x hxb ((mem_flatTo b (by omega)).mpr ⟨a, hlt, hxa⟩)).elim
  · exact he
  · exact ((hc a ha).2.2.2.2 x hxa ((mem_flatTo a (by omega)).mpr ⟨b, hlt, hxb⟩)).elim
theorem clsI_part {p : List (List Int)} {rows : Int} (h : partP p rows = true) {a : Nat} {x : Int} (ha : a < p.length) : x ∈ p.getD a [] ↔ clsI p x = (a : Int) := by
  constructor
  · intro hx
    exact clsI_hit p x a ha (fun i hi hxi => by have := cls_one h (by omega) ha hxi hx; omega) hx
  · intro hx
    have := clsI_mem p x (by omega)
    rw [hx, show ((a : Int)).toNat = a by omega] at this
    exact this
/-- No row before i is in the same class of both. -/
def rep2 (p q : List (List Int)) (i : Nat) : Bool := decide (0 ≤ clsI p i ∧ 0 ≤ clsI q i) && !(List.range i).any fun b => decide (clsI p (b : Int) = clsI p (i : Int) ∧ clsI q (b : Int) = clsI q (i : Int))
/-- The classes of a product are those of the rows that have none before them in the same classes, in their order, but for those that are alone. -/
def prL (p q : List (List Int)) (i : Nat) : List (List Int) := ((List.range i).filter fun a => rep2 p q a && decide (1 < (prC p q (clsI p a).toNat (clsI q a).toNat).length)).map fun a => prC p q (clsI p (a : Nat)).toNat (clsI q (a : Nat)).toNat
theorem prC_mem {p q : List (List Int)} {rows : Int} (hp : partP p rows = true) (hq : partP q rows = true) {a : Int} (h0 : 0 ≤ clsI p a) (h1 : 0 ≤ clsI q a) (x : Int) : x ∈ prC p q (clsI p a).toNat (clsI q a).toNat ↔ clsI p x = clsI p a ∧ clsI q x = clsI q a := by
  have h2 := clsI_ge p a
  have h3 := clsI_ge q a
  unfold prC
  rw [List.mem_filter, decide_eq_true_eq, clsI_part hp (by omega), clsI_part hq (by omega)]
  constructor
  · rintro ⟨h4, h5⟩; omega
  · rintro ⟨h4, h5⟩; omega
theorem prSt_eq {p q : List (List Int)} {rows : Int} (hp : partP p rows = true) (hq : partP q rows = true) : ∀ i, (prSt p q i).1 = prL p q i ∧ ∀ x : Int, (x ∈ (prSt p q i).2 ↔ ∃ a : Nat, a < i ∧ 0 ≤ clsI p (a : Int) ∧ 0 ≤ clsI q (a : Int) ∧ clsI p x = clsI p (a : Int) ∧ clsI q x = clsI q (a : Int))
  | 0 => by simp [prSt, prL]
  | i + 1 => by
    obtain ⟨ih1, ih2⟩ := prSt_eq hp hq i
    have hL : prL p q (i + 1) = prL p q i ++ (if rep2 p q i = true ∧ 1 < (prC p q (clsI p i).toNat (clsI q i).toNat).length then [prC p q (clsI p i).toNat (clsI q i).toNat] else []) := by
      unfold prL
      rw [List.range_succ, List.filter_append, List.map_append]
      congr 1
      by_cases h : rep2 p q i = true ∧ 1 < (prC p q (clsI p i).toNat (clsI q i).toNat).length
      · rw [if_pos h, List.filter_cons, if_pos (by rw [h.1, decide_eq_true h.2]; rfl)]; rfl
      · rw [if_neg h, List.filter_cons, if_neg (by rw [Bool.and_eq_true, decide_eq_true_eq]; exact h)]; rfl
    have hrep : rep2 p q i = true ↔ 0 ≤ clsI p (i : Int) ∧ 0 ≤ clsI q (i : Int) ∧ (i : Int) ∉ (prSt p q i).2 := by
      unfold rep2
      rw [Bool.and_eq_true, decide_eq_true_eq, Bool.not_eq_true', ih2]
      constructor
      · rintro ⟨⟨h1, h2⟩, h3⟩
        refine ⟨h1, h2, ?_⟩
        rintro ⟨a, h4, h5, h6, h7, h8⟩
        rw [List.any_eq_false] at h3
        exact h3 a (List.mem_range.mpr h4) (decide_eq_true ⟨h7.symm, h8.symm⟩)
      · rintro ⟨h1, h2, h3⟩
        refine ⟨⟨h1, h2⟩, ?_⟩
        rw [List.any_eq_false]
        intro b hb hd
        have hd' := of_decide_eq_true hd
        exact h3 ⟨b, List.mem_range.mp hb, by omega, by omega, hd'.1.symm, hd'.2.symm⟩
    rw [hL]
    unfold prSt
    by_cases hs : clsI p (i : Int) < 0 ∨ clsI q (i : Int) < 0 ∨ (i : Int) ∈ (prSt p q i).2
    · have hr : ¬ rep2 p q i = true := by
        rw [hrep]
        rintro ⟨h1, h2, h3⟩
        rcases hs with h | h | h
        · omega
        · omega
        · exact h3 h
      rw [if_pos hs, if_neg (fun h => hr h.1), List.append_nil]
      refine ⟨ih1, fun x => ?_⟩
      rw [ih2]
      constructor
      · rintro ⟨a, h1, h2⟩; exact ⟨a, by omega, h2⟩
      · rintro ⟨a, h1, h2, h3, h4, h5⟩
        by_cases e : a = i
        · subst e
          rcases hs with h | h | h
          · omega
          · omega
          · obtain ⟨b, g1, g2, g3, g4, g5⟩ := (ih2 _).mp h
            exact ⟨b, g1, g2, g3, h4.trans g4, h5.trans g5⟩
        · exact ⟨a, by omega, h2, h3, h4, h5⟩
    · have h1 : 0 ≤ clsI p (i : Int) := Int.not_lt.mp fun h => hs (Or.inl h)
      have h2 : 0 ≤ clsI q (i : Int) := Int.not_lt.mp fun h => hs (Or.inr (Or.inl h))
      have hr : rep2 p q i = true := hrep.mpr ⟨h1, h2, fun h => hs (Or.inr (Or.inr h))⟩
      rw [if_neg hs]
      have hm : ∀ x : Int, x ∈ (prSt p q i).2 ++ prC p q (clsI p i).toNat (clsI q i).toNat ↔ ∃ a : Nat, a < i + 1 ∧ 0 ≤ clsI p (a : Int) ∧ 0 ≤ clsI q (a : Int) ∧ clsI p x = clsI p (a : Int) ∧ clsI q x = clsI q (a : Int) := by
        intro x
        rw [List.mem_append, ih2, prC_mem hp hq h1 h2]
        constructor
        · rintro (⟨a, g1, g2⟩ | ⟨g1, g2⟩)
          · exact ⟨a, by omega, g2⟩
          · exact ⟨i, by omega, h1, h2, g1, g2⟩
        · rintro ⟨a, g1, g2, g3, g4, g5⟩
          by_cases e : a = i
          · subst e; exact Or.inr ⟨g4, g5⟩
          · exact Or.inl ⟨a, by omega, g2, g3, g4, g5⟩
      by_cases hl : 1 < (prC p q (clsI p i).toNat (clsI q i).toNat).length
      · rw [if_pos hl, if_pos ⟨hr, hl⟩]
        exact ⟨by simp only; rw [ih1], hm⟩
      · rw [if_neg hl, if_neg (fun h => hl h.2), List.append_nil]
        exact ⟨ih1, hm⟩
theorem proS_eq (p q : List (List Int)) (rows : Int) (hp : partP p rows = true) (hq : partP q rows = true) : proS p q rows = prL p q rows.toNat := by
  unfold proS
  rw [if_pos (by rw [hp, hq]; rfl)]
  exact (prSt_eq hp hq rows.toNat).1
end Go.Proofs.Ytficnbeciohpfaa
namespace Go.Proofs.Ytficnbeciohpfaa
open Go.RowKit
open Go.Maps (Keyed)
open Go.WideMaps (ArrKey)
open Go.ChangeMaps (setBlock)

theorem arrR : ArrKey Try.prog 70 3 5 := ⟨Try.underlying70, by kernel_rfl, by kernel_rfl, by kernel_rfl⟩
theorem keyR : Keyed Try.prog 70 := Keyed.of_law arrR.law
theorem sizeT : ∃ m, Try.prog.types.size = m + 1 := ⟨Try.prog.types.size - 1, by kernel_rfl⟩
/-- The value of a record. -/
def recV (r : List Int) : Value := .agg #[.int .i64 (r.getD 0 0), .int .i64 (r.getD 1 0), .int .i64 (r.getD 2 0), .int .i64 (r.getD 3 0), .int .i64 (r.getD 4 0)]
/-- Five ints. -/
def R5 (r : List Int) : Prop := r.length = 5 ∧ ∀ j, j < 5 → (Lit.int .i64 (r.getD j 0)).wf = true
theorem r5_list {r : List Int} (h : R5 r) : r = [r.getD 0 0, r.getD 1 0, r.getD 2 0, r.getD 3 0, r.getD 4 0] := by
  obtain ⟨h, -⟩ := h
  match r, h with
  | [a, b, c, d, e], _ => rfl
theorem recV_inj {r s : List Int} (hr : R5 r) (hs : R5 s) (h : recV r = recV s) : r = s := by
  rw [r5_list hr, r5_list hs]
  unfold recV at h
  simp only [Value.agg.injEq, Array.mk.injEq, List.cons.injEq, Value.int.injEq, true_and, and_true] at h
  obtain ⟨h0, h1, h2, h3, h4⟩ := h
  rw [h0, h1, h2, h3, h4]
instance : Nonempty Lit := ⟨.bool false⟩
theorem keyOf_rec {r : List Int} (h : R5 r) : ∃ kl, keyOf Try.prog 70 (recV r) = some kl := by
  have hkt := arrR.keyType sizeT
  obtain ⟨m, hm⟩ := sizeT
  obtain ⟨-, hw⟩ := h
  have w0 := hw 0 (by omega)
  have w1 := hw 1 (by omega)
  have w2 := hw 2 (by omega)
  have w3 := hw 3 (by omega)
  have w4 := hw 4 (by omega)
  refine ⟨.string (keyBytes [.int .i64 (r.getD 0 0), .int .i64 (r.getD 1 0), .int .i64 (r.getD 2 0), .int .i64 (r.getD 3 0), .int .i64 (r.getD 4 0)]), ?_⟩
  · unfold keyOf recV
    generalize r.getD 0 0 = a0, r.getD 1 0 = a1, r.getD 2 0 = a2, r.getD 3 0 = a3, r.getD 4 0 = a4 at *
    simp only [arrR.hu]
    rw [if_pos (by simp [hkt, Value.formed, arrR.hu, arrR.size]), hm]
    unfold Program.keyLits
    simp only [arrR.hu, Value.cells]
    rw [if_pos (by rw [arrR.size]; rfl), show List.range 5 = [0, 1, 2, 3, 4] from rfl, List.mapM_cons, List.mapM_cons, List.mapM_cons, List.mapM_cons, List.mapM_cons, List.mapM_nil]
    simp [arrR.one, Program.keyLits, Try.underlying3, w0, w1, w2, w3, w4]
/-- What a record reads as. -/
noncomputable def klR (r : List Int) : Lit := Classical.epsilon fun kl => keyOf Try.prog 70 (recV r) = some kl
theorem keyOf_klR {r : List Int} (h : R5 r) : keyOf Try.prog 70 (recV r) = some (klR r) := by
  exact Classical.epsilon_spec (keyOf_rec h)
theorem klR_inj {r s : List Int} (hr : R5 r) (hs : R5 s) (h : klR r = klR s) : r = s := by
  have h1 := keyOf_klR hr
  rw [h] at h1
  exact recV_inj hr hs (keyR.inj h1 (keyOf_klR hs))
theorem klR_key {r : List Int} (h : R5 r) : WideAt.IsKeyLit (klR r) := keyR.key (keyOf_klR h)
theorem lit_one {m : Nat} {c : Value} {ls : List Lit} (h : Try.prog.keyLits (m + 1) 3 [c] = some ls) : ∃ a, c = .int .i64 a ∧ (Lit.int .i64 a).wf = true := by
  unfold Program.keyLits at h
  simp only [Try.underlying3] at h
  cases c <;> simp at h
  obtain ⟨⟨rfl, hw⟩, -⟩ := h
  exact ⟨_, rfl, hw⟩
set_option maxRecDepth 100000 in
theorem rec_inv {v : Value} {kl : Lit} (h : keyOf Try.prog 70 v = some kl) : ∃ r, R5 r ∧ v = recV r ∧ kl = klR r := by
  have h' := h
  obtain ⟨m, hm⟩ := sizeT
  unfold keyOf at h
  simp only [arrR.hu] at h
  split at h
  · next hf =>
    rw [Bool.and_eq_true] at hf
    have hfm := hf.2
    cases v with
    | agg cs =>
      simp only [Value.formed, arrR.hu, arrR.size, beq_iff_eq] at hfm
      obtain ⟨c0, c1, c2, c3, c4, rfl⟩ : ∃ c0 c1 c2 c3 c4, cs = #[c0, c1, c2, c3, c4] := by
        obtain ⟨l⟩ := cs
        match l, hfm with
        | [a, b, c, d, e], _ => exact ⟨a, b, c, d, e, rfl⟩
      rw [hm] at h
      unfold Program.keyLits at h
      simp only [arrR.hu, Value.cells] at h
      rw [if_pos (by rw [arrR.size]; rfl), show List.range 5 = [0, 1, 2, 3, 4] from rfl, List.mapM_cons, List.mapM_cons, List.mapM_cons, List.mapM_cons, List.mapM_cons, List.mapM_nil] at h
      simp only [arrR.one, Nat.mul_one, List.drop_zero, List.drop_succ_cons, List.take_succ_cons, List.take_zero, Option.map_eq_some_iff, bind, Option.bind_eq_some_iff, pure] at h
      obtain ⟨-, ⟨-, ⟨y0, h0, -, ⟨y1, h1, -, ⟨y2, h2, -, ⟨y3, h3, -, ⟨y4, h4, -⟩, -⟩, -⟩, -⟩, -⟩, -⟩, -⟩ := h
      obtain ⟨a0, rfl, v0⟩ := lit_one h0
      obtain ⟨a1, rfl, v1⟩ := lit_one h1
      obtain ⟨a2, rfl, v2⟩ := lit_one h2
      obtain ⟨a3, rfl, v3⟩ := lit_one h3
      obtain ⟨a4, rfl, v4⟩ := lit_one h4
      have hR : R5 [a0, a1, a2, a3, a4] := ⟨rfl, fun j hj => by
        rcases (show j = 0 ∨ j = 1 ∨ j = 2 ∨ j = 3 ∨ j = 4 by omega) with rfl | rfl | rfl | rfl | rfl
        · exact v0
        · exact v1
        · exact v2
        · exact v3
        · exact v4⟩
      have hk := keyOf_klR hR
      refine ⟨_, hR, rfl, ?_⟩
      rw [show recV [a0, a1, a2, a3, a4] = .agg #[.int .i64 a0, .int .i64 a1, .int .i64 a2, .int .i64 a3, .int .i64 a4] from rfl, h'] at hk
      exact Option.some.inj hk
    | _ => simp [Value.formed, arrR.hu] at hfm
  · cases h

/-- A value reads as itself. -/
def tokR (v : Value) : Option (DataW Value × List MemPlace) := some (.held v, [])
abbrev nilS : Value := .slice none 0 0
theorem zeroS (w : World) : (zeroValue 65).run Try.prog w = .ok nilS w := by kernel_rfl
/-- Block b is a map of at most n entries from records to slices that reads as D. -/
def MapR (w : World) (b n : Nat) (D : DataW Value) : Prop := w.ownsMap Try.prog 70 tokR b n D
section
variable (w : World) {ops : Array Oper} {rest : List Oper} {o : Oper} {a : Act} {Q : Exit → Act → World → Prop}
end
end Go.Proofs.Ytficnbeciohpfaa
