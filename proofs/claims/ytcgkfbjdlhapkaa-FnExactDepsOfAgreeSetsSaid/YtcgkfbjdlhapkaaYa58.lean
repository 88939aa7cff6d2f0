/- Texts of this claim, merged: DdH, RemE, PhB, EntT. Conditions: as stated. -/
import Derived.Test.YtcgkfbjdlhapkaaSidOm
import Derived.Test.YtcgkfbjdlhapkaaYa54
namespace Go.Proofs.Ytcgkfbjdlhapkaa
open Go.RowKit

theorem sd_six {c m l r : Int} {ll : List (List Int)} (h : okD c ll m l r = true) : ∀ i, i < (sdL m ll l.toNat r.toNat ll.length).length → S6 ((sdL m ll l.toNat r.toNat ll.length).getD i []) := by
  obtain ⟨hT, hm, L, R, rfl, rfl, hL, hR⟩ := okD_facts h
  intro i hi
  rw [sdL_len] at hi
  rw [show ((L : Int)).toNat = L from rfl, show ((R : Int)).toNat = R from rfl, sdL_get _ _ _ _ _ hi]
  exact kyS_s6 hT hL hR hi
theorem sd_pair {c m l r : Int} {ll : List (List Int)} (h : okD c ll m l r = true) : pairI (vioB (sdL m ll l.toNat r.toNat ll.length)) (sdL m ll l.toNat r.toNat ll.length).length = pairD c ll m l r := by
  obtain ⟨hT, hm, L, R, rfl, rfl, hL, hR⟩ := okD_facts h
  rw [sdL_len]
  exact vio_pair hT hm hL hR
theorem vio_nil : pairI (vioB []) ([] : List (List Int)).length = (-1, -1) := pairI_eq (.inl ⟨rfl, rfl, fun _ _ _ hk => absurd hk (Nat.not_lt_zero _)⟩)
theorem ok_len {c m l r : Int} {ll : List (List Int)} (h : okD c ll m l r = true) : ll.length ≤ 40 := by
  obtain ⟨hT, -⟩ := okD_facts h
  exact (isT_bd hT).2.2
section
set_option maxRecDepth 20000
set_option maxHeartbeats 1600000
end
end Go.Proofs.Ytcgkfbjdlhapkaa
namespace Go.Proofs.Ytcgkfbjdlhapkaa
open Go.RowKit

section
variable {c : Int} {ll : List (List Int)} {m : Int} {L R : Nat}
theorem kyS_kyL (i j : Nat) (h : kyS m ll L R i = kyS m ll L R j) : kyL m ll L i = kyL m ll L j := (kyS_iff.1 h).1
/-- A class by its first row is the rows of one key. -/
theorem cls_key (hT : isT c ll = true) (hm : m = 0 ∨ m = 1) (hL : L < 2 ^ c.toNat) {a : Nat} (ha : a < ll.length) (hf : ∀ b, b < a → kyL m ll L b ≠ kyL m ll L a) :
    clsC c.toNat ll m (L : Int) a = ((List.range ll.length).filter fun i => decide (kyL m ll L i = kyL m ll L a)).map fun (i : Nat) => (i : Int) := by
  refine ascH_unique (r := fun x y => x < y) (fun x => by omega) (fun x y z => by omega) _ _ (clsC_asc a _) ?_ fun x => ?_
  · rw [List.pairwise_map]
    exact ((List.pairwise_lt_range (n := ll.length)).filter _).imp fun h => by omega
  · rw [clsC_mem _ ll m _ a ha, List.mem_map]
    constructor
    · rintro (rfl | ⟨k, h1, h2, h3, rfl⟩)
      · exact ⟨a, List.mem_filter.2 ⟨List.mem_range.2 ha, by simp⟩, rfl⟩
      · exact ⟨k, List.mem_filter.2 ⟨List.mem_range.2 h2, by simpa using ((ky_agree hT hm hL (show a ≠ k by omega) ha h2).2 h3).symm⟩, rfl⟩
    · rintro ⟨k, hk, rfl⟩
      obtain ⟨h1, h2⟩ := List.mem_filter.1 hk
      rw [List.mem_range] at h1
      rw [decide_eq_true_iff] at h2
      rcases Nat.lt_trichotomy k a with h | rfl | h
      · exact (hf k h h2).elim
      · exact .inl rfl
      · exact .inr ⟨k, h, h1, (ky_agree hT hm hL (show a ≠ k by omega) ha h1).1 h2.symm, rfl⟩
theorem rep_first (hT : isT c ll = true) (hm : m = 0 ∨ m = 1) (hL : L < 2 ^ c.toNat) {a : Nat} (ha : a < ll.length) : repB c.toNat ll m (L : Int) a = !(List.range a).any fun b => decide (kyL m ll L b = kyL m ll L a) := by
  unfold repB
  congr 1
  rw [Bool.eq_iff_iff, List.any_eq_true, List.any_eq_true]
  constructor
  · rintro ⟨b, hb, h⟩
    have hba := List.mem_range.1 hb
    exact ⟨b, hb, by simpa using (ky_agree hT hm hL (show b ≠ a by omega) (by omega) ha).2 h⟩
  · rintro ⟨b, hb, h⟩
    have hba := List.mem_range.1 hb
    exact ⟨b, hb, (ky_agree hT hm hL (show b ≠ a by omega) (by omega) ha).1 (by simpa using h)⟩
theorem reps_first (hT : isT c ll = true) (hm : m = 0 ∨ m = 1) (hL : L < 2 ^ c.toNat) : reps c.toNat ll m L = (firstK (kyL m ll L) ll.length).filter fun a => decide (1 < cntK (kyL m ll L) ll.length (kyL m ll L a)) := by
  unfold reps firstK
  rw [List.filter_filter]
  apply List.filter_congr
  intro a ha
  have ha := List.mem_range.1 ha
  rw [rep_first hT hm hL ha]
  cases hb : !(List.range a).any fun b => decide (kyL m ll L b = kyL m ll L a) with
  | false => simp
  | true =>
    have hf : ∀ b, b < a → kyL m ll L b ≠ kyL m ll L a := by
      rw [Bool.not_eq_true', List.any_eq_false] at hb
      exact fun b h => by simpa using hb b (List.mem_range.2 h)
    rw [cls_key hT hm hL ha hf, List.length_map]
    unfold cntK
    simp
/-- The rows of a class that are equal to its row k on the right are those that have its sides. -/
theorem same_cnt (p : List Int) (k : Nat) (hk : k < p.length) (S : Int → Bool) (hS : S (p.getD k 0) = true) (he : ∀ j, j < p.length → j ≠ k → (eqR c.toNat ll m R (p.getD k 0) (p.getD j 0) = true ↔ S (p.getD j 0) = true)) :
    ∀ j, j ≤ p.length → sameTo c.toNat ll m R p k j + (if j ≤ k then 0 else 1) = 1 + ((p.take j).filter S).length
  | 0, _ => by simp [sameTo]
  | j + 1, hj => by
    have ih := same_cnt p k hk S hS he j (by omega)
    rw [take_succ_getD p 0 j (by omega), List.filter_append, List.length_append]
    unfold sameTo
    by_cases hjk : j = k
    · subst hjk
      rw [if_neg (fun h => h.1 rfl), if_neg (by omega), List.filter_cons_of_pos hS]
      rw [if_pos (Nat.le_refl _)] at ih
      simp only [List.filter_nil, List.length_cons, List.length_nil]
      omega
    · have h := he j (by omega) hjk
      by_cases hs : S (p.getD j 0) = true
      · rw [if_pos ⟨hjk, h.2 hs⟩, List.filter_cons_of_pos hs]
        simp only [List.filter_nil, List.length_cons, List.length_nil]
        by_cases hl : j ≤ k
        · rw [if_pos hl] at ih; rw [if_pos (by omega)]; omega
        · rw [if_neg hl] at ih; rw [if_neg (by omega)]; omega
      · rw [if_neg (fun e => hs (h.1 e.2)), List.filter_cons_of_neg hs]
        simp only [List.filter_nil, List.length_nil]
        by_cases hl : j ≤ k
        · rw [if_pos hl] at ih; rw [if_pos (by omega)]; omega
        · rw [if_neg hl] at ih; rw [if_neg (by omega)]; omega
theorem most_stay (hT : isT c ll = true) (hm : m = 0 ∨ m = 1) (hL : L < 2 ^ c.toNat) (hR : R < c.toNat) {a : Nat} (ha : a < ll.length) (hf : ∀ b, b < a → kyL m ll L b ≠ kyL m ll L a) :
    mostTo c.toNat ll m R (clsC c.toNat ll m (L : Int) a) (clsC c.toNat ll m (L : Int) a).length = stayK (kyL m ll L) (kyS m ll L R) ll.length (kyL m ll L a) := by
  have hp := cls_key hT hm hL ha hf
  obtain ⟨q, hq⟩ : ∃ q, q = (List.range ll.length).filter fun i => decide (kyL m ll L i = kyL m ll L a) := ⟨_, rfl⟩
  rw [← hq] at hp
  have hqm : ∀ i, i ∈ q ↔ i < ll.length ∧ kyL m ll L i = kyL m ll L a := fun i => by rw [hq, List.mem_filter, List.mem_range, decide_eq_true_iff]
  have hqn : q.Pairwise (fun a b => a < b) := by rw [hq]; exact (List.pairwise_lt_range (n := ll.length)).filter _
  obtain ⟨p, hpp⟩ : ∃ p, p = clsC c.toNat ll m (L : Int) a := ⟨_, rfl⟩
  rw [← hpp] at hp ⊢
  have hlen : p.length = q.length := by rw [hp, List.length_map]
  have hget : ∀ k, k < p.length → p.getD k 0 = ((q.getD k 0 : Nat) : Int) ∧ q.getD k 0 ∈ q := fun k hk => by
    have hk' : k < q.length := by omega
    rw [hp, List.getD_eq_getElem?_getD, List.getElem?_map, List.getElem?_eq_getElem hk', List.getD_eq_getElem?_getD, List.getElem?_eq_getElem hk']
    exact ⟨rfl, List.getElem_mem _⟩
  have hone : ∀ k, k < p.length → sameTo c.toNat ll m R p k p.length = cntK (kyS m ll L R) ll.length (kyS m ll L R (q.getD k 0)) := fun k hk => by
    obtain ⟨e1, e2⟩ := hget k hk
    obtain ⟨i1, i2⟩ := (hqm _).1 e2
    have h := same_cnt (c := c) (ll := ll) (m := m) (R := R) p k hk (fun x => decide (kyS m ll L R x.toNat = kyS m ll L R (q.getD k 0))) (by rw [e1]; simp) (fun j hj hjk => by
      obtain ⟨f1, f2⟩ := hget j hj
      obtain ⟨j1, j2⟩ := (hqm _).1 f2
      have hne : q.getD k 0 ≠ q.getD j 0 := by
        have hk' : k < q.length := by omega
        have hj' : j < q.length := by omega
        have g1 : q.getD k 0 = q[k] := by rw [List.getD_eq_getElem?_getD, List.getElem?_eq_getElem hk']; rfl
        have g2 : q.getD j 0 = q[j] := by rw [List.getD_eq_getElem?_getD, List.getElem?_eq_getElem hj']; rfl
        rw [g1, g2]
        rcases Nat.lt_or_gt_of_ne hjk with h | h
        · have := (List.pairwise_iff_getElem.1 hqn) j k hj' hk' h; omega
        · have := (List.pairwise_iff_getElem.1 hqn) k j hk' hj' h; omega
      rw [e1, f1, decide_eq_true_iff]
      unfold eqR
      rw [show (((q.getD k 0 : Nat) : Int)).toNat = q.getD k 0 from rfl, show (((q.getD j 0 : Nat) : Int)).toNat = q.getD j 0 from rfl, ← ky_right hT hm hR hne i1 j1, kyS_iff]
      exact ⟨fun e => ⟨j2.trans i2.symm, e.symm⟩, fun e => e.2.symm⟩) p.length (Nat.le_refl _)
    rw [if_neg (by omega), List.take_length] at h
    have h2 : sameTo c.toNat ll m R p k p.length = (p.filter fun x => decide (kyS m ll L R x.toNat = kyS m ll L R (q.getD k 0))).length := by omega
    rw [h2, hp, List.filter_map, List.length_map]
    obtain ⟨s0, hs0⟩ : ∃ s0, s0 = kyS m ll L R (q.getD k 0) := ⟨_, rfl⟩
    rw [← hs0]
    unfold cntK
    rw [hq, List.filter_filter]
    congr 1
    apply List.filter_congr
    intro i _
    simp only [Function.comp, Int.toNat_natCast]
    by_cases hs : kyS m ll L R i = s0
    · have := (kyS_iff.1 (hs.trans hs0)).1.trans i2
      simp [hs, this]
    · simp [hs]
  apply Nat.le_antisymm
  · rcases mostTo_is (c := c.toNat) (ll := ll) (m := m) (R := R) p p.length with ⟨h, -⟩ | ⟨k, hk, h⟩
    · omega
    · obtain ⟨-, e2⟩ := hget k hk
      obtain ⟨i1, i2⟩ := (hqm _).1 e2
      rw [h, hone k hk, ← i2]
      exact stayK_ge _ _ (fun i j => kyS_kyL i j) _ _ i1
  · rcases stayK_is (kyL m ll L) (kyS m ll L R) (kyL m ll L a) ll.length with h | ⟨j, hj, hkj, h⟩
    · omega
    · have hjq := (hqm j).2 ⟨hj, hkj⟩
      obtain ⟨t, ht, he⟩ := List.mem_iff_getElem.1 hjq
      have htp : t < p.length := by omega
      have hq2 : q.getD t 0 = j := by rw [List.getD_eq_getElem?_getD, List.getElem?_eq_getElem ht]; exact he
      have h3 := mostTo_ge (c := c.toNat) (ll := ll) (m := m) (R := R) p t p.length htp
      rw [hone t htp, hq2] at h3
      omega
/-- What is left of the rows when the staying ones are taken away is the number to remove. -/
theorem rem_eq (hk : okD c ll m (L : Int) (R : Int) = true) (hT : isT c ll = true) (hm : m = 0 ∨ m = 1) (hL : L < 2 ^ c.toNat) (hR : R < c.toNat) {rs : List (List Int)} (hn : rs.Nodup) (hmem : ∀ x, x ∈ rs ↔ ∃ i, i < ll.length ∧ kyL m ll L i = x) :
    ((rs.map (stayK (kyL m ll L) (kyS m ll L R) ll.length)).sum ≤ ll.length) ∧ remD c ll m (L : Int) (R : Int) = (ll.length : Int) - ((rs.map (stayK (kyL m ll L) (kyS m ll L R) ll.length)).sum : Nat) := by
  obtain ⟨c1, c5, -⟩ := isT_bd hT
  obtain ⟨h1, h2⟩ := left_sum (kyL m ll L) (kyS m ll L R) (fun i j => kyS_kyL i j) ll.length hn hmem
  refine ⟨h1, ?_⟩
  unfold remD
  rw [if_pos hk, show ((R : Int)).toNat = R from rfl, clSt_parL (by omega) hL, remTo_sum _ _ (Nat.le_refl _), List.take_length, parL_map, List.map_map]
  rw [reps_first hT hm hL]
  have h3 : (((firstK (kyL m ll L) ll.length).filter fun a => decide (1 < cntK (kyL m ll L) ll.length (kyL m ll L a))).map ((fun r => r.length - mostTo c.toNat ll m R r r.length) ∘ clsC c.toNat ll m (L : Int))) = (((firstK (kyL m ll L) ll.length).filter fun a => decide (1 < cntK (kyL m ll L) ll.length (kyL m ll L a))).map fun a => cntK (kyL m ll L) ll.length (kyL m ll L a) - stayK (kyL m ll L) (kyS m ll L R) ll.length (kyL m ll L a)) := by
    apply List.map_congr_left
    intro a ha
    obtain ⟨ha, hf⟩ := firstK_mem.1 (List.mem_filter.1 ha).1
    show (clsC c.toNat ll m (L : Int) a).length - mostTo c.toNat ll m R (clsC c.toNat ll m (L : Int) a) (clsC c.toNat ll m (L : Int) a).length = _
    rw [most_stay hT hm hL hR ha hf, cls_key hT hm hL ha hf, List.length_map]
    rfl
  rw [h3, ← h2]
  omega
end
end Go.Proofs.Ytcgkfbjdlhapkaa
namespace Go.Proofs.Ytcgkfbjdlhapkaa
open Go.RowKit

end Go.Proofs.Ytcgkfbjdlhapkaa
namespace Go.Proofs.Ytcgkfbjdlhapkaa
open Go.RowKit
open Go.ChangeMaps (setBlock)

theorem goInt_inj {a b : Nat} (h : goInt a = goInt b) : a = b := by
  unfold goInt at h
  have h2 : (a : Int) = (b : Int) := by simpa using h
  omega
section
variable (w : World) {ops : Array Oper} {rest : List Oper} {o : Oper} {a : Act} {Q : Exit → Act → World → Prop}
end
end Go.Proofs.Ytcgkfbjdlhapkaa
