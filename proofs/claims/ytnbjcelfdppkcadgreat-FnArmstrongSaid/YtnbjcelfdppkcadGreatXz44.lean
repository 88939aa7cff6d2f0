/- Texts of this claim, merged: DdH, RemE, PhB, EntT. Conditions: as stated. -/
import Derived.Test.YtnbjcelfdppkcadGreatSidOm
import Derived.Test.YtnbjcelfdppkcadGreatXz40
namespace Go.Proofs.YtnbjcelfdppkcadGreat
open Go.RowKit

theorem sd_six {c m l r : Int} {ll : List (List Int)} (h : okD c ll m l r = true) : ∀ i, i < (sdL m ll l.toNat r.toNat ll.length).length → S6 ((sdL m ll l.toNat r.toNat ll.length).getD i []) := by
  obtain ⟨hT, hm, L, R, rfl, rfl, hL, hR⟩ := okD_facts h
  intro i hi
  rw [sdL_len] at hi
  rw [show ((L : Int)).toNat = L from rfl, show ((R : Int)).toNat = R from rfl, sdL_get _ _ _ _ _ hi]
  exact kyS_s6 hT hL hR hi
theorem sd_pair {c m l r : Int} {ll : List (List Int)} (h : okD c ll m l r = true) : pairI (vioB (sdL m ll l.toNat r.toNat ll.length)) (sdL m ll l.toNat r.toNat ll.length).length = pairD c ll m l r := by
  obtain ⟨hT, hm, L, R, rfl, rfl, hL, hR⟩ := okD_facts h
  rw [sdL_len]
  exact vio_pair hT hm hL hR
theorem vio_nil : pairI (vioB []) ([] : List (List Int)).length = (-1, -1) := pairI_eq (.inl ⟨rfl, rfl, fun _ _ _ hk => absurd hk (Nat.not_lt_zero _)⟩)
theorem ok_len {c m l r : Int} {ll : List (List Int)} (h : okD c ll m l r = true) : ll.length ≤ 40 := by
  obtain ⟨hT, -⟩ := okD_facts h
  exact (isT_bd hT).2.2
section
set_option maxRecDepth 20000
set_option maxHeartbeats 1600000
theorem implHoldsDep_any (c m l r : Int) (v : Value) (ll : List (List Int)) (_w1 : (Lit.int .i64 m).wf = true) (_w2 : (Lit.int .i64 l).wf = true) (_w3 : (Lit.int .i64 r).wf = true) (w : World) (hr : ReadSS w v ll) (hl : ll.length ≤ 1048576) (ht : ∀ i, i < ll.length → (ll.getD i []).length ≤ 1048576) :
    Calls Tryz.prog 47 #[.agg #[.int .i64 c, v], .int .i64 m, .agg #[.int .i64 l, .int .i64 r]] w fun e w' => e = .returned (.bool (holdsD c ll m l r)) ∧ Below w.heap.size w w' := by
  have HS := Lib.hid (fun w' (hb : Below w.heap.size w w') => sidesOf_any c m l r v ll _w1 _w2 _w3 w' (hr.kept hb) hl ht)
  obtain ⟨a, cap, rfl, -⟩ := hr
  have hb1 := (Below.refl w.heap.size w).alloc (Nat.le_refl _) (.cells #[.int .i64 c, .slice a ll.length cap] 29)
  have hb2 := hb1.alloc hb1.size (.cells #[.int .i64 l, .int .i64 r] 35)
  have HB2 := Lib.hid hb2
  obtain ⟨⟨c0, c1⟩, d0, d1⟩ := boxTD (Below.refl ((w.alloc (.cells #[.int .i64 c, .slice a ll.length cap] 29)).alloc (.cells #[.int .i64 l, .int .i64 r] 35)).heap.size _)
  clear hb1 hb2
  cases hk : okD c ll m l r with
  | false =>
    have HE : Hid (holdsD c ll m l r = false) := Lib.hid (by unfold holdsD; rw [hk]; rfl)
    rw [hk] at HS
    clear hk ht
    go_enter Tryz.func47, Tryz.ntmps47
    go_wp2_with fail
    refine (HS.out _ HB2.out).mono ?_
    rintro e w3 ⟨u, rfl, -, b3⟩
    have hb3 := HB2.out.trans (b3.mono HB2.out.size)
    clear b3
    go_wp2_with fail
    go_ret
    exact ⟨ret_b HE.out, hb3⟩
  | true =>
    have HSIX := Lib.hid (sd_six hk)
    have HP := sd_pair hk
    have hE : holdsD c ll m l r = decide ((pairD c ll m l r).1 < 0) := by unfold holdsD; rw [hk, Bool.true_and]
    have h40 := ok_len hk
    rw [hk, if_pos rfl] at HS
    have hsl := sdL_len m ll l.toNat r.toNat ll.length
    obtain ⟨SD, hSD⟩ : ∃ SD, SD = sdL m ll l.toNat r.toNat ll.length := ⟨_, rfl⟩
    rw [← hSD] at HS HSIX HP hsl
    obtain ⟨⟨p1, p2⟩, hp⟩ : ∃ p, p = pairD c ll m l r := ⟨_, rfl⟩
    rw [← hp] at HP hE
    have HP := Lib.hid HP
    have HE := Lib.hid hE
    clear hk ht hSD hp hE
    go_enter Tryz.func47, Tryz.ntmps47
    go_wp2_with fail
    refine (HS.out _ HB2.out).mono ?_
    rintro e w3 ⟨u, rfl, ho, b3⟩
    have hb3 := HB2.out.trans (b3.mono HB2.out.size)
    have HF := Lib.hid (firstViolation_any u SD w3 ho.read HSIX.out (by omega))
    rw [HP.out] at HF
    clear b3 ho c0 c1 d0 d1
    go_wp2_with fail
    refine HF.out.mono ?_
    rintro e w4 ⟨rfl, b4⟩
    have hb4 := hb3.trans (b4.mono hb3.size)
    clear b4
    go_wp2_with fail
    go_ret
    exact ⟨ret_b (by rw [HE.out]; by_cases h : 0 ≤ p1 <;> simp only [h, decide_true, decide_false] <;> simp <;> omega), hb4⟩
end
end Go.Proofs.YtnbjcelfdppkcadGreat
namespace Go.Proofs.YtnbjcelfdppkcadGreat
open Go.RowKit

section
variable {c : Int} {ll : List (List Int)} {m : Int} {L R : Nat}
theorem kyS_kyL (i j : Nat) (h : kyS m ll L R i = kyS m ll L R j) : kyL m ll L i = kyL m ll L j := (kyS_iff.1 h).1
/-- A class by its first row is the rows of one key. -/
theorem cls_key (hT : isT c ll = true) (hm : m = 0 ∨ m = 1) (hL : L < 2 ^ c.toNat) {a : Nat} (ha : a < ll.length) (hf : ∀ b, b < a → kyL m ll L b ≠ kyL m ll L a) :
    clsC c.toNat ll m (L : Int) a = ((List.range ll.length).filter fun i => decide (kyL m ll L i = kyL m ll L a)).map fun (i : Nat) => (i : Int) := by
  refine ascH_unique (r := fun x y => x < y) (fun x => by omega) (fun x y z => by omega) _ _ (clsC_asc a _) ?_ fun x => ?_
  · rw [List.pairwise_map]
    exact ((List.pairwise_lt_range (n := ll.length)).filter _).imp fun h => by omega
  · rw [clsC_mem _ ll m _ a ha, List.mem_map]
    constructor
    · rintro (rfl | ⟨k, h1, h2, h3, rfl⟩)
      · exact ⟨a, List.mem_filter.2 ⟨List.mem_range.2 ha, by simp⟩, rfl⟩
      · exact ⟨k, List.mem_filter.2 ⟨List.mem_range.2 h2, by simpa using ((ky_agree hT hm hL (show a ≠ k by omega) ha h2).2 h3).symm⟩, rfl⟩
    · rintro ⟨k, hk, rfl⟩
      obtain ⟨h1, h2⟩ := List.mem_filter.1 hk
      rw [List.mem_range] at h1
      rw [decide_eq_true_iff] at h2
      rcases Nat.lt_trichotomy k a with h | rfl | h
      · exact (hf k h h2).elim
      · exact .inl rfl
      · exact .inr ⟨k, h, h1, (ky_agree hT hm hL (show a ≠ k by omega) ha h1).1 h2.symm, rfl⟩
theorem rep_first (hT : isT c ll = true) (hm : m = 0 ∨ m = 1) (hL : L < 2 ^ c.toNat) {a : Nat} (ha : a < ll.length) : repB c.toNat ll m (L : Int) a = !(List.range a).any fun b => decide (kyL m ll L b = kyL m ll L a) := by
  unfold repB
  congr 1
  rw [Bool.eq_iff_iff, List.any_eq_true, List.any_eq_true]
  constructor
  · rintro ⟨b, hb, h⟩
    have hba := List.mem_range.1 hb
    exact ⟨b, hb, by simpa using (ky_agree hT hm hL (show b ≠ a by omega) (by omega) ha).2 h⟩
  · rintro ⟨b, hb, h⟩
    have hba := List.mem_range.1 hb
    exact ⟨b, hb, (ky_agree hT hm hL (show b ≠ a by omega) (by omega) ha).1 (by simpa using h)⟩
theorem reps_first (hT : isT c ll = true) (hm : m = 0 ∨ m = 1) (hL : L < 2 ^ c.toNat) : reps c.toNat ll m L = (firstK (kyL m ll L) ll.length).filter fun a => decide (1 < cntK (kyL m ll L) ll.length (kyL m ll L a)) := by
  unfold reps firstK
  rw [List.filter_filter]
  apply List.filter_congr
  intro a ha
  have ha := List.mem_range.1 ha
  rw [rep_first hT hm hL ha]
  cases hb : !(List.range a).any fun b => decide (kyL m ll L b = kyL m ll L a) with
  | false => simp
  | true =>
    have hf : ∀ b, b < a → kyL m ll L b ≠ kyL m ll L a := by
      rw [Bool.not_eq_true', List.any_eq_false] at hb
      exact fun b h => by simpa using hb b (List.mem_range.2 h)
    rw [cls_key hT hm hL ha hf, List.length_map]
    unfold cntK
    simp
/-- The rows of a class that are equal to its row k on the right are those that have its sides. -/
theorem same_cnt (p : List Int) (k : Nat) (hk : k < p.length) (S : Int → Bool) (hS : S (p.getD k 0) = true) (he : ∀ j, j < p.length → j ≠ k → (eqR c.toNat ll m R (p.getD k 0) (p.getD j 0) = true ↔ S (p.getD j 0) = true)) :
    ∀ j, j ≤ p.length → sameTo c.toNat ll m R p k j + (if j ≤ k then 0 else 1) = 1 + ((p.take j).filter S).length
  | 0, _ => by simp [sameTo]
  | j + 1, hj => by
    have ih := same_cnt p k hk S hS he j (by omega)
    rw [take_succ_getD p 0 j (by omega), List.filter_append, List.length_append]
    unfold sameTo
    by_cases hjk : j = k
    · subst hjk
      rw [if_neg (fun h => h.1 rfl), if_neg (by omega), List.filter_cons_of_pos hS]
      rw [if_pos (Nat.le_refl _)] at ih
      simp only [List.filter_nil, List.length_cons, List.length_nil]
      omega
    · have h := he j (by omega) hjk
      by_cases hs : S (p.getD j 0) = true
      · rw [if_pos ⟨hjk, h.2 hs⟩, List.filter_cons_of_pos hs]
        simp only [List.filter_nil, List.length_cons, List.length_nil]
        by_cases hl : j ≤ k
        · rw [if_pos hl] at ih; rw [if_pos (by omega)]; omega
        · rw [if_neg hl] at ih; rw [if_neg (by omega)]; omega
      · rw [if_neg (fun e => hs (h.1 e.2)), List.filter_cons_of_neg hs]
        simp only [List.filter_nil, List.length_nil]
        by_cases hl : j ≤ k
        · rw [if_pos hl] at ih; rw [if_pos (by omega)]; omega
        · rw [if_neg hl] at ih; rw [if_neg (by omega)]; omega
theorem most_stay (hT : isT c ll = true) (hm : m = 0 ∨ m = 1) (hL : L < 2 ^ c.toNat) (hR : R < c.toNat) {a : Nat} (ha : a < ll.length) (hf : ∀ b, b < a → kyL m ll L b ≠ kyL m ll L a) :
    mostTo c.toNat ll m R (clsC c.toNat ll m (L : Int) a) (clsC c.toNat ll m (L : Int) a).length = stayK (kyL m ll L) (kyS m ll L R) ll.length (kyL m ll L a) := by
  have hp := cls_key hT hm hL ha hf
  obtain ⟨q, hq⟩ : ∃ q, q = (List.range ll.length).filter fun i => decide (kyL m ll L i = kyL m ll L a) := ⟨_, rfl⟩
  rw [← hq] at hp
  have hqm : ∀ i, i ∈ q ↔ i < ll.length ∧ kyL m ll L i = kyL m ll L a := fun i => by rw [hq, List.mem_filter, List.mem_range, decide_eq_true_iff]
  have hqn : q.Pairwise (fun a b => a < b) := by rw [hq]; exact (List.pairwise_lt_range (n := ll.length)).filter _
  obtain ⟨p, hpp⟩ : ∃ p, p = clsC c.toNat ll m (L : Int) a := ⟨_, rfl⟩
  rw [← hpp] at hp ⊢
  have hlen : p.length = q.length := by rw [hp, List.length_map]
  have hget : ∀ k, k < p.length → p.getD k 0 = ((q.getD k 0 : Nat) : Int) ∧ q.getD k 0 ∈ q := fun k hk => by
    have hk' : k < q.length := by omega
    rw [hp, List.getD_eq_getElem?_getD, List.getElem?_map, List.getElem?_eq_getElem hk', List.getD_eq_getElem?_getD, List.getElem?_eq_getElem hk']
    exact ⟨rfl, List.getElem_mem _⟩
  have hone : ∀ k, k < p.length → sameTo c.toNat ll m R p k p.length = cntK (kyS m ll L R) ll.length (kyS m ll L R (q.getD k 0)) := fun k hk => by
    obtain ⟨e1, e2⟩ := hget k hk
    obtain ⟨i1, i2⟩ := (hqm _).1 e2
    have h := same_cnt (c := c) (ll := ll) (m := m) (R := R) p k hk (fun x => decide (kyS m ll L R x.toNat = kyS m ll L R (q.getD k 0))) (by rw [e1]; simp) (fun j hj hjk => by
      obtain ⟨f1, f2⟩ := hget j hj
      obtain ⟨j1, j2⟩ := (hqm _).1 f2
      have hne : q.getD k 0 ≠ q.getD j 0 := by
        have hk' : k < q.length := by omega
        have hj' : j < q.length := by omega
        have g1 : q.getD k 0 = q[k] := by rw [List.getD_eq_getElem?_getD, List.getElem?_eq_getElem hk']; rfl
        have g2 : q.getD j 0 = q[j] := by rw [List.getD_eq_getElem?_getD, List.getElem?_eq_getElem hj']; rfl
        rw [g1, g2]
        rcases Nat.lt_or_gt_of_ne hjk with h | h
        · have := (List.pairwise_iff_getElem.1 hqn) j k hj' hk' h; omega
        · have := (List.pairwise_iff_getElem.1 hqn) k j hk' hj' h; omega
      rw [e1, f1, decide_eq_true_iff]
      unfold eqR
      rw [show (((q.getD k 0 : Nat) : Int)).toNat = q.getD k 0 from rfl, show (((q.getD j 0 : Nat) : Int)).toNat = q.getD j 0 from rfl, ← ky_right hT hm hR hne i1 j1, kyS_iff]
      exact ⟨fun e => ⟨j2.trans i2.symm, e.symm⟩, fun e => e.2.symm⟩) p.length (Nat.le_refl _)
    rw [if_neg (by omega), List.take_length] at h
    have h2 : sameTo c.toNat ll m R p k p.length = (p.filter fun x => decide (kyS m ll L R x.toNat = kyS m ll L R (q.getD k 0))).length := by omega
    rw [h2, hp, List.filter_map, List.length_map]
    obtain ⟨s0, hs0⟩ : ∃ s0, s0 = kyS m ll L R (q.getD k 0) := ⟨_, rfl⟩
    rw [← hs0]
    unfold cntK
    rw [hq, List.filter_filter]
    congr 1
    apply List.filter_congr
    intro i _
    simp only [Function.comp, Int.toNat_natCast]
    by_cases hs : kyS m ll L R i = s0
    · have := (kyS_iff.1 (hs.trans hs0)).1.trans i2
      simp [hs, this]
    · simp [hs]
  apply Nat.le_antisymm
  · rcases mostTo_is (c := c.toNat) (ll := ll) (m := m) (R := R) p p.length with ⟨h, -⟩ | ⟨k, hk, h⟩
    · omega
    · obtain ⟨-, e2⟩ := hget k hk
      obtain ⟨i1, i2⟩ := (hqm _).1 e2
      rw [h, hone k hk, ← i2]
      exact stayK_ge _ _ (fun i j => kyS_kyL i j) _ _ i1
  · rcases stayK_is (kyL m ll L) (kyS m ll L R) (kyL m ll L a) ll.length with h | ⟨j, hj, hkj, h⟩
    · omega
    · have hjq := (hqm j).2 ⟨hj, hkj⟩
      obtain ⟨t, ht, he⟩ := List.mem_iff_getElem.1 hjq
      have htp : t < p.length := by omega
      have hq2 : q.getD t 0 = j := by rw [List.getD_eq_getElem?_getD, List.getElem?_eq_getElem ht]; exact he
      have h3 := mostTo_ge (c := c.toNat) (ll := ll) (m := m) (R := R) p t p.length htp
      rw [hone t htp, hq2] at h3
      omega
/-- What is left of the rows when the staying ones are taken away is the number to remove. -/
theorem rem_eq (hk : okD c ll m (L : Int) (R : Int) = true) (hT : isT c ll = true) (hm : m = 0 ∨ m = 1) (hL : L < 2 ^ c.toNat) (hR : R < c.toNat) {rs : List (List Int)} (hn : rs.Nodup) (hmem : ∀ x, x ∈ rs ↔ ∃ i, i < ll.length ∧ kyL m ll L i = x) :
    ((rs.map (stayK (kyL m ll L) (kyS m ll L R) ll.length)).sum ≤ ll.length) ∧ remD c ll m (L : Int) (R : Int) = (ll.length : Int) - ((rs.map (stayK (kyL m ll L) (kyS m ll L R) ll.length)).sum : Nat) := by
  obtain ⟨c1, c5, -⟩ := isT_bd hT
  obtain ⟨h1, h2⟩ := left_sum (kyL m ll L) (kyS m ll L R) (fun i j => kyS_kyL i j) ll.length hn hmem
  refine ⟨h1, ?_⟩
  unfold remD
  rw [if_pos hk, show ((R : Int)).toNat = R from rfl, clSt_parL (by omega) hL, remTo_sum _ _ (Nat.le_refl _), List.take_length, parL_map, List.map_map]
  rw [reps_first hT hm hL]
  have h3 : (((firstK (kyL m ll L) ll.length).filter fun a => decide (1 < cntK (kyL m ll L) ll.length (kyL m ll L a))).map ((fun r => r.length - mostTo c.toNat ll m R r r.length) ∘ clsC c.toNat ll m (L : Int))) = (((firstK (kyL m ll L) ll.length).filter fun a => decide (1 < cntK (kyL m ll L) ll.length (kyL m ll L a))).map fun a => cntK (kyL m ll L) ll.length (kyL m ll L a) - stayK (kyL m ll L) (kyS m ll L R) ll.length (kyL m ll L a)) := by
    apply List.map_congr_left
    intro a ha
    obtain ⟨ha, hf⟩ := firstK_mem.1 (List.mem_filter.1 ha).1
    show (clsC c.toNat ll m (L : Int) a).length - mostTo c.toNat ll m R (clsC c.toNat ll m (L : Int) a) (clsC c.toNat ll m (L : Int) a).length = _
    rw [most_stay hT hm hL hR ha hf, cls_key hT hm hL ha hf, List.length_map]
    rfl
  rw [h3, ← h2]
  omega
end
end Go.Proofs.YtnbjcelfdppkcadGreat
namespace Go.Proofs.YtnbjcelfdppkcadGreat
open Go.RowKit

theorem strike {left : Lit → Bool} {x x0 : List Int} (hx : R5 x) (h0 : R5 x0) : (left (klR x) && !(klR x).sameKey (klR x0)) = (left (klR x) && !decide (x = x0)) := by
  by_cases h : x = x0
  · subst h
    rw [WideAt.sameKey_self (klR_key hx), decide_eq_true rfl]
  · have : (klR x).sameKey (klR x0) = false := by
      cases hs : (klR x).sameKey (klR x0) with
      | false => rfl
      | true => exact absurd (klR_inj hx h0 (WideAt.sameKey_eq hs)) h
    rw [this, decide_eq_false h]
/-- The records that were collected, and those that are still to come. -/
def PhB {H : Type} (D : DataW H) (left : Lit → Bool) (rs : List (List Int)) : Prop :=
  rs.Nodup ∧ (∀ x ∈ rs, R5 x ∧ Maps.has D (klR x) = true) ∧ ∀ x, R5 x → left (klR x) = (Maps.has D (klR x) && !decide (x ∈ rs))
theorem PhB.start {H : Type} (D : DataW H) : PhB D (Maps.has D) [] := ⟨List.nodup_nil, (fun x hx => by cases hx), fun x _ => by simp⟩
theorem PhB.step {H : Type} {D : DataW H} {left : Lit → Bool} {rs : List (List Int)} (h : PhB D left rs) {x0 : List Int} (h0 : R5 x0) (hl : left (klR x0) = true) : PhB D (fun z => left z && !z.sameKey (klR x0)) (rs ++ [x0]) := by
  obtain ⟨h1, h2, h3⟩ := h
  have h4 := h3 x0 h0
  rw [hl] at h4
  have h4' := h4.symm
  rw [Bool.and_eq_true, Bool.not_eq_true', decide_eq_false_iff_not] at h4'
  refine ⟨?_, fun x hx => ?_, fun x hx => ?_⟩
  · rw [List.nodup_append]
    exact ⟨h1, by simp, fun a ha c hc e => by simp at hc; subst hc; subst e; exact h4'.2 ha⟩
  · rcases List.mem_append.1 hx with h | h
    · exact h2 x h
    · simp at h; subst h; exact ⟨h0, h4'.1⟩
  · show (left (klR x) && !(klR x).sameKey (klR x0)) = _
    rw [strike hx h0, h3 x hx]
    by_cases hxx : x = x0
    · subst hxx; simp
    · simp [hxx]
theorem PhB.stop {H : Type} {D : DataW H} {left : Lit → Bool} {rs : List (List Int)} (h : PhB D left rs) (hl : ∀ kl, left kl = false) : ∀ x, R5 x → (x ∈ rs ↔ Maps.has D (klR x) = true) := by
  intro x hx
  have h3 := h.2.2 x hx
  rw [hl] at h3
  constructor
  · intro hm; exact (h.2.1 x hm).2
  · intro hh
    rw [hh] at h3
    simpa using h3.symm
end Go.Proofs.YtnbjcelfdppkcadGreat
namespace Go.Proofs.YtnbjcelfdppkcadGreat
open Go.RowKit
open Go.ChangeMaps (setBlock)

theorem lawS : Go.WideMaps.KeyLaw Tryz.prog 123 := deep_law (m := 3) (by omega) (by kernel_rfl) (by kernel_rfl) (by kernel_rfl)
theorem goInt_inj {a b : Nat} (h : goInt a = goInt b) : a = b := by
  unfold goInt at h
  have h2 : (a : Int) = (b : Int) := by simpa using h
  omega
section
variable (w : World) {ops : Array Oper} {rest : List Oper} {o : Oper} {a : Act} {Q : Exit → Act → World → Prop}
theorem mapQ_next (hg : o.guard = none) (it : Operand) (hop : o.op = Op.next it false) (b r n : Nat) (D : DataW Unit) (left : Lit → Bool) (cnt : Nat) (hit : a.eval it = .pointer (some ⟨r, 0, none⟩)) (h : w.ranges Tryz.prog 119 (plainElem Tryz.prog 3) b r n D left cnt)
    (hDone : cnt = 0 → (∀ kl, left kl = false) → wpList Tryz.prog ops Q rest (a.put o.dst (.tuple #[.bool false])) w)
    (hMore : ∀ (a0 a1 a2 a3 a4 y : Int) (w' : World) (cnt' : Nat), R5 [a0, a1, a2, a3, a4] → left (klR [a0, a1, a2, a3, a4]) = true → (∀ zd, D.atKey (klR [a0, a1, a2, a3, a4]) zd = .lit (.int .i64 y)) →
      w'.ranges Tryz.prog 119 (plainElem Tryz.prog 3) b r n D (fun z => left z && !z.sameKey (klR [a0, a1, a2, a3, a4])) cnt' → cnt' < cnt → w.grownBy w' (some r) → w'.heap.size = w.heap.size →
      (Instr.entry (.pointer (some ⟨r, 0, none⟩))).run Tryz.prog w' = .ok (.tuple #[.agg #[.int .i64 a0, .int .i64 a1, .int .i64 a2, .int .i64 a3, .int .i64 a4], .int .i64 y]) w' →
      wpList Tryz.prog ops Q rest (a.put o.dst (.tuple #[.bool true, .agg #[.int .i64 a0, .int .i64 a1, .int .i64 a2, .int .i64 a3, .int .i64 a4], .int .i64 y])) w') : wpList Tryz.prog ops Q (o :: rest) a w := by
  refine wpList_next_ranges w hg it hop 119 keyR (plainElem Tryz.prog 3) (fun r : {r : List Int // R5 r} => recV r.1) (fun t : Int => .int .i64 t) (fun key kl hk => ?_) (fun v y hv => ?_) b r n D left cnt hit h hDone (fun x c kl y w' cnt' hkey hlk hv hat hrg hlt hgr hsz hen => ?_)
  · obtain ⟨r, hr, e, -⟩ := rec_inv hk
    exact ⟨⟨r, hr⟩, e⟩
  · obtain ⟨c, e, -⟩ := plainElem_int_inv Tryz.underlying3 hv
    exact ⟨c, e⟩
  · obtain ⟨x, hx⟩ := x
    have hkk := keyOf_klR hx
    rw [hkey] at hkk
    cases hkk
    obtain ⟨c', ec, rfl, -⟩ := plainElem_int_inv Tryz.underlying3 hv
    cases ec
    have hx5 := r5_list hx
    obtain ⟨a0, a1, a2, a3, a4, rfl⟩ : ∃ a0 a1 a2 a3 a4, x = [a0, a1, a2, a3, a4] := ⟨_, _, _, _, _, hx5⟩
    exact hMore a0 a1 a2 a3 a4 c w' cnt' hx hlk hat hrg hlt hgr hsz hen
end
theorem MapT.drew {w : World} {b n : Nat} {f : List Int → Nat} (h : MapT w b n f) : MapT w.drew b n f := h
theorem MapQ.drew {w : World} {b n : Nat} {f : List Int → Nat} (h : MapQ w b n f) : MapQ w.drew b n f := h
end Go.Proofs.YtnbjcelfdppkcadGreat
