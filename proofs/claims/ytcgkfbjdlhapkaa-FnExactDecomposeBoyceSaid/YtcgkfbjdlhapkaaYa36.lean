/- Texts of this claim, merged: NfG, NfH, NfI, NfJ. Conditions: as stated. -/
import Derived.Test.YtcgkfbjdlhapkaaNfEm
import Derived.Test.YtcgkfbjdlhapkaaYa12
import Derived.Test.YtcgkfbjdlhapkaaNfFm
namespace Go.Proofs.Ytcgkfbjdlhapkaa
open Go.RowKit

/-- The greatest sets of a list of small sets. -/
theorem maxS_mem13 {l : List Int} (hl : setsOk l = true) (hb : ∀ y ∈ l, ∃ x : Nat, x < 32 ∧ y = (x : Int)) (x : Nat) : (x : Int) ∈ maxS l ↔ (x : Int) ∈ l ∧ ∀ z : Nat, (z : Int) ∈ l → subN x z = true → z = x := by
  unfold maxS
  rw [if_pos hl, mxTo_mem]
  constructor
  · rintro ⟨t, ht, e, hk⟩
    have hm : (x : Int) ∈ l := mem_getD.2 ⟨t, ht, e⟩
    obtain ⟨x', x1, x2⟩ := hb _ hm
    refine ⟨hm, fun z hz hs => ?_⟩
    obtain ⟨z', z1, z2⟩ := hb _ hz
    obtain ⟨s, hsl, e'⟩ := mem_getD.1 hz
    have h := (topK_iff _ _ _).1 hk s hsl
    rw [← e', Bool.or_eq_true, beq_iff_eq] at h
    rcases h with h | h
    · omega
    · have hb := sub_and ⟨x, by omega⟩ ⟨z, by omega⟩
      simp only at hb
      rw [hs, beq_iff_eq] at hb
      rw [hb] at h
      simp at h
  · rintro ⟨hm, h⟩
    obtain ⟨x', x1, x2⟩ := hb _ hm
    obtain ⟨s, hsl, e⟩ := mem_getD.1 hm
    refine ⟨s, hsl, e, (topK_iff _ _ _).2 fun t ht => ?_⟩
    have hz : l.getD t 0 ∈ l := mem_getD.2 ⟨t, ht, rfl⟩
    obtain ⟨z, z1, z2⟩ := hb _ hz
    rw [z2] at hz ⊢
    rw [Bool.or_eq_true, beq_iff_eq]
    by_cases hs : subN x z = true
    · exact .inl (by rw [h z hz hs])
    · have hb := sub_and ⟨x, by omega⟩ ⟨z, by omega⟩
      simp only at hb
      refine .inr ?_
      rw [bne, hb]
      simpa using hs
/-- The greatest sets lie in the list, and each of the list lies in one of them. -/
theorem maxS_sub13 {l : List Int} {y : Int} (h : y ∈ maxS l) : y ∈ l := by
  unfold maxS at h
  split at h
  · obtain ⟨t, h1, h2, -⟩ := (mxTo_mem _ _ _).1 h
    exact mem_getD.2 ⟨t, h1, h2⟩
  · cases h
theorem max_above {P : Nat → Prop} : ∀ k x, 5 ≤ popN x + k → x < 32 → P x → ∃ y, y < 32 ∧ P y ∧ subN x y = true ∧ ∀ z, z < 32 → P z → subN y z = true → z = y
  | 0, x, hk, hx, hp => ⟨x, hx, hp, subN_refl x, fun z hz _ hs => Classical.byContradiction fun hne => by
      have h1 := popN_up ⟨x, hx⟩ ⟨z, hz⟩ hs (fun e => hne (congrArg Fin.val e).symm)
      have h2 := popN_le z
      simp only at h1
      omega⟩
  | k + 1, x, hk, hx, hp => by
    by_cases h : ∃ z, z < 32 ∧ P z ∧ subN x z = true ∧ z ≠ x
    · obtain ⟨z, z1, z2, z3, z4⟩ := h
      have h1 := popN_up ⟨x, hx⟩ ⟨z, z1⟩ z3 (fun e => z4 (congrArg Fin.val e).symm)
      simp only at h1
      obtain ⟨y, y1, y2, y3, y4⟩ := max_above k z (by omega) z1 z2
      exact ⟨y, y1, y2, subN_trans z3 y3, y4⟩
    · exact ⟨x, hx, hp, subN_refl x, fun z hz hpz hs => Classical.byContradiction fun hne => h ⟨z, hz, hpz, hs, hne⟩⟩
theorem maxS_above {l : List Int} (hl : setsOk l = true) (hb : ∀ y ∈ l, ∃ x : Nat, x < 32 ∧ y = (x : Int)) {x : Nat} (h : (x : Int) ∈ l) : ∃ y : Nat, y < 32 ∧ (y : Int) ∈ maxS l ∧ subN x y = true := by
  obtain ⟨x', x1, x2⟩ := hb _ h
  obtain ⟨y, y1, y2, y3, y4⟩ := max_above (P := fun z => (z : Int) ∈ l) 5 x (by omega) (by omega) h
  exact ⟨y, y1, (maxS_mem13 hl hb y).2 ⟨y2, fun z hz hs => by
    obtain ⟨z', z1, z2⟩ := hb _ hz
    exact y4 z (by omega) hz hs⟩, y3⟩
/-- Ten chains hold all sets of five columns: an antichain has ten members at most. -/
def chn13 (x : Nat) : Nat := ([0, 0, 1, 0, 2, 2, 1, 0, 3, 3, 4, 3, 5, 2, 1, 0, 6, 6, 7, 6, 8, 8, 7, 6, 9, 9, 4, 3, 5, 2, 1, 0] : List Nat).getD x 0
theorem chn_fin : ∀ a b : Fin 32, chn13 a.val < 10 ∧ (chn13 a.val = chn13 b.val → subN a.val b.val = true ∨ subN b.val a.val = true) := by decide +kernel
theorem nodup_len13 : ∀ (n : Nat) (l : List Nat), l.Nodup → (∀ x ∈ l, x < n) → l.length ≤ n
  | 0, l, _, h => by
    cases l with
    | nil => exact Nat.le_refl _
    | cons a r => exact absurd (h a List.mem_cons_self) (Nat.not_lt_zero _)
  | n + 1, l, hd, h => by
    have h1 := nodup_len13 n (l.erase n) (hd.erase n) (fun x hx => by
      obtain ⟨h2, h3⟩ := (hd.mem_erase_iff).1 hx
      have := h x h3
      omega)
    rw [List.length_erase] at h1
    split at h1 <;> omega
theorem subN_le13 {a b : Nat} (h : subN a b = true) : a ≤ b := by
  unfold subN at h
  rw [beq_iff_eq] at h
  rw [← h]
  exact Nat.and_le_right
/-- An antichain of sets has ten members at most. -/
theorem maxS_ten {l : List Int} (hl : setsOk l = true) (hb : ∀ y ∈ l, ∃ x : Nat, x < 32 ∧ y = (x : Int)) : (maxS l).length ≤ 10 := by
  have hasc : AscI (maxS l) := by unfold maxS; rw [if_pos hl]; exact mxTo_asc _ _
  have hmm : ∀ y ∈ maxS l, ∃ x : Nat, x < 32 ∧ y = (x : Int) := fun y hy => hb y (maxS_sub13 hy)
  have hn : ((maxS l).map (fun y => chn13 y.toNat)).Nodup := by
    refine List.pairwise_map.2 (hasc.imp_of_mem fun {a b} h1 h2 hlt he => ?_)
    obtain ⟨x, hx, rfl⟩ := hmm a h1
    obtain ⟨z, hz, rfl⟩ := hmm b h2
    rw [show ((x : Int)).toNat = x from rfl, show ((z : Int)).toNat = z from rfl] at he
    rcases (chn_fin ⟨x, hx⟩ ⟨z, hz⟩).2 he with h | h
    · have := ((maxS_mem13 hl hb x).1 h1).2 z (maxS_sub13 h2) h
      omega
    · have := ((maxS_mem13 hl hb z).1 h2).2 x (maxS_sub13 h1) h
      omega
  have := nodup_len13 10 _ hn (fun x hx => by
    obtain ⟨y, hy, rfl⟩ := List.mem_map.1 hx
    obtain ⟨z, hz, rfl⟩ := hmm y hy
    exact (chn_fin ⟨z, hz⟩ ⟨z, hz⟩).1)
  rwa [List.length_map] at this
theorem val_small13 : ∀ x : Fin 32, valB ((x.val : Nat) : Int) = true := by decide +kernel
theorem spl_facts {C : Nat} {l : List (Int × Int)} (hC : C ≤ 5) : ∀ f T out, T < 32 → T < 2 ^ C → popN T ≤ f →
    (∀ y ∈ splN (C : Int) l f T out, y ∈ out ∨ ∃ S : Nat, y = (S : Int) ∧ S < 32 ∧ S < 2 ^ C ∧ subN S T = true ∧ (bdD (C : Int) l (S : Int)).2 = false) ∧
    (∀ y ∈ out, y ∈ splN (C : Int) l f T out) ∧ (∀ R, R < 5 → bitB T R = true → ∃ S : Nat, (S : Int) ∈ splN (C : Int) l f T out ∧ S < 32 ∧ bitB S R = true) ∧
    (splN (C : Int) l f T out).length ≤ out.length + 2 ^ f
  | 0, T, out, hT, hTC, hp => by
    have hnb : (bdD (C : Int) l (T : Int)).2 = false := by
      cases hb : (bdD (C : Int) l (T : Int)).2 with
      | false => rfl
      | true =>
        obtain ⟨L, R, -, -, -, -, -, -, -, -, -, -, -, -, h, -⟩ := bad_facts hb
        omega
    have e : splN (C : Int) l 0 T out = put4 out (T : Int) := rfl
    rw [e]
    refine ⟨fun y hy => ?_, fun y hy => (put4_mem _ _ _).2 (.inr hy), fun R hR hb => ⟨T, (put4_mem _ _ _).2 (.inl rfl), hT, hb⟩, put4_len13 _ _⟩
    rcases (put4_mem _ _ _).1 hy with rfl | h
    · exact .inr ⟨T, rfl, hT, hTC, subN_refl T, hnb⟩
    · exact .inl h
  | f + 1, T, out, hT, hTC, hp => by
    cases hb : (bdD (C : Int) l (T : Int)).2 with
    | false =>
      have e : splN (C : Int) l (f + 1) T out = put4 out (T : Int) := by
        show (if (bdD (C : Int) l (T : Int)).2 = true then _ else _) = _
        rw [hb]
        rfl
      rw [e]
      refine ⟨fun y hy => ?_, fun y hy => (put4_mem _ _ _).2 (.inr hy), fun R hR hb => ⟨T, (put4_mem _ _ _).2 (.inl rfl), hT, hb⟩, Nat.le_trans (put4_len13 _ _) (Nat.add_le_add_left (Nat.pow_pos (by decide)) _)⟩
      rcases (put4_mem _ _ _).1 hy with rfl | h
      · exact .inr ⟨T, rfl, hT, hTC, subN_refl T, hb⟩
      · exact .inl h
    | true =>
      obtain ⟨L, R, e1, hL, hR, -, -, -, ha, hd, hLT, hcl, hA, hA32, hpA, hS32, hS, hpS⟩ := bad_facts hb
      have e : splN (C : Int) l (f + 1) T out = splN (C : Int) l f ((T ^^^ (clo l L &&& T)) ||| L) (splN (C : Int) l f (clo l L &&& T) out) := by
        show (if (bdD (C : Int) l (T : Int)).2 = true then _ else _) = _
        rw [if_pos hb, e1]
        rfl
      rw [e]
      have lt_of : ∀ {S : Nat}, subN S T = true → S < 2 ^ C := fun h => Nat.lt_of_le_of_lt (subN_le13 h) hTC
      obtain ⟨a1, a2, a3, a4⟩ := spl_facts (l := l) hC f (clo l L &&& T) out hA32 (lt_of hA) (by omega)
      obtain ⟨b1, b2, b3, b4⟩ := spl_facts (l := l) hC f ((T ^^^ (clo l L &&& T)) ||| L) (splN (C : Int) l f (clo l L &&& T) out) hS32 (lt_of hS) (by omega)
      refine ⟨fun y hy => ?_, fun y hy => b2 y (a2 y hy), fun Q hQ hbQ => ?_, ?_⟩
      · rcases b1 y hy with h | ⟨S, s1, s2, s3, s4, s5⟩
        · rcases a1 y h with h | ⟨S, s1, s2, s3, s4, s5⟩
          · exact .inl h
          · exact .inr ⟨S, s1, s2, s3, subN_trans s4 hA, s5⟩
        · exact .inr ⟨S, s1, s2, s3, subN_trans s4 hS, s5⟩
      · have hcov : ∀ (T A : Fin 32) (Q : Fin 5), bitB T.val Q.val = true → bitB A.val Q.val = false → bitB (T.val ^^^ A.val) Q.val = true := by decide +kernel
        cases hq : bitB (clo l L &&& T) Q with
        | true =>
          obtain ⟨S, s1, s2, s3⟩ := a3 Q hQ hq
          exact ⟨S, b2 _ s1, s2, s3⟩
        | false =>
          have h1 := hcov ⟨T, hT⟩ ⟨_, hA32⟩ ⟨Q, hQ⟩ hbQ hq
          have h2 := (xor_sub ⟨T, hT⟩ ⟨_, hA32⟩ hA).2
          simp only at h1 h2
          have h3 := or_bit13 ⟨_, h2⟩ ⟨L, hL⟩ ⟨Q, hQ⟩
          simp only at h3
          rw [h1, Bool.true_or] at h3
          obtain ⟨S, s1, s2, s3⟩ := b3 Q hQ h3
          exact ⟨S, s1, s2, s3⟩
      · rw [Nat.pow_succ]
        omega
theorem fst13_none {p : Int × Int → Bool} : ∀ {l : List (Int × Int)}, (fst13 p l).2 = false → ∀ d ∈ l, p d = false
  | [], _, d, hd => by cases hd
  | x :: r, h, d, hd => by
    unfold fst13 at h
    split at h
    · cases h
    · rename_i hp
      rcases List.mem_cons.1 hd with rfl | hd
      · simpa using hp
      · exact fst13_none h d hd
theorem by_th {n s : Int} {l : List (Int × Int)} (h : byB n l s = true) : thB n l s = true := by
  unfold byB at h
  rw [Bool.and_eq_true, Bool.not_eq_true'] at h
  unfold thB
  rw [Bool.and_eq_true, List.all_eq_true]
  refine ⟨h.1, fun d hd => ?_⟩
  have := fst13_none h.2 d hd
  unfold thG
  rw [this]
  rfl
theorem isA_of13 {C S : Nat} (hC : C ≤ 5) (h : S < 2 ^ C) : isA (C : Int) (S : Int) = true := by
  unfold isA
  rw [decide_eq_true_iff, show ((C : Int)).toNat = C from rfl]
  have hz : ((2 ^ C : Nat) : Int) = (2 : Int) ^ C := by rw [Int.natCast_pow]; rfl
  omega
/-- A decomposed schema: the form of Boyce and Codd, all columns, ten parts at most. -/
theorem dc_facts {C : Nat} {l : List (Int × Int)} (ha : arD (C : Int) l = true) :
    (∀ y ∈ dcL (C : Int) l, ∃ S : Nat, y = (S : Int) ∧ S < 32 ∧ S < 2 ^ C ∧ byB (C : Int) l y = true ∧ thB (C : Int) l y = true) ∧
    (∀ R, R < C → ∃ S : Nat, (S : Int) ∈ dcL (C : Int) l ∧ S < 32 ∧ bitB S R = true) ∧ (dcL (C : Int) l).length ≤ 10 := by
  obtain ⟨C', e, hC1, hC5, -, hd⟩ := arD_n ha
  obtain rfl : C = C' := by omega
  have h32 := two5 hC5
  have hp : 0 < 2 ^ C := Nat.pow_pos (by decide)
  have e : dcL (C : Int) l = maxS (splN (C : Int) l 6 (2 ^ C - 1) []) := by unfold dcL; rw [if_pos ha]; rfl
  obtain ⟨s1, -, s3, s4⟩ := spl_facts (l := l) hC5 6 (2 ^ C - 1) [] (by omega) (by omega) (Nat.le_trans (popN_le _) (by omega))
  have hb : ∀ y ∈ splN (C : Int) l 6 (2 ^ C - 1) [], ∃ x : Nat, x < 32 ∧ y = (x : Int) := fun y hy => by
    rcases s1 y hy with h | ⟨S, h1, h2, -⟩
    · cases h
    · exact ⟨S, h2, h1⟩
  have hok : setsOk (splN (C : Int) l 6 (2 ^ C - 1) []) = true := by
    unfold setsOk
    rw [Bool.and_eq_true, decide_eq_true_iff, List.all_eq_true]
    refine ⟨fun y hy => ?_, Nat.le_trans s4 (by decide)⟩
    obtain ⟨x, hx, rfl⟩ := hb y hy
    exact val_small13 ⟨x, hx⟩
  rw [e]
  refine ⟨fun y hy => ?_, fun R hR => ?_, maxS_ten hok hb⟩
  · rcases s1 y (maxS_sub13 hy) with h | ⟨S, rfl, h2, h3, h4, h5⟩
    · cases h
    · have hby : byB (C : Int) l (S : Int) = true := by unfold byB fineN; rw [ha, isA_of13 hC5 h3, h5]; rfl
      exact ⟨S, rfl, h2, h3, hby, by_th hby⟩
  · obtain ⟨S, h1, h2, h3⟩ := s3 R (by omega) (by have h := full_bit13 ⟨C, by omega⟩ ⟨R, by omega⟩; simp only at h; rw [h]; exact decide_eq_true hR)
    obtain ⟨y, y1, y2, y3⟩ := maxS_above hok hb h1
    exact ⟨y, y2, y1, (subN_bit ⟨S, h2⟩ ⟨y, y1⟩).1 y3 ⟨R, by omega⟩ h3⟩
end Go.Proofs.Ytcgkfbjdlhapkaa
namespace Go.Proofs.Ytcgkfbjdlhapkaa
open Go.RowKit

theorem orN_bit13 : ∀ (x : Fin 32) (R Q : Fin 5), bitB (orN x.val R.val) Q.val = (bitB x.val Q.val || decide (R = Q)) := by decide +kernel
theorem clr_bit13 : ∀ (x : Fin 32) (R Q : Fin 5), bitB (clrN x.val R.val) Q.val = (bitB x.val Q.val && !decide (R = Q)) := by decide +kernel
theorem all_bit13 : ∀ Q : Fin 5, bitB 31 Q.val = true := by decide +kernel
theorem sub_bits {a b : Nat} (ha : a < 32) (hb : b < 32) : subN a b = true ↔ ∀ q, q < 5 → bitB a q = true → bitB b q = true := by
  rw [subN_bit ⟨a, ha⟩ ⟨b, hb⟩]
  exact ⟨fun h q hq => h ⟨q, hq⟩, fun h j => h j.val j.isLt⟩
theorem sub_clr {x K R : Nat} (hx : x < 32) (hK : K < 32) (hR : R < 5) (hs : subN x K = true) (hn : bitB x R = false) : subN x (clrN K R) = true := by
  have h1 := (clrN_bits ⟨K, hK⟩ ⟨R, hR⟩).2.1
  simp only at h1
  rw [sub_bits hx h1]
  intro q hq hb
  have h2 := clr_bit13 ⟨K, hK⟩ ⟨R, hR⟩ ⟨q, hq⟩
  simp only at h2
  rw [h2, (sub_bits hx hK).1 hs q hq hb, Bool.true_and, Bool.not_eq_true', decide_eq_false_iff_not]
  intro e
  have e2 : R = q := congrArg Fin.val e
  rw [e2, hb] at hn
  cases hn
/-- What a set determines is determined by dependencies with this Right. -/
theorem clo_new {C : Nat} {l : List (Int × Int)} (hC : C ≤ 5) (hl : DepsN C l) {x R : Nat} (hx : x < 32) (hR : R < 5) (h : bitB (clo l x) R = true) (hn : bitB x R = false) : ∃ L : Nat, ((L : Int), (R : Int)) ∈ l ∧ L < 2 ^ C := by
  refine Classical.byContradiction fun hno => ?_
  have h32 := two5 hC
  have h1 := (clrN_bits ⟨31, by omega⟩ ⟨R, hR⟩)
  simp only at h1
  have hsub : subN x (clrN 31 R) = true := sub_clr hx (by omega) hR ((sub_bits hx (by omega)).2 fun q hq _ => all_bit13 ⟨q, hq⟩) hn
  have hcl : ClosedN l (clrN 31 R) := by
    intro d hd hs
    obtain ⟨L, Q, rfl, hL, hQ⟩ := hl d hd
    have h2 := clr_bit13 ⟨31, by omega⟩ ⟨R, hR⟩ ⟨Q, by omega⟩
    have h3 := all_bit13 ⟨Q, by omega⟩
    simp only at h2 h3
    rw [show ((Q : Int)).toNat = Q from rfl, h2, h3, Bool.true_and, Bool.not_eq_true', decide_eq_false_iff_not]
    intro e
    have e2 : R = Q := congrArg Fin.val e
    subst e2
    exact hno ⟨L, hd, hL⟩
  have h4 := (clo_spec hC hl hx).2.2.2.2 _ h1.2.1 hsub hcl
  have h5 := (sub_bits (clo_spec hC hl hx).1 h1.2.1).1 h4 R hR h
  rw [h1.1] at h5
  cases h5
/-- A projection holds a dependency for each one that is implied. -/
theorem cvd_of {q : List (Int × Int)} {x z R : Nat} (hz : z < 32) (hx : x < 32) (h : ((z : Int), (R : Int)) ∈ q) (hs : subN z x = true) : cvd q ((x : Int), (R : Int)) = true := by
  rw [cvd_iff]
  refine ⟨_, h, rfl, ?_⟩
  have := sub_and ⟨z, hz⟩ ⟨x, hx⟩
  simp only at this
  rw [hs, beq_iff_eq] at this
  exact this
theorem pjIn_keep {l : List (Int × Int)} {s r : Nat} {ps : List Int} {q : List (Int × Int)} {d : Int × Int} (h : d ∈ q) : ∀ k, d ∈ pjIn l s r ps q k
  | 0 => h
  | k + 1 => by
    unfold pjIn
    split
    · exact List.mem_append_left _ (pjIn_keep h k)
    · exact pjIn_keep h k
theorem pjIn_up {l : List (Int × Int)} {s r : Nat} {ps : List Int} {q : List (Int × Int)} {d : Int × Int} {j : Nat} (h : d ∈ pjIn l s r ps q j) : ∀ k, j ≤ k → d ∈ pjIn l s r ps q k
  | 0, hk => by obtain rfl : j = 0 := by omega
                exact h
  | k + 1, hk => by
    by_cases e : j = k + 1
    · subst e; exact h
    · unfold pjIn
      split
      · exact List.mem_append_left _ (pjIn_up h k (by omega))
      · exact pjIn_up h k (by omega)
theorem pjOut_up {l : List (Int × Int)} {s : Nat} {ps : List Int} {d : Int × Int} {j : Nat} (h : d ∈ pjOut l s ps j) : ∀ k, j ≤ k → d ∈ pjOut l s ps k
  | 0, hk => by obtain rfl : j = 0 := by omega
                exact h
  | k + 1, hk => by
    by_cases e : j = k + 1
    · subst e; exact h
    · unfold pjOut
      split
      · exact pjIn_keep (pjOut_up h k (by omega)) _
      · exact pjOut_up h k (by omega)
theorem pj_whole {C : Nat} {l : List (Int × Int)} (ha : arD (C : Int) l = true) {x R S : Nat} (hx : x < 2 ^ C) (hR : R < C) (hS : S < 2 ^ C) (hs : subN x S = true) (hb : bitB S R = true) (hn : bitB x R = false) (hc : bitB (clo l x) R = true) :
    ∃ z : Nat, z < 32 ∧ subN z x = true ∧ ((z : Int), (R : Int)) ∈ pjL (C : Int) l (S : Int) := by
  obtain ⟨C', e, hC1, hC5, -, hd⟩ := arD_n ha
  obtain rfl : C = C' := by omega
  have h32 := two5 hC5
  obtain ⟨k, hk, ek⟩ := mem_getD.1 ((parts_mem hC5 _).2 ⟨x, hx, rfl⟩)
  have e1 : pjL (C : Int) l (S : Int) = pjOut l S (parts (C : Int)) C := by unfold pjL; rw [ha, isA_of13 hC5 hS]; rfl
  have e2 : pjOut l S (parts (C : Int)) (R + 1) = pjIn l S R (parts (C : Int)) (pjOut l S (parts (C : Int)) R) (parts (C : Int)).length := by
    show (if bitB S R = true then _ else _) = _
    rw [if_pos hb]
  have key : ∃ z : Nat, z < 32 ∧ subN z x = true ∧ ((z : Int), (R : Int)) ∈ pjIn l S R (parts (C : Int)) (pjOut l S (parts (C : Int)) R) (k + 1) := by
    have e3 : pjIn l S R (parts (C : Int)) (pjOut l S (parts (C : Int)) R) (k + 1) = if pjAt l S R ((parts (C : Int)).getD k 0).toNat (pjIn l S R (parts (C : Int)) (pjOut l S (parts (C : Int)) R) k) = true then pjIn l S R (parts (C : Int)) (pjOut l S (parts (C : Int)) R) k ++ [((parts (C : Int)).getD k 0, (R : Int))] else pjIn l S R (parts (C : Int)) (pjOut l S (parts (C : Int)) R) k := rfl
    rw [e3, ← ek, show ((x : Int)).toNat = x from rfl]
    cases hv : cvd (pjIn l S R (parts (C : Int)) (pjOut l S (parts (C : Int)) R) k) ((x : Int), (R : Int)) with
    | false =>
      have hp : pjAt l S R x (pjIn l S R (parts (C : Int)) (pjOut l S (parts (C : Int)) R) k) = true := by unfold pjAt; rw [hs, hn, hc, hv]; rfl
      rw [if_pos hp]
      exact ⟨x, by omega, subN_refl x, List.mem_append_right _ (List.mem_singleton.2 rfl)⟩
    | true =>
      obtain ⟨d, hd1, hd2, hd3⟩ := (cvd_iff _ _).1 hv
      have hd0 := pjOut_mem (l := l) (s := S) (ps := parts (C : Int)) (fun y hy => by
        obtain ⟨X, e, hX⟩ := parts_small _ y hy
        exact ⟨X, e, hX⟩) (R + 1) d (by rw [e2]; exact pjIn_up hd1 _ (by omega))
      obtain ⟨z, Q, z1, z2, rfl, z3, z4, z5, z6⟩ := hd0
      have hQ : Q = R := by
        have : ((Q : Int)) = (R : Int) := hd2
        omega
      subst hQ
      have h5 := sub_and ⟨z, z3⟩ ⟨x, by omega⟩
      simp only at h5 hd3
      refine ⟨z, z3, ?_, ?_⟩
      · rw [← h5, hd3]; simp
      · split
        · exact List.mem_append_left _ hd1
        · exact hd1
  obtain ⟨z, z1, z2, z3⟩ := key
  refine ⟨z, z1, z2, ?_⟩
  rw [e1]
  exact pjOut_up (by rw [e2]; exact pjIn_up z3 _ (by omega)) _ (by omega)
end Go.Proofs.Ytcgkfbjdlhapkaa
namespace Go.Proofs.Ytcgkfbjdlhapkaa
open Go.RowKit

theorem cov_facts {C : Nat} {l : List (Int × Int)} (ha : arD (C : Int) l = true) : arD (C : Int) (coL11 (C : Int) l) = true ∧ DepsN C (coL11 (C : Int) l) ∧ (∀ y, y < 32 → (ClosedN (coL11 (C : Int) l) y ↔ ClosedN l y)) ∧ (∀ j, j < (coL11 (C : Int) l).length → impB (C : Int) ((coL11 (C : Int) l).eraseIdx j) ((coL11 (C : Int) l).getD j (0, 0)) = false ∧ redD (C : Int) (coL11 (C : Int) l) ((coL11 (C : Int) l).getD j (0, 0)) = (coL11 (C : Int) l).getD j (0, 0)) := by
  obtain ⟨C', e', hC1, hC5, hl20, hl⟩ := arD_n ha
  obtain rfl : C = C' := by omega
  obtain ⟨hc, -, -, hic⟩ := cover_facts ha
  obtain ⟨C', e', -, -, -, hcl⟩ := arD_n hc
  obtain rfl : C = C' := by omega
  obtain ⟨hq, hcq⟩ := ded_facts hC5 ha hl
  have e : coL11 (C : Int) l = rmL (C : Int) (dedTo (C : Int) l l.length).length (dedTo (C : Int) l l.length) 0 := by unfold coL11; rw [if_pos ha]
  obtain ⟨h1, h2, h3, h4⟩ := rm_facts (n := (C : Int)) (dedTo (C : Int) l l.length).length (dedTo (C : Int) l l.length) 0 (by omega) (Nat.zero_le _) hq (fun j hj => absurd hj (Nat.not_lt_zero _))
  rw [← e] at h1 h2 h3 h4
  refine ⟨hc, hcl, fun y hy => (h3 y hy).trans (hcq y hy), fun j hj => ⟨h4 j hj, ?_⟩⟩
  unfold icB at hic
  rw [Bool.and_eq_true, List.all_eq_true] at hic
  have := hic.2 j (List.mem_range.2 hj)
  unfold icAt at this
  rw [Bool.and_eq_true, decide_eq_true_iff] at this
  exact this.2
theorem imp_self13 {C : Nat} {c : List (Int × Int)} (ha : arD (C : Int) c = true) {d : Int × Int} (hd : d ∈ c) : impB (C : Int) c d = true := by
  obtain ⟨C', e', hC1, hC5, -, hc⟩ := arD_n ha
  obtain rfl : C = C' := by omega
  have h32 := two5 hC5
  obtain ⟨L, R, rfl, hL, hR⟩ := hc d hd
  unfold impB
  rw [ha, Bool.true_and, Bool.and_eq_true]
  refine ⟨depB_iff.2 ⟨⟨by omega, by omega⟩, isA_of13 hC5 hL, by simp only; omega, by simp only; omega⟩, ?_⟩
  obtain ⟨c1, c2, c3, c4, -⟩ := clo_spec hC5 hc (x := L) (by omega)
  exact c4 _ hd c2
theorem DepsN.erase13 {C : Nat} {c : List (Int × Int)} (h : DepsN C c) (j : Nat) : DepsN C (c.eraseIdx j) := fun d hd => h d (List.mem_of_mem_eraseIdx hd)
section
variable {C : Nat} {c : List (Int × Int)} (hC : C ≤ 5) (hd : DepsN C c)
include hC hd
/-- No column of a Left of the cover can be spared. -/
theorem left_min (ha : arD (C : Int) c = true) {L R : Nat} (hm : ((L : Int), (R : Int)) ∈ c) (hr : redD (C : Int) c ((L : Int), (R : Int)) = ((L : Int), (R : Int))) {q : Nat} (hq : q < 5) (hb : bitB L q = true) : bitB (clo c (clrN L q)) R = false := by
  have h32 := two5 hC
  obtain ⟨L', R', e, hL, hR⟩ := hd _ hm
  cases e
  have hi := imp_self13 ha hm
  unfold redD at hr
  rw [if_pos hi] at hr
  have e1 : redN c R L 5 = L := by
    have h := congrArg Prod.fst hr
    simp only at h
    have h2 : ((redN c R L 5 : Nat) : Int) = (L : Int) := h
    omega
  obtain ⟨-, -, -, h4, -⟩ := redN_facts hC hd (L := L) (R := R) (by omega) (by omega) 5 (Nat.le_refl _)
  rw [e1] at h4
  exact h4 q hq hb
theorem syN_bits {L : Nat} (hL : L < 32) (hLC : L < 2 ^ C) : ∀ k, k ≤ c.length → syN c L k < 32 ∧ syN c L k < 2 ^ C ∧ ∀ q, q < 5 → (bitB (syN c L k) q = true ↔ bitB L q = true ∨ ∃ j, j < k ∧ c.getD j (0, 0) = ((L : Int), (q : Int)))
  | 0, _ => ⟨hL, hLC, fun q hq => ⟨.inl, fun h => by
      rcases h with h | ⟨j, h, -⟩
      · exact h
      · omega⟩⟩
  | k + 1, hk => by
    obtain ⟨h1, h2, h3⟩ := syN_bits hL hLC k (by omega)
    obtain ⟨M, Q, e, hM, hQ⟩ := hd _ (memD (show k < c.length by omega))
    have eS : syN c L (k + 1) = if (M : Int) = (L : Int) then orN (syN c L k) Q else syN c L k := by
      show (if (c.getD k (0, 0)).1 = (L : Int) then orN (syN c L k) (c.getD k (0, 0)).2.toNat else syN c L k) = _
      rw [e]
      rfl
    rw [eS]
    by_cases he : (M : Int) = (L : Int)
    · rw [if_pos he]
      have o1 := (orN_fin ⟨syN c L k, h1⟩ ⟨Q, by omega⟩).1
      have o2 := orN_low ⟨C, by omega⟩ ⟨syN c L k, h1⟩ ⟨Q, by omega⟩ h2 hQ
      simp only at o1 o2
      refine ⟨o1, o2, fun q hq => ?_⟩
      have o3 := orN_bit13 ⟨syN c L k, h1⟩ ⟨Q, by omega⟩ ⟨q, hq⟩
      simp only at o3
      rw [o3, Bool.or_eq_true, h3 q hq, decide_eq_true_iff]
      constructor
      · rintro ((h | ⟨j, h, h'⟩) | h)
        · exact .inl h
        · exact .inr ⟨j, by omega, h'⟩
        · have h2 : Q = q := congrArg Fin.val h
          exact .inr ⟨k, by omega, by rw [e, he, h2]⟩
      · rintro (h | ⟨j, h, h'⟩)
        · exact .inl (.inl h)
        · by_cases ej : j = k
          · subst ej
            rw [e] at h'
            cases h'
            exact .inr rfl
          · exact .inl (.inr ⟨j, by omega, h'⟩)
    · rw [if_neg he]
      refine ⟨h1, h2, fun q hq => ?_⟩
      rw [h3 q hq]
      constructor
      · rintro (h | ⟨j, h, h'⟩)
        · exact .inl h
        · exact .inr ⟨j, by omega, h'⟩
      · rintro (h | ⟨j, h, h'⟩)
        · exact .inl h
        · by_cases ej : j = k
          · subst ej
            rw [e] at h'
            exact absurd (congrArg Prod.fst h') he
          · exact .inr ⟨j, by omega, h'⟩
end
theorem syO_mem {c : List (Int × Int)} {y : Int} : ∀ i, (y ∈ syO c i ↔ ∃ j, j < i ∧ y = ((syN c (c.getD j (0, 0)).1.toNat c.length : Nat) : Int))
  | 0 => by
    constructor
    · intro h
      cases h
    · rintro ⟨j, h, -⟩
      omega
  | i + 1 => by
    show y ∈ put4 (syO c i) _ ↔ _
    rw [put4_mem, syO_mem i]
    constructor
    · rintro (h | ⟨j, h1, h2⟩)
      · exact ⟨i, by omega, h⟩
      · exact ⟨j, by omega, h2⟩
    · rintro ⟨j, h1, h2⟩
      by_cases e : j = i
      · subst e; exact .inl h2
      · exact .inr ⟨j, by omega, h2⟩
theorem th_of {n s : Int} {l : List (Int × Int)} (hf : fineN n l s = true) (h : ∀ d ∈ pjL n l s, thG l s.toNat (prN l s.toNat).toNat d = false) : thB n l s = true := by
  unfold thB
  rw [hf, Bool.true_and, List.all_eq_true]
  intro d hd
  rw [h d hd]
  rfl
theorem pj_parts {C S : Nat} {l : List (Int × Int)} {d : Int × Int} (h : d ∈ pjL (C : Int) l (S : Int)) : ∃ x R : Nat, d = ((x : Int), (R : Int)) ∧ x < 32 ∧ x < 2 ^ C ∧ R < 5 ∧ subN x S = true ∧ bitB S R = true ∧ bitB x R = false ∧ bitB (clo l x) R = true := by
  obtain ⟨x, R, T, rfl, eT, hx, hR, hT, hs, hb, hi⟩ := pj_facts h
  obtain rfl : S = T := by omega
  obtain ⟨C', X, R', e, -, -, e2, -, hXC, hRC, -, -, hc⟩ := impB_parts hi
  obtain rfl : C = C' := by omega
  cases e2
  have hn : bitB x R = false := by
    unfold pjL at h
    split at h
    · exact pj_nobitO _ h
    · cases h
  exact ⟨x, R, rfl, hx, hXC, hR, hs, hb, hn, hc⟩
/-- A part that is put together of a cover is in third normal form. -/
theorem syn_third {C : Nat} {l : List (Int × Int)} (ha : arD (C : Int) l = true) {i : Nat} (hi : i < (coL11 (C : Int) l).length) {L A : Nat} (hLA : (coL11 (C : Int) l).getD i (0, 0) = ((L : Int), (A : Int))) : thB (C : Int) l ((syN (coL11 (C : Int) l) L (coL11 (C : Int) l).length : Nat) : Int) = true := by
  obtain ⟨C', e', hC1, hC, hl20, hl⟩ := arD_n ha
  obtain rfl : C = C' := by omega
  have h32 := two5 hC
  obtain ⟨hca, hcd, hcl, hci⟩ := cov_facts ha
  obtain ⟨c, hcc⟩ : ∃ c, c = coL11 (C : Int) l := ⟨_, rfl⟩
  rw [← hcc] at hca hcd hcl hci hi hLA ⊢
  have hsame : ∀ x, x < 32 → clo l x = clo c x := fun x hx => clo_same hC hl hcd (fun y hy => (hcl y hy).symm) hx
  have hm := memD hi
  rw [hLA] at hm
  obtain ⟨L', A', e, hLC, hAC⟩ := hcd _ hm
  cases e
  obtain ⟨hS, hSC, hSb⟩ := syN_bits hC hcd (L := L) (by omega) hLC c.length (Nat.le_refl _)
  obtain ⟨S, hSS⟩ : ∃ S, S = syN c L c.length := ⟨_, rfl⟩
  rw [← hSS] at hS hSC hSb ⊢
  obtain ⟨k1, k2, -, k4, k5⟩ := clo_spec hC hcd (x := L) (by omega)
  have hLS : subN L S = true := (sub_bits (by omega) hS).2 fun q hq hb => (hSb q hq).2 (.inl hb)
  have hSL : subN S (clo c L) = true := (sub_bits hS k1).2 fun q hq hb => by
    rcases (hSb q hq).1 hb with h | ⟨j, hj, e⟩
    · exact (sub_bits (by omega) k1).1 k2 q hq h
    · have := memD hj
      rw [e] at this
      exact k4 _ this k2
  have hSA : bitB S A = true := (hSb A (by omega)).2 (.inr ⟨i, hi, hLA⟩)
  refine th_of (by unfold fineN; rw [ha, isA_of13 hC hSC]; rfl) fun d hdp => ?_
  obtain ⟨x, R, rfl, hx, hxC, hR, hxS, hbS, hn, hcx⟩ := pj_parts hdp
  unfold thG badN
  rw [show ((S : Int)).toNat = S from rfl]
  simp only
  rw [show ((x : Int)).toNat = x from rfl, show ((R : Int)).toNat = R from rfl]
  cases hbad : subN S (clo l x) with
  | true => rfl
  | false =>
    rw [Bool.not_false, Bool.true_and, Bool.not_eq_false']
    rcases (hSb R hR).1 hbS with hRL | ⟨j, hj, ej⟩
    · -- a column of Left is in a key
      have hmin : (L : Int) ∈ minS (brdTo (kyG l S) (S + 1)) := by
        rw [minS_brd _ (by omega)]
        have hle := subN_le13 hLS
        refine ⟨L, by omega, ?_, rfl, fun z hz hg hs => ?_⟩
        · unfold kyG
          rw [hLS, hsame L (by omega), hSL]
          rfl
        · refine Classical.byContradiction fun hne => ?_
          have hz32 : z < 32 := by omega
          have hq : ∃ q, q < 5 ∧ bitB L q = true ∧ bitB z q = false := Classical.byContradiction fun hno => hne (subN_anti' hs ((sub_bits (by omega) hz32).2 fun q hq hb => by
            cases hbz : bitB z q with
            | true => rfl
            | false => exact absurd ⟨q, hq, hb, hbz⟩ hno))
          obtain ⟨q, hq, hb, hbz⟩ := hq
          have h1 := left_min hC hcd hca hm (by rw [← hLA]; exact (hci i hi).2) hq hb
          have h2 := (clrN_bits ⟨L, by omega⟩ ⟨q, hq⟩).2.1
          simp only at h2
          have h3 := clo_mono hC hcd hz32 h2 (sub_clr hz32 (by omega) hq hs hbz)
          unfold kyG at hg
          rw [Bool.and_eq_true, hsame z hz32] at hg
          have h4 := subN_trans hg.2 h3
          have h5 := (sub_bits hS (clo_spec hC hcd h2).1).1 h4 A (by omega) hSA
          rw [h1] at h5
          cases h5
      obtain ⟨P, eP, hP, hPs⟩ := orL_facts (minS (brdTo (kyG l S) (S + 1))) (fun y hy => by
        obtain ⟨x, hx, -, rfl, -⟩ := (minS_brd (kyG l S) (by omega) y).1 hy
        exact ⟨x, rfl, by omega⟩) _ (Nat.le_refl _)
      obtain ⟨t, ht, et⟩ := mem_getD.1 hmin
      have h1 := hPs t ht
      rw [← et, show ((L : Int)).toNat = L from rfl] at h1
      have ep : prN l S = (P : Int) := eP
      rw [ep]
      exact (sub_bits (by omega) hP).1 h1 R hR hRL
    · -- otherwise the dependency of the cover could be spared
      exfalso
      have hce := hcd.erase13 j
      have hmj := memD hj
      rw [ej] at hmj
      obtain ⟨b1, b2, -, b4, b5⟩ := clo_spec hC hce (x := x) hx
      obtain ⟨a1, a2, -, a4, a5⟩ := clo_spec hC hce (x := L) (by omega)
      have hRx : bitB (clo (c.eraseIdx j) x) R = true := by
        cases hLZ : subN L (clo (c.eraseIdx j) x) with
        | false =>
          have hZc : ClosedN c (clo (c.eraseIdx j) x) := fun d hdc hs => by
            obtain ⟨m, hm2, em⟩ := mem_at11 hdc
            by_cases emj : m = j
            · subst emj
              rw [ej] at em
              rw [← em, show ((L : Int)).toNat = L from rfl, hLZ] at hs
              cases hs
            · exact b4 d (mem_erase11.2 ⟨m, emj, by rw [getD_mem11 hm2, em]⟩) hs
          rw [hsame x hx] at hcx
          have h1 := (clo_spec hC hcd hx).2.2.2.2 _ b1 b2 hZc
          exact (sub_bits (clo_spec hC hcd hx).1 b1).1 h1 R hR hcx
        | true =>
          exfalso
          have h1 : subN (clo (c.eraseIdx j) x) (clo c x) = true := clo_fewer hC hcd hce (fun y _ hy d hdm => hy d (List.mem_of_mem_eraseIdx hdm)) hx
          obtain ⟨g1, g2, -, g4, g5⟩ := clo_spec hC hcd hx
          have h2 := k5 _ g1 (subN_trans hLZ h1) g4
          rw [hsame x hx, subN_trans hSL h2] at hbad
          cases hbad
      have hxL : subN x (clo (c.eraseIdx j) L) = true := (sub_bits hx a1).2 fun q hq hb => by
        have hqS := (sub_bits hx hS).1 hxS q hq hb
        rcases (hSb q hq).1 hqS with h | ⟨m, hm2, em⟩
        · exact (sub_bits (by omega) a1).1 a2 q hq h
        · by_cases emj : m = j
          · subst emj
            rw [ej] at em
            have : (R : Int) = (q : Int) := congrArg Prod.snd em
            obtain rfl : R = q := by omega
            rw [hb] at hn
            cases hn
          · exact a4 ((L : Int), (q : Int)) (mem_erase11.2 ⟨m, emj, by rw [getD_mem11 hm2, em]⟩) a2
      have h1 := b5 _ a1 hxL a4
      have h2 := (sub_bits b1 a1).1 h1 R hR hRx
      have h3 := (hci j hj).1
      rw [ej] at h3
      unfold impB at h3
      have h4 : arD (C : Int) (c.eraseIdx j) = true := arD_sub hca (fun d hdm => List.mem_of_mem_eraseIdx hdm) (List.length_eraseIdx_le _ _)
      have h5 : depB (C : Int) (L : Int) (R : Int) = true := by
        have := imp_self13 hca hmj
        unfold impB at this
        rw [Bool.and_eq_true, Bool.and_eq_true] at this
        exact this.2.1
      rw [h4, h5, show ((L : Int)).toNat = L from rfl, show ((R : Int)).toNat = R from rfl, h2] at h3
      cases h3
end Go.Proofs.Ytcgkfbjdlhapkaa
namespace Go.Proofs.Ytcgkfbjdlhapkaa
open Go.RowKit

/-- A key is in third normal form: nothing within it is implied. -/
theorem key_third {C : Nat} {l : List (Int × Int)} {K : Nat} (h : (K : Int) ∈ koL (C : Int) l) : thB (C : Int) l (K : Int) = true := by
  obtain ⟨C', x, e, hC, ha, ex, hxC, hx, hfull⟩ := key_facts h
  obtain rfl : C = C' := by omega
  obtain rfl : K = x := by omega
  obtain ⟨C', e', hC1, -, -, hl⟩ := arD_n ha
  obtain rfl : C = C' := by omega
  have h32 := two5 hC
  have hmin : ∀ z, z < 2 ^ C → spn l C z = true → subN z K = true → z = K := by
    unfold koL koC at h
    rw [if_pos ha, show ((C : Int)).toNat = C from rfl, minS_brd _ h32] at h
    obtain ⟨x, -, -, e, hm⟩ := h
    obtain rfl : K = x := by omega
    exact hm
  refine th_of (by unfold fineN; rw [ha, isA_of13 hC hxC]; rfl) fun d hdp => ?_
  exfalso
  obtain ⟨x, R, rfl, hx2, hx2C, hR, hs, hb, hn, hc⟩ := pj_parts hdp
  obtain ⟨r1, r2, r3⟩ := clrN_bits ⟨K, hx⟩ ⟨R, hR⟩
  simp only at r1 r2 r3
  have hxz := sub_clr hx2 hx hR hs hn
  obtain ⟨g1, g2, g3, g4, g5⟩ := clo_spec hC hl r2
  have hzC : clrN K R < 2 ^ C := Nat.lt_of_le_of_lt (subN_le13 r3) hxC
  have h1 := clo_mono hC hl hx2 r2 hxz
  have hRz := (sub_bits (clo_spec hC hl hx2).1 g1).1 h1 R hR hc
  have hKz : subN K (clo l (clrN K R)) = true := (sub_bits hx g1).2 fun q hq hbq => by
    by_cases e : q = R
    · subst e; exact hRz
    · have h2 := clr_bit13 ⟨K, hx⟩ ⟨R, hR⟩ ⟨q, hq⟩
      simp only at h2
      rw [hbq, Bool.true_and] at h2
      exact (sub_bits r2 g1).1 g2 q hq (by rw [h2, Bool.not_eq_true', decide_eq_false_iff_not]; intro e2; exact e (congrArg Fin.val e2).symm)
  have h2 := (clo_spec hC hl hx).2.2.2.2 _ g1 hKz g4
  rw [hfull] at h2
  have h3 := g3 hzC
  have h4 := subN_le13 h2
  have hsp : spn l C (clrN K R) = true := by
    unfold spn
    rw [beq_iff_eq]
    omega
  have h5 := hmin _ hzC hsp r3
  rw [h5, hb] at r1
  cases r1
theorem syK_iff (k : List Int) (o : Int) : ∀ j, (syK k o j = true ↔ ∃ i, i < j ∧ bits .and .i64 (k.getD i 0) o = k.getD i 0)
  | 0 => by
    constructor
    · intro h
      cases h
    · rintro ⟨i, h, -⟩
      omega
  | j + 1 => by
    show (syK k o j || decide _) = true ↔ _
    rw [Bool.or_eq_true, syK_iff k o j, decide_eq_true_iff]
    constructor
    · rintro (⟨i, h1, h2⟩ | h)
      · exact ⟨i, by omega, h2⟩
      · exact ⟨j, by omega, h⟩
    · rintro ⟨i, h1, h2⟩
      by_cases e : i = j
      · subst e; exact .inr h2
      · exact .inl ⟨i, by omega, h2⟩
theorem syH_iff (k o : List Int) : ∀ j, (syH k o j = true ↔ ∃ i, i < j ∧ syK k (o.getD i 0) k.length = true)
  | 0 => by
    constructor
    · intro h
      cases h
    · rintro ⟨i, h, -⟩
      omega
  | j + 1 => by
    show (syH k o j || _) = true ↔ _
    rw [Bool.or_eq_true, syH_iff k o j]
    constructor
    · rintro (⟨i, h1, h2⟩ | h)
      · exact ⟨i, by omega, h2⟩
      · exact ⟨j, by omega, h⟩
    · rintro ⟨i, h1, h2⟩
      by_cases e : i = j
      · subst e; exact .inr h2
      · exact .inl ⟨i, by omega, h2⟩
/-- The sets before the greatest ones are taken. -/
def syF (n : Int) (l : List (Int × Int)) : List Int := if syH (koL n l) (syO (coL11 n l) (coL11 n l).length) (syO (coL11 n l) (coL11 n l).length).length = true then syO (coL11 n l) (coL11 n l).length else put4 (syO (coL11 n l) (coL11 n l).length) ((koL n l).getD 0 0)
theorem syF_facts {C : Nat} {l : List (Int × Int)} (ha : arD (C : Int) l = true) :
    (∀ y ∈ syF (C : Int) l, ∃ S : Nat, y = (S : Int) ∧ S < 32 ∧ S < 2 ^ C ∧ thB (C : Int) l y = true) ∧
    (∃ K S : Nat, (K : Int) ∈ koL (C : Int) l ∧ (S : Int) ∈ syF (C : Int) l ∧ K < 32 ∧ S < 32 ∧ subN K S = true ∧ clo l K = 2 ^ C - 1) ∧
    (∀ X A : Nat, ((X : Int), (A : Int)) ∈ coL11 (C : Int) l → ∃ S : Nat, (S : Int) ∈ syF (C : Int) l ∧ S < 32 ∧ subN X S = true ∧ bitB S A = true) ∧
    (syF (C : Int) l).length ≤ 21 := by
  obtain ⟨C', e', hC1, hC, hl20, hl⟩ := arD_n ha
  obtain rfl : C = C' := by omega
  have h32 := two5 hC
  obtain ⟨hca, hcd, hcl, hci⟩ := cov_facts ha
  have hlen := coL11_len (C : Int) l
  have hol := syO_len (coL11 (C : Int) l) (coL11 (C : Int) l).length
  have hO : ∀ y ∈ syO (coL11 (C : Int) l) (coL11 (C : Int) l).length, ∃ S : Nat, y = (S : Int) ∧ S < 32 ∧ S < 2 ^ C ∧ thB (C : Int) l y = true := fun y hy => by
    obtain ⟨j, hj, rfl⟩ := (syO_mem _).1 hy
    obtain ⟨L, A, e, hL, hA⟩ := hcd _ (memD hj)
    rw [e, show ((L : Int)).toNat = L from rfl]
    obtain ⟨h1, h2, -⟩ := syN_bits hC hcd (L := L) (by omega) hL _ (Nat.le_refl _)
    exact ⟨_, rfl, h1, h2, syn_third ha hj e⟩
  have hK0 : (koL (C : Int) l).getD 0 0 ∈ koL (C : Int) l := mem_getD.2 ⟨0, koL_pos ha, rfl⟩
  obtain ⟨C', K, e, -, -, eK, hKC, hK, hKf⟩ := key_facts hK0
  obtain rfl : C = C' := by omega
  have hsub : ∀ y ∈ syO (coL11 (C : Int) l) (coL11 (C : Int) l).length, y ∈ syF (C : Int) l := fun y hy => by
    unfold syF
    split
    · exact hy
    · exact (put4_mem _ _ _).2 (.inr hy)
  refine ⟨fun y hy => ?_, ?_, fun X A hm => ?_, ?_⟩
  · unfold syF at hy
    split at hy
    · exact hO y hy
    · rcases (put4_mem _ _ _).1 hy with rfl | h
      · rw [eK] at hK0 ⊢
        exact ⟨K, rfl, hK, hKC, key_third hK0⟩
      · exact hO y h
  · cases hh : syH (koL (C : Int) l) (syO (coL11 (C : Int) l) (coL11 (C : Int) l).length) (syO (coL11 (C : Int) l) (coL11 (C : Int) l).length).length with
    | true =>
      obtain ⟨i, hi, h⟩ := (syH_iff _ _ _).1 hh
      obtain ⟨j, hj, h⟩ := (syK_iff _ _ _).1 h
      have hm := mem_getD.2 ⟨i, hi, rfl⟩
      obtain ⟨S, eS, hS, -, -⟩ := hO _ hm
      have hkm := mem_getD.2 ⟨j, hj, rfl⟩
      obtain ⟨C', Q, e, -, -, eQ, hQC, hQ, hQf⟩ := key_facts hkm
      obtain rfl : C = C' := by omega
      rw [eQ, eS] at h
      rw [eQ] at hkm
      rw [eS] at hm
      have h5 := sub_and ⟨Q, hQ⟩ ⟨S, hS⟩
      simp only at h5
      refine ⟨Q, S, hkm, hsub _ hm, hQ, hS, ?_, hQf⟩
      rw [← h5, h]
      simp
    | false =>
      refine ⟨K, K, by rw [← eK]; exact hK0, ?_, hK, hK, subN_refl K, hKf⟩
      unfold syF
      rw [hh]
      exact (put4_mem _ _ _).2 (.inl eK.symm)
  · obtain ⟨i, hi, ei⟩ := mem_at11 hm
    obtain ⟨L, A', e, hL, hA⟩ := hcd _ hm
    cases e
    obtain ⟨h1, h2, h3⟩ := syN_bits hC hcd (L := X) (by omega) hL (coL11 (C : Int) l).length (Nat.le_refl _)
    refine ⟨_, hsub _ ((syO_mem _).2 ⟨i, hi, by rw [ei]; rfl⟩), h1, (sub_bits (by omega) h1).2 fun q hq hb => (h3 q hq).2 (.inl hb), (h3 A (by omega)).2 (.inr ⟨i, hi, ei⟩)⟩
  · unfold syF
    split
    · omega
    · have := put4_len13 (syO (coL11 (C : Int) l) (coL11 (C : Int) l).length) ((koL (C : Int) l).getD 0 0)
      omega
/-- A synthesized schema. -/
theorem sy_facts {C : Nat} {l : List (Int × Int)} (ha : arD (C : Int) l = true) :
    (∀ y ∈ syL (C : Int) l, ∃ S : Nat, y = (S : Int) ∧ S < 32 ∧ S < 2 ^ C ∧ thB (C : Int) l y = true) ∧
    (∀ R, R < C → ∃ S : Nat, (S : Int) ∈ syL (C : Int) l ∧ S < 32 ∧ bitB S R = true) ∧ (syL (C : Int) l).length ≤ 10 ∧
    (∃ K S : Nat, (S : Int) ∈ syL (C : Int) l ∧ K < 32 ∧ S < 32 ∧ subN K S = true ∧ clo l K = 2 ^ C - 1) ∧
    (∀ X A : Nat, ((X : Int), (A : Int)) ∈ coL11 (C : Int) l → ∃ S : Nat, (S : Int) ∈ syL (C : Int) l ∧ S < 32 ∧ subN X S = true ∧ bitB S A = true) ∧
    psB (C : Int) l (syL (C : Int) l) = true := by
  obtain ⟨C', e', hC1, hC, hl20, hl⟩ := arD_n ha
  obtain rfl : C = C' := by omega
  have h32 := two5 hC
  have hpp : 0 < 2 ^ C := Nat.pow_pos (by decide)
  obtain ⟨hca, hcd, hcl, hci⟩ := cov_facts ha
  obtain ⟨f1, ⟨K, S, f2, f3, f4, f5, f6, f7⟩, f8, f9⟩ := syF_facts ha
  have e : syL (C : Int) l = maxS (syF (C : Int) l) := by unfold syL; rw [if_pos ha]; rfl
  have hb : ∀ y ∈ syF (C : Int) l, ∃ x : Nat, x < 32 ∧ y = (x : Int) := fun y hy => by
    obtain ⟨S, h1, h2, -⟩ := f1 y hy
    exact ⟨S, h2, h1⟩
  have hok : setsOk (syF (C : Int) l) = true := by
    unfold setsOk
    rw [Bool.and_eq_true, decide_eq_true_iff, List.all_eq_true]
    refine ⟨fun y hy => ?_, by omega⟩
    obtain ⟨x, hx, rfl⟩ := hb y hy
    exact val_small13 ⟨x, hx⟩
  have g5 : ∀ X A : Nat, ((X : Int), (A : Int)) ∈ coL11 (C : Int) l → ∃ S : Nat, (S : Int) ∈ syL (C : Int) l ∧ S < 32 ∧ subN X S = true ∧ bitB S A = true := fun X A hm => by
    obtain ⟨S, s1, s2, s3, s4⟩ := f8 X A hm
    obtain ⟨y, y1, y2, y3⟩ := maxS_above hok hb s1
    have hA5 : A < 5 := by
      obtain ⟨L', A', e, -, hA⟩ := hcd _ hm
      cases e
      omega
    exact ⟨y, by rw [e]; exact y2, y1, subN_trans s3 y3, (sub_bits s2 y1).1 y3 A hA5 s4⟩
  have g1 : ∀ y ∈ syL (C : Int) l, ∃ S : Nat, y = (S : Int) ∧ S < 32 ∧ S < 2 ^ C ∧ thB (C : Int) l y = true := fun y hy => f1 y (maxS_sub13 (by rw [← e]; exact hy))
  have g4 : ∃ K S : Nat, (S : Int) ∈ syL (C : Int) l ∧ K < 32 ∧ S < 32 ∧ subN K S = true ∧ clo l K = 2 ^ C - 1 := by
    obtain ⟨y, y1, y2, y3⟩ := maxS_above hok hb f3
    exact ⟨K, y, by rw [e]; exact y2, f4, y1, subN_trans f6 y3, f7⟩
  refine ⟨g1, fun R hR => ?_, by rw [e]; exact maxS_ten hok hb, g4, g5, ?_⟩
  · obtain ⟨K, S, k1, k2, k3, k4, k5⟩ := g4
    cases hbK : bitB K R with
    | true => exact ⟨S, k1, k3, (sub_bits k2 k3).1 k4 R (by omega) hbK⟩
    | false =>
      have hf := full_bit13 ⟨C, by omega⟩ ⟨R, by omega⟩
      simp only at hf
      have h1 : bitB (clo (coL11 (C : Int) l) K) R = true := by
        rw [← clo_same hC hl hcd (fun y hy => (hcl y hy).symm) k2, k5, hf]
        exact decide_eq_true hR
      obtain ⟨L, hL, -⟩ := clo_new hC hcd k2 (by omega) h1 hbK
      obtain ⟨S, s1, s2, s3, s4⟩ := g5 L R hL
      exact ⟨S, s1, s2, s4⟩
  · unfold psB
    rw [ha, Bool.true_and, Bool.and_eq_true, List.all_eq_true, List.all_eq_true]
    refine ⟨fun y hy => ?_, fun d hdl => ?_⟩
    · obtain ⟨S, rfl, -, hS, -⟩ := g1 y hy
      exact isA_of13 hC hS
    · obtain ⟨x, R, rfl, hx, hR⟩ := hl d hdl
      rw [show ((x : Int)).toNat = x from rfl, show ((R : Int)).toNat = R from rfl]
      have hAD := alTo_deps (C := C) (l := l) (ps := syL (C : Int) l) (syL (C : Int) l).length
      have hall : ∀ y ∈ syL (C : Int) l, ∀ d ∈ pjL (C : Int) l y, d ∈ alTo (C : Int) l (syL (C : Int) l) (syL (C : Int) l).length := by
        have step : ∀ k i, i < k → ∀ d ∈ pjL (C : Int) l ((syL (C : Int) l).getD i 0), d ∈ alTo (C : Int) l (syL (C : Int) l) k := by
          intro k
          induction k with
          | zero => exact fun i h => absurd h (Nat.not_lt_zero _)
          | succ k ih =>
            intro i hi d hdp
            show d ∈ alTo (C : Int) l (syL (C : Int) l) k ++ pjL (C : Int) l ((syL (C : Int) l).getD k 0)
            by_cases ei : i = k
            · subst ei; exact List.mem_append_right _ hdp
            · exact List.mem_append_left _ (ih i (by omega) d hdp)
        intro y hy d hdp
        obtain ⟨i, hi, ei⟩ := mem_getD.1 hy
        exact step _ i hi d (by rw [← ei]; exact hdp)
      obtain ⟨AL, hAL⟩ : ∃ AL, AL = alTo (C : Int) l (syL (C : Int) l) (syL (C : Int) l).length := ⟨_, rfl⟩
      rw [← hAL] at hAD hall ⊢
      obtain ⟨z1, z2, z3, z4, z5⟩ := clo_spec hC hAD (x := x) (by omega)
      have hZ : ClosedN (coL11 (C : Int) l) (clo AL x) := fun d hdm hs => by
        obtain ⟨X, A, rfl, hX, hA⟩ := hcd d hdm
        rw [show ((X : Int)).toNat = X from rfl] at hs
        rw [show ((A : Int)).toNat = A from rfl]
        obtain ⟨S, s1, s2, s3, s4⟩ := g5 X A hdm
        cases hXA : bitB X A with
        | true => exact (sub_bits (by omega) z1).1 hs A (by omega) hXA
        | false =>
          obtain ⟨S', e2, -, hSC, -⟩ := g1 _ s1
          obtain rfl : S = S' := by omega
          have hcX : bitB (clo l X) A = true := by
            rw [clo_same hC hl hcd (fun y hy => (hcl y hy).symm) (by omega)]
            obtain ⟨q1, q2, q3, q4, q5⟩ := clo_spec hC hcd (x := X) (by omega)
            exact q4 _ hdm q2
          obtain ⟨z, hz, hzX, hzm⟩ := pj_whole ha hX hA hSC s3 s4 hXA hcX
          exact z4 _ (hall _ s1 _ hzm) (subN_trans hzX hs)
      have hZl := (hcl _ z1).1 hZ
      exact hZl _ hdl z2
end Go.Proofs.Ytcgkfbjdlhapkaa
