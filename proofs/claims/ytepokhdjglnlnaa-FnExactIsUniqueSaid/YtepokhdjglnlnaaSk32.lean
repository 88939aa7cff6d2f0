/- Texts of this claim, merged: AgrQ. Conditions: as stated. -/
import Derived.Test.YtepokhdjglnlnaaSk31
namespace Go.Proofs.Ytepokhdjglnlnaa
open Go.RowKit

theorem kpIn_iff (S : Int → Int → Bool) (l : List Int) (y : Int) (f : Nat → Bool) (j : Nat) : ∀ n, (kpIn S l y f n j = true ↔ f j = true ∧ (j = y.toNat → ∀ a, a < n → (l.getD a 0 != y && S (l.getD a 0) y) = false))
  | 0 => by simp [kpIn]
  | n + 1 => by
    have ih := kpIn_iff S l y f j n
    unfold kpIn
    split
    · rename_i h
      unfold setF
      split
      · rename_i hj
        constructor
        · intro e; cases e
        · rintro ⟨-, h2⟩
          have := h2 hj n (by omega)
          rw [h] at this; cases this
      · rename_i hj
        rw [ih]
        constructor
        · rintro ⟨h1, -⟩
          exact ⟨h1, fun e => (hj e).elim⟩
        · rintro ⟨h1, -⟩
          exact ⟨h1, fun e => (hj e).elim⟩
    · rename_i h
      rw [ih]
      constructor
      · rintro ⟨h1, h2⟩
        refine ⟨h1, fun e a ha => ?_⟩
        by_cases e' : a = n
        · subst e'; simpa using h
        · exact h2 e a (by omega)
      · rintro ⟨h1, h2⟩
        exact ⟨h1, fun e a ha => h2 e a (by omega)⟩
theorem kpOut_iff (S : Int → Int → Bool) (l : List Int) (j : Nat) (hat : ∀ i, i < l.length → ∃ X : Nat, l.getD i 0 = (X : Int) ∧ X < 32) : ∀ i, i ≤ l.length → (kpOut S l i j = true ↔ (j : Int) ∈ l ∧ ∀ t, t < i → l.getD t 0 = (j : Int) → ∀ a, a < l.length → (l.getD a 0 != (j : Int) && S (l.getD a 0) (j : Int)) = false)
  | 0, _ => by simp [kpOut, memF]
  | i + 1, hi => by
    have ih := kpOut_iff S l j hat i (by omega)
    unfold kpOut
    rw [kpIn_iff, ih]
    obtain ⟨X, hX, -⟩ := hat i (by omega)
    constructor
    · rintro ⟨⟨h1, h2⟩, h3⟩
      refine ⟨h1, fun t ht e a ha => ?_⟩
      by_cases e' : t = i
      · subst e'
        have := h3 (by rw [e]; omega) a ha
        rw [e] at this; exact this
      · exact h2 t (by omega) e a ha
    · rintro ⟨h1, h2⟩
      refine ⟨⟨h1, fun t ht e a ha => h2 t (by omega) e a ha⟩, fun e a ha => ?_⟩
      have e2 : l.getD i 0 = (j : Int) := by rw [hX] at e ⊢; omega
      have := h2 i (by omega) e2 a ha
      rw [e2]; exact this
theorem unsS_mem (S : Int → Int → Bool) (l : List Int) (hs : setsOk l = true) (y : Int) : y ∈ unsS S l ↔ y ∈ l ∧ ∀ a, a < l.length → (l.getD a 0 != y && S (l.getD a 0) y) = false := by
  obtain ⟨-, hat⟩ := setsOk_at hs
  unfold unsS
  rw [if_pos hs, lstF_mem]
  constructor
  · rintro ⟨j, h1, h2, rfl⟩
    rw [kpOut_iff S l j hat _ (Nat.le_refl _)] at h2
    obtain ⟨t, ht, e⟩ := mem_getD.mp h2.1
    exact ⟨h2.1, h2.2 t ht e.symm⟩
  · rintro ⟨h1, h2⟩
    obtain ⟨t, ht, e⟩ := mem_getD.mp h1
    obtain ⟨X, hX, hX32⟩ := hat t ht
    rw [hX] at e
    subst e
    exact ⟨X, hX32, (kpOut_iff S l X hat _ (Nat.le_refl _)).mpr ⟨h1, fun t _ _ a ha => h2 a ha⟩, rfl⟩
theorem unsS_asc (S : Int → Int → Bool) (l : List Int) : AscI (unsS S l) := by
  unfold unsS
  split
  · exact lstTo_asc _ _
  · exact List.Pairwise.nil
theorem and_swap (x y : Int) : bits .and .i64 x y = bits .and .i64 y x := by rw [bits_and, bits_and, BitVec.and_comm]
theorem maxS_eq (l : List Int) : unsS supS l = maxS l := by
  cases hs : setsOk l with
  | false => unfold unsS maxS; rw [hs]; rfl
  | true =>
    obtain ⟨-, hat⟩ := setsOk_at hs
    refine ascI_unique _ _ (unsS_asc _ _) (by unfold maxS; rw [if_pos hs]; exact mxTo_asc _ _) fun y => ?_
    rw [unsS_mem supS l hs]
    unfold maxS
    rw [if_pos hs, mxTo_mem]
    have key : ∀ X : Nat, X < 32 → ((∀ a, a < l.length → (l.getD a 0 != (X : Int) && supS (l.getD a 0) (X : Int)) = false) ↔ topK l (X : Int) l.length = true) := fun X hX => by
      rw [topK_iff]
      refine ⟨fun h a ha => ?_, fun h a ha => ?_⟩
      · have := h a ha
        clear h hat
        unfold supS at this
        rw [partZ_eq _ _ (by omega) (by omega)] at this
        cases e1 : (l.getD a 0 == (X : Int)) <;> cases e2 : (bits .and .i64 (X : Int) (l.getD a 0) == (X : Int)) <;> simp_all
      · have := h a ha
        clear h hat
        unfold supS
        rw [partZ_eq _ _ (by omega) (by omega)]
        cases e1 : (l.getD a 0 == (X : Int)) <;> cases e2 : (bits .and .i64 (X : Int) (l.getD a 0) == (X : Int)) <;> simp_all
    constructor
    · rintro ⟨h1, h2⟩
      obtain ⟨t, ht, e⟩ := mem_getD.mp h1
      obtain ⟨X, hX, hX32⟩ := hat t ht
      refine ⟨t, ht, e, ?_⟩
      rw [e, hX] at h2 ⊢
      exact (key X hX32).mp h2
    · rintro ⟨t, ht, e, h⟩
      obtain ⟨X, hX, hX32⟩ := hat t ht
      refine ⟨mem_getD.mpr ⟨t, ht, e⟩, ?_⟩
      rw [e, hX] at h ⊢
      exact (key X hX32).mpr h
theorem minS_eq (l : List Int) : unsS subS l = minS l := by
  cases hs : setsOk l with
  | false => unfold unsS minS; rw [hs]; rfl
  | true =>
    obtain ⟨-, hat⟩ := setsOk_at hs
    refine ascI_unique _ _ (unsS_asc _ _) (by unfold minS; rw [if_pos hs]; exact mnTo_asc _ _) fun y => ?_
    rw [unsS_mem subS l hs]
    unfold minS
    rw [if_pos hs, mnTo_mem]
    have key : ∀ X : Nat, X < 32 → ((∀ a, a < l.length → (l.getD a 0 != (X : Int) && subS (l.getD a 0) (X : Int)) = false) ↔ lowK l (X : Int) l.length = true) := fun X hX => by
      rw [lowK_iff]
      refine ⟨fun h a ha => ?_, fun h a ha => ?_⟩
      · have := h a ha
        obtain ⟨Z, hZ, hZ32⟩ := hat a ha
        unfold subS at this
        rw [hZ] at this ⊢
        rw [partZ_eq _ _ (by omega) (by omega), and_swap] at this
        cases e1 : ((Z : Int) == (X : Int)) <;> cases e2 : (bits .and .i64 (X : Int) (Z : Int) == (Z : Int)) <;> simp_all
      · have := h a ha
        obtain ⟨Z, hZ, hZ32⟩ := hat a ha
        unfold subS
        rw [hZ] at this ⊢
        rw [partZ_eq _ _ (by omega) (by omega), and_swap]
        cases e1 : ((Z : Int) == (X : Int)) <;> cases e2 : (bits .and .i64 (X : Int) (Z : Int) == (Z : Int)) <;> simp_all
    constructor
    · rintro ⟨h1, h2⟩
      obtain ⟨t, ht, e⟩ := mem_getD.mp h1
      obtain ⟨X, hX, hX32⟩ := hat t ht
      refine ⟨t, ht, e, ?_⟩
      rw [e, hX] at h2 ⊢
      exact (key X hX32).mp h2
    · rintro ⟨t, ht, e, h⟩
      obtain ⟨X, hX, hX32⟩ := hat t ht
      refine ⟨mem_getD.mpr ⟨t, ht, e⟩, ?_⟩
      rw [e, hX] at h ⊢
      exact (key X hX32).mpr h
theorem difB_fin : ∀ (Q : Fin 5) (s : Fin 32), difB Q.val (s.val : Int) = !bitB s.val Q.val := by decide +kernel
theorem difV_fin : ∀ (C : Fin 6) (Q : Fin 5) (s : Fin 32), Q.val < C.val → difV C.val Q.val (s.val : Int) = (dfN C.val Q.val s.val : Int) := by decide +kernel
theorem difTo_mem (C Q : Nat) (l : List Int) (y : Int) : ∀ i, (y ∈ difTo C Q l i ↔ ∃ t, t < i ∧ difB Q (l.getD t 0) = true ∧ y = difV C Q (l.getD t 0))
  | 0 => by simp [difTo]
  | i + 1 => by
    have ih := difTo_mem C Q l y i
    unfold difTo
    split
    · rename_i h
      rw [put4_mem, ih]
      constructor
      · rintro (rfl | ⟨t, h1, h2, h3⟩)
        · exact ⟨i, by omega, h, rfl⟩
        · exact ⟨t, by omega, h2, h3⟩
      · rintro ⟨t, h1, h2, h3⟩
        by_cases e : t = i
        · subst e; exact Or.inl h3
        · exact Or.inr ⟨t, by omega, h2, h3⟩
    · rename_i h
      rw [ih]
      constructor
      · rintro ⟨t, h1, h2, h3⟩
        exact ⟨t, by omega, h2, h3⟩
      · rintro ⟨t, h1, h2, h3⟩
        by_cases e : t = i
        · subst e; exact (h h2).elim
        · exact ⟨t, by omega, h2, h3⟩
theorem difTo_asc (C Q : Nat) (l : List Int) : ∀ i, AscI (difTo C Q l i)
  | 0 => List.Pairwise.nil
  | i + 1 => by
    unfold difTo
    split
    · exact put4_asc (difTo_asc C Q l i) _
    · exact difTo_asc C Q l i
theorem dfTo_iff (C Q : Nat) (g : Nat → Bool) (j : Nat) : ∀ n, (dfTo C Q g n j = true ↔ ∃ s, s < n ∧ (g s && !bitB s Q) = true ∧ j = dfN C Q s)
  | 0 => by simp [dfTo, noF]
  | n + 1 => by
    have ih := dfTo_iff C Q g j n
    unfold dfTo
    split
    · rename_i h
      unfold setF
      split
      · rename_i hj
        simp only [true_iff]
        exact ⟨n, by omega, h, hj⟩
      · rename_i hj
        rw [ih]
        constructor
        · rintro ⟨s, h1, h2, h3⟩
          exact ⟨s, by omega, h2, h3⟩
        · rintro ⟨s, h1, h2, h3⟩
          by_cases e : s = n
          · subst e; exact (hj h3).elim
          · exact ⟨s, by omega, h2, h3⟩
    · rename_i h
      rw [ih]
      constructor
      · rintro ⟨s, h1, h2, h3⟩
        exact ⟨s, by omega, h2, h3⟩
      · rintro ⟨s, h1, h2, h3⟩
        by_cases e : s = n
        · subst e; exact (h h2).elim
        · exact ⟨s, by omega, h2, h3⟩
theorem difS_eq (c : Int) (ll : List (List Int)) (m q : Int) : dfS c ll m q = difS c ll m q := by
  unfold dfS difS
  by_cases hq : 0 ≤ q ∧ q ≤ c - 1
  · rw [if_pos hq]
    cases hT : isT c ll with
    | false =>
      have e1 : colB c ll q = false := by unfold colB; rw [hT]; rfl
      have e2 : agrS c ll m = [] := by unfold agrS fineT; rw [hT]; rfl
      rw [e1, e2]; rfl
    | true =>
      have e1 : colB c ll q = true := by unfold colB; rw [hT, decide_eq_true hq]; rfl
      rw [if_pos e1]
      obtain ⟨h1, h5, -⟩ := isT_bd hT
      refine ascI_unique _ _ (lstTo_asc _ _) (difTo_asc _ _ _ _) fun y => ?_
      rw [lstF_mem, difTo_mem]
      have hC : c.toNat < 6 := by omega
      have hQ : q.toNat < 5 := by omega
      have hQC : q.toNat < c.toNat := by omega
      constructor
      · rintro ⟨j, -, h2, h3⟩
        obtain ⟨s, hs, h4, h6⟩ := (dfTo_iff _ _ _ _ _).mp h2
        rw [Bool.and_eq_true] at h4
        obtain ⟨t, ht, e⟩ := mem_getD.mp ((agF_mem c ll m (s : Int)).mpr ⟨s, hs, h4.1, rfl⟩)
        refine ⟨t, ht, ?_, ?_⟩
        · rw [← e]
          exact (difB_fin ⟨q.toNat, hQ⟩ ⟨s, hs⟩).trans h4.2
        · rw [← e, h3, h6]
          exact (difV_fin ⟨c.toNat, hC⟩ ⟨q.toNat, hQ⟩ ⟨s, hs⟩ hQC).symm
      · rintro ⟨t, ht, h2, h3⟩
        obtain ⟨s, hs, h4, h6⟩ := (agF_mem c ll m ((agrS c ll m).getD t 0)).mp (mem_getD.mpr ⟨t, ht, rfl⟩)
        rw [h6] at h2 h3
        have h7 := difB_fin ⟨q.toNat, hQ⟩ ⟨s, hs⟩
        have h8 := difV_fin ⟨c.toNat, hC⟩ ⟨q.toNat, hQ⟩ ⟨s, hs⟩ hQC
        simp only at h7 h8
        rw [h2] at h7
        rw [h8] at h3
        refine ⟨dfN c.toNat q.toNat s, (dfN_eq c.toNat q.toNat s (by omega) hQC hs).2, (dfTo_iff _ _ _ _ _).mpr ⟨s, hs, by rw [Bool.and_eq_true]; exact ⟨h4, h7.symm⟩, rfl⟩, h3⟩
  · rw [if_neg hq]
    have e1 : colB c ll q = false := by unfold colB; rw [decide_eq_false hq]; simp
    rw [e1]; rfl
theorem implMaximalM_any (v : Value) (l : List Int) (w : World) (hr : ReadI w v l) (hl : l.length ≤ 1048576) (hbd : I64s l) :
    Calls Try.prog 55 #[v] w (RetI (maxS l) w) := by
  rw [← maxS_eq]; exact implMaximal_any v l w hr hl hbd
theorem implMinimalM_any (v : Value) (l : List Int) (w : World) (hr : ReadI w v l) (hl : l.length ≤ 1048576) (hbd : I64s l) :
    Calls Try.prog 59 #[v] w (RetI (minS l) w) := by
  rw [← minS_eq]; exact implMinimal_any v l w hr hl hbd
theorem unsS_len (S : Int → Int → Bool) (l : List Int) : (unsS S l).length ≤ 32 := by
  unfold unsS; split
  · exact lstTo_len _ _
  · simp
theorem maxS_len (l : List Int) : (maxS l).length ≤ 32 := by rw [← maxS_eq]; exact unsS_len _ _
theorem minS_len (l : List Int) : (minS l).length ≤ 32 := by rw [← minS_eq]; exact unsS_len _ _
theorem difS_len (c : Int) (ll : List (List Int)) (m q : Int) : (difS c ll m q).length ≤ 32 := by
  rw [← difS_eq]; unfold dfS; split
  · exact lstTo_len _ _
  · simp
end Go.Proofs.Ytepokhdjglnlnaa
