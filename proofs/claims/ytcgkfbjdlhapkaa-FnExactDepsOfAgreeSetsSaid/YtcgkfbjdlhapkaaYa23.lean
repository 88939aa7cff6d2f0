/- Texts of this claim, merged: AgrQ, ClK, SeaA. Conditions: as stated. -/
import Derived.Test.YtcgkfbjdlhapkaaYa22
import Derived.Test.YtcgkfbjdlhapkaaYa12
namespace Go.Proofs.Ytcgkfbjdlhapkaa
open Go.RowKit

theorem kpIn_iff (S : Int → Int → Bool) (l : List Int) (y : Int) (f : Nat → Bool) (j : Nat) : ∀ n, (kpIn S l y f n j = true ↔ f j = true ∧ (j = y.toNat → ∀ a, a < n → (l.getD a 0 != y && S (l.getD a 0) y) = false))
  | 0 => by simp [kpIn]
  | n + 1 => by
    have ih := kpIn_iff S l y f j n
    unfold kpIn
    split
    · rename_i h
      unfold setF
      split
      · rename_i hj
        constructor
        · intro e; cases e
        · rintro ⟨-, h2⟩
          have := h2 hj n (by omega)
          rw [h] at this; cases this
      · rename_i hj
        rw [ih]
        constructor
        · rintro ⟨h1, -⟩
          exact ⟨h1, fun e => (hj e).elim⟩
        · rintro ⟨h1, -⟩
          exact ⟨h1, fun e => (hj e).elim⟩
    · rename_i h
      rw [ih]
      constructor
      · rintro ⟨h1, h2⟩
        refine ⟨h1, fun e a ha => ?_⟩
        by_cases e' : a = n
        · subst e'; simpa using h
        · exact h2 e a (by omega)
      · rintro ⟨h1, h2⟩
        exact ⟨h1, fun e a ha => h2 e a (by omega)⟩
theorem kpOut_iff (S : Int → Int → Bool) (l : List Int) (j : Nat) (hat : ∀ i, i < l.length → ∃ X : Nat, l.getD i 0 = (X : Int) ∧ X < 32) : ∀ i, i ≤ l.length → (kpOut S l i j = true ↔ (j : Int) ∈ l ∧ ∀ t, t < i → l.getD t 0 = (j : Int) → ∀ a, a < l.length → (l.getD a 0 != (j : Int) && S (l.getD a 0) (j : Int)) = false)
  | 0, _ => by simp [kpOut, memF]
  | i + 1, hi => by
    have ih := kpOut_iff S l j hat i (by omega)
    unfold kpOut
    rw [kpIn_iff, ih]
    obtain ⟨X, hX, -⟩ := hat i (by omega)
    constructor
    · rintro ⟨⟨h1, h2⟩, h3⟩
      refine ⟨h1, fun t ht e a ha => ?_⟩
      by_cases e' : t = i
      · subst e'
        have := h3 (by rw [e]; omega) a ha
        rw [e] at this; exact this
      · exact h2 t (by omega) e a ha
    · rintro ⟨h1, h2⟩
      refine ⟨⟨h1, fun t ht e a ha => h2 t (by omega) e a ha⟩, fun e a ha => ?_⟩
      have e2 : l.getD i 0 = (j : Int) := by rw [hX] at e ⊢; omega
      have := h2 i (by omega) e2 a ha
      rw [e2]; exact this
theorem unsS_mem (S : Int → Int → Bool) (l : List Int) (hs : setsOk l = true) (y : Int) : y ∈ unsS S l ↔ y ∈ l ∧ ∀ a, a < l.length → (l.getD a 0 != y && S (l.getD a 0) y) = false := by
  obtain ⟨-, hat⟩ := setsOk_at hs
  unfold unsS
  rw [if_pos hs, lstF_mem]
  constructor
  · rintro ⟨j, h1, h2, rfl⟩
    rw [kpOut_iff S l j hat _ (Nat.le_refl _)] at h2
    obtain ⟨t, ht, e⟩ := mem_getD.mp h2.1
    exact ⟨h2.1, h2.2 t ht e.symm⟩
  · rintro ⟨h1, h2⟩
    obtain ⟨t, ht, e⟩ := mem_getD.mp h1
    obtain ⟨X, hX, hX32⟩ := hat t ht
    rw [hX] at e
    subst e
    exact ⟨X, hX32, (kpOut_iff S l X hat _ (Nat.le_refl _)).mpr ⟨h1, fun t _ _ a ha => h2 a ha⟩, rfl⟩
theorem unsS_asc (S : Int → Int → Bool) (l : List Int) : AscI (unsS S l) := by
  unfold unsS
  split
  · exact lstTo_asc _ _
  · exact List.Pairwise.nil
theorem and_swap (x y : Int) : bits .and .i64 x y = bits .and .i64 y x := by rw [bits_and, bits_and, BitVec.and_comm]
theorem maxS_eq (l : List Int) : unsS supS l = maxS l := by
  cases hs : setsOk l with
  | false => unfold unsS maxS; rw [hs]; rfl
  | true =>
    obtain ⟨-, hat⟩ := setsOk_at hs
    refine ascI_unique _ _ (unsS_asc _ _) (by unfold maxS; rw [if_pos hs]; exact mxTo_asc _ _) fun y => ?_
    rw [unsS_mem supS l hs]
    unfold maxS
    rw [if_pos hs, mxTo_mem]
    have key : ∀ X : Nat, X < 32 → ((∀ a, a < l.length → (l.getD a 0 != (X : Int) && supS (l.getD a 0) (X : Int)) = false) ↔ topK l (X : Int) l.length = true) := fun X hX => by
      rw [topK_iff]
      refine ⟨fun h a ha => ?_, fun h a ha => ?_⟩
      · have := h a ha
        clear h hat
        unfold supS at this
        rw [partZ_eq _ _ (by omega) (by omega)] at this
        cases e1 : (l.getD a 0 == (X : Int)) <;> cases e2 : (bits .and .i64 (X : Int) (l.getD a 0) == (X : Int)) <;> simp_all
      · have := h a ha
        clear h hat
        unfold supS
        rw [partZ_eq _ _ (by omega) (by omega)]
        cases e1 : (l.getD a 0 == (X : Int)) <;> cases e2 : (bits .and .i64 (X : Int) (l.getD a 0) == (X : Int)) <;> simp_all
    constructor
    · rintro ⟨h1, h2⟩
      obtain ⟨t, ht, e⟩ := mem_getD.mp h1
      obtain ⟨X, hX, hX32⟩ := hat t ht
      refine ⟨t, ht, e, ?_⟩
      rw [e, hX] at h2 ⊢
      exact (key X hX32).mp h2
    · rintro ⟨t, ht, e, h⟩
      obtain ⟨X, hX, hX32⟩ := hat t ht
      refine ⟨mem_getD.mpr ⟨t, ht, e⟩, ?_⟩
      rw [e, hX] at h ⊢
      exact (key X hX32).mpr h
theorem minS_eq (l : List Int) : unsS subS l = minS l := by
  cases hs : setsOk l with
  | false => unfold unsS minS; rw [hs]; rfl
  | true =>
    obtain ⟨-, hat⟩ := setsOk_at hs
    refine ascI_unique _ _ (unsS_asc _ _) (by unfold minS; rw [if_pos hs]; exact mnTo_asc _ _) fun y => ?_
    rw [unsS_mem subS l hs]
    unfold minS
    rw [if_pos hs, mnTo_mem]
    have key : ∀ X : Nat, X < 32 → ((∀ a, a < l.length → (l.getD a 0 != (X : Int) && subS (l.getD a 0) (X : Int)) = false) ↔ lowK l (X : Int) l.length = true) := fun X hX => by
      rw [lowK_iff]
      refine ⟨fun h a ha => ?_, fun h a ha => ?_⟩
      · have := h a ha
        obtain ⟨Z, hZ, hZ32⟩ := hat a ha
        unfold subS at this
        rw [hZ] at this ⊢
        rw [partZ_eq _ _ (by omega) (by omega), and_swap] at this
        cases e1 : ((Z : Int) == (X : Int)) <;> cases e2 : (bits .and .i64 (X : Int) (Z : Int) == (Z : Int)) <;> simp_all
      · have := h a ha
        obtain ⟨Z, hZ, hZ32⟩ := hat a ha
        unfold subS
        rw [hZ] at this ⊢
        rw [partZ_eq _ _ (by omega) (by omega), and_swap]
        cases e1 : ((Z : Int) == (X : Int)) <;> cases e2 : (bits .and .i64 (X : Int) (Z : Int) == (Z : Int)) <;> simp_all
    constructor
    · rintro ⟨h1, h2⟩
      obtain ⟨t, ht, e⟩ := mem_getD.mp h1
      obtain ⟨X, hX, hX32⟩ := hat t ht
      refine ⟨t, ht, e, ?_⟩
      rw [e, hX] at h2 ⊢
      exact (key X hX32).mp h2
    · rintro ⟨t, ht, e, h⟩
      obtain ⟨X, hX, hX32⟩ := hat t ht
      refine ⟨mem_getD.mpr ⟨t, ht, e⟩, ?_⟩
      rw [e, hX] at h ⊢
      exact (key X hX32).mpr h
theorem difB_fin : ∀ (Q : Fin 5) (s : Fin 32), difB Q.val (s.val : Int) = !bitB s.val Q.val := by decide +kernel
theorem difV_fin : ∀ (C : Fin 6) (Q : Fin 5) (s : Fin 32), Q.val < C.val → difV C.val Q.val (s.val : Int) = (dfN C.val Q.val s.val : Int) := by decide +kernel
theorem difTo_mem (C Q : Nat) (l : List Int) (y : Int) : ∀ i, (y ∈ difTo C Q l i ↔ ∃ t, t < i ∧ difB Q (l.getD t 0) = true ∧ y = difV C Q (l.getD t 0))
  | 0 => by simp [difTo]
  | i + 1 => by
    have ih := difTo_mem C Q l y i
    unfold difTo
    split
    · rename_i h
      rw [put4_mem, ih]
      constructor
      · rintro (rfl | ⟨t, h1, h2, h3⟩)
        · exact ⟨i, by omega, h, rfl⟩
        · exact ⟨t, by omega, h2, h3⟩
      · rintro ⟨t, h1, h2, h3⟩
        by_cases e : t = i
        · subst e; exact Or.inl h3
        · exact Or.inr ⟨t, by omega, h2, h3⟩
    · rename_i h
      rw [ih]
      constructor
      · rintro ⟨t, h1, h2, h3⟩
        exact ⟨t, by omega, h2, h3⟩
      · rintro ⟨t, h1, h2, h3⟩
        by_cases e : t = i
        · subst e; exact (h h2).elim
        · exact ⟨t, by omega, h2, h3⟩
theorem difTo_asc (C Q : Nat) (l : List Int) : ∀ i, AscI (difTo C Q l i)
  | 0 => List.Pairwise.nil
  | i + 1 => by
    unfold difTo
    split
    · exact put4_asc (difTo_asc C Q l i) _
    · exact difTo_asc C Q l i
theorem dfTo_iff (C Q : Nat) (g : Nat → Bool) (j : Nat) : ∀ n, (dfTo C Q g n j = true ↔ ∃ s, s < n ∧ (g s && !bitB s Q) = true ∧ j = dfN C Q s)
  | 0 => by simp [dfTo, noF]
  | n + 1 => by
    have ih := dfTo_iff C Q g j n
    unfold dfTo
    split
    · rename_i h
      unfold setF
      split
      · rename_i hj
        simp only [true_iff]
        exact ⟨n, by omega, h, hj⟩
      · rename_i hj
        rw [ih]
        constructor
        · rintro ⟨s, h1, h2, h3⟩
          exact ⟨s, by omega, h2, h3⟩
        · rintro ⟨s, h1, h2, h3⟩
          by_cases e : s = n
          · subst e; exact (hj h3).elim
          · exact ⟨s, by omega, h2, h3⟩
    · rename_i h
      rw [ih]
      constructor
      · rintro ⟨s, h1, h2, h3⟩
        exact ⟨s, by omega, h2, h3⟩
      · rintro ⟨s, h1, h2, h3⟩
        by_cases e : s = n
        · subst e; exact (h h2).elim
        · exact ⟨s, by omega, h2, h3⟩
theorem difS_eq (c : Int) (ll : List (List Int)) (m q : Int) : dfS c ll m q = difS c ll m q := by
  unfold dfS difS
  by_cases hq : 0 ≤ q ∧ q ≤ c - 1
  · rw [if_pos hq]
    cases hT : isT c ll with
    | false =>
      have e1 : colB c ll q = false := by unfold colB; rw [hT]; rfl
      have e2 : agrS c ll m = [] := by unfold agrS fineT; rw [hT]; rfl
      rw [e1, e2]; rfl
    | true =>
      have e1 : colB c ll q = true := by unfold colB; rw [hT, decide_eq_true hq]; rfl
      rw [if_pos e1]
      obtain ⟨h1, h5, -⟩ := isT_bd hT
      refine ascI_unique _ _ (lstTo_asc _ _) (difTo_asc _ _ _ _) fun y => ?_
      rw [lstF_mem, difTo_mem]
      have hC : c.toNat < 6 := by omega
      have hQ : q.toNat < 5 := by omega
      have hQC : q.toNat < c.toNat := by omega
      constructor
      · rintro ⟨j, -, h2, h3⟩
        obtain ⟨s, hs, h4, h6⟩ := (dfTo_iff _ _ _ _ _).mp h2
        rw [Bool.and_eq_true] at h4
        obtain ⟨t, ht, e⟩ := mem_getD.mp ((agF_mem c ll m (s : Int)).mpr ⟨s, hs, h4.1, rfl⟩)
        refine ⟨t, ht, ?_, ?_⟩
        · rw [← e]
          exact (difB_fin ⟨q.toNat, hQ⟩ ⟨s, hs⟩).trans h4.2
        · rw [← e, h3, h6]
          exact (difV_fin ⟨c.toNat, hC⟩ ⟨q.toNat, hQ⟩ ⟨s, hs⟩ hQC).symm
      · rintro ⟨t, ht, h2, h3⟩
        obtain ⟨s, hs, h4, h6⟩ := (agF_mem c ll m ((agrS c ll m).getD t 0)).mp (mem_getD.mpr ⟨t, ht, rfl⟩)
        rw [h6] at h2 h3
        have h7 := difB_fin ⟨q.toNat, hQ⟩ ⟨s, hs⟩
        have h8 := difV_fin ⟨c.toNat, hC⟩ ⟨q.toNat, hQ⟩ ⟨s, hs⟩ hQC
        simp only at h7 h8
        rw [h2] at h7
        rw [h8] at h3
        refine ⟨dfN c.toNat q.toNat s, (dfN_eq c.toNat q.toNat s (by omega) hQC hs).2, (dfTo_iff _ _ _ _ _).mpr ⟨s, hs, by rw [Bool.and_eq_true]; exact ⟨h4, h7.symm⟩, rfl⟩, h3⟩
  · rw [if_neg hq]
    have e1 : colB c ll q = false := by unfold colB; rw [decide_eq_false hq]; simp
    rw [e1]; rfl
theorem implMaximalM_any (v : Value) (l : List Int) (w : World) (hr : ReadI w v l) (hl : l.length ≤ 1048576) (hbd : I64s l) :
    Calls Try.prog 65 #[v] w (RetI (maxS l) w) := by
  rw [← maxS_eq]; exact implMaximal_any v l w hr hl hbd
theorem implMinimalM_any (v : Value) (l : List Int) (w : World) (hr : ReadI w v l) (hl : l.length ≤ 1048576) (hbd : I64s l) :
    Calls Try.prog 84 #[v] w (RetI (minS l) w) := by
  rw [← minS_eq]; exact implMinimal_any v l w hr hl hbd
theorem unsS_len (S : Int → Int → Bool) (l : List Int) : (unsS S l).length ≤ 32 := by
  unfold unsS; split
  · exact lstTo_len _ _
  · simp
theorem maxS_len (l : List Int) : (maxS l).length ≤ 32 := by rw [← maxS_eq]; exact unsS_len _ _
theorem minS_len (l : List Int) : (minS l).length ≤ 32 := by rw [← minS_eq]; exact unsS_len _ _
theorem difS_len (c : Int) (ll : List (List Int)) (m q : Int) : (difS c ll m q).length ≤ 32 := by
  rw [← difS_eq]; unfold dfS; split
  · exact lstTo_len _ _
  · simp
end Go.Proofs.Ytcgkfbjdlhapkaa
namespace Go.Proofs.Ytcgkfbjdlhapkaa
open Go.RowKit

def spn (l : List (Int × Int)) (C x : Nat) : Bool := clo l x == 2 ^ C - 1
def koC (n : Int) (l : List (Int × Int)) : List Int := if arD n l = true then brdTo (spn l n.toNat) (2 ^ n.toNat) else []
def koL (n : Int) (l : List (Int × Int)) : List Int := minS (koC n l)
def orL (l : List Int) : Nat → Int
  | 0 => 0
  | i + 1 => bits .or .i64 (orL l i) (l.getD i 0)
def prZ (n : Int) (l : List (Int × Int)) : Int := orL (koL n l) (koL n l).length
theorem koL_len (n : Int) (l : List (Int × Int)) : (koL n l).length ≤ 32 := minS_len _
section
set_option maxRecDepth 20000
set_option maxHeartbeats 3200000
theorem keysOf11_any (v : Value) (n : Int) (l : List (Int × Int)) (w : World) (hr : ReadD w v l) (hl : l.length ≤ 1048576) :
    Calls Try.prog 12 #[.int .i64 n, v] w (RetI (koL n l) w) := by
  obtain ⟨i0, hi, hz0, hz1, hz2⟩ := info_parts info3i
  have HI : Hid (_ ∧ _ ∧ _ ∧ _) := Lib.hid ⟨hi, hz0, hz1, hz2⟩
  clear hi hz0 hz1 hz2
  have HAD := Lib.hid (fun w' (hb : Below w.heap.size w w') => areDeps10_any v n l w' (hr.kept hb) hl)
  have ho0 : OwnI (w.alloc (.cells #[] 3)) w.heap.size (.slice (some ⟨w.heap.size, 0, none⟩) 0 0) [] := OwnI.made (World.ownsRow_made w #[] 0 (Nat.le_refl _) (by unfold maxLen; omega) rfl)
  have hb0 := (Below.refl w.heap.size w).alloc (Nat.le_refl _) (.cells #[] 3)
  cases ha : arD n l with
  | false =>
    rw [ha] at HAD
    have HE : Hid (koL n l = minS []) := Lib.hid (by unfold koL koC; rw [ha]; rfl)
    have HMX := Lib.hid (fun v w' (hr : ReadI w' v []) => minimalSets_any v [] w' hr (by simp))
    rw [← HE.out] at HMX
    obtain ⟨a, cap, rfl, -⟩ := hr
    clear ha
    go_enter Try.func12, Try.ntmps12
    go_wp2_with fail
    go_loopw [5, 6] (fun ov xv wr => ov = .slice (some ⟨w.heap.size, 0, none⟩) 0 0 ∧ xv = .int .i64 0 ∧ wr = w.alloc (.cells #[] 3)) (fun _ _ _ => 0)
    case atStart => exact ⟨rfl, rfl, rfl⟩
    case round =>
      obtain ⟨rfl, rfl, rfl⟩ := hrel
      have HO := Lib.hid ho0
      have HB := Lib.hid hb0
      have HQ := Lib.hid (HAD.out _ hb0)
      clear ho0 hb0
      go_wp2_with fail
      refine HQ.out.mono ?_
      rintro e w2 ⟨rfl, b2⟩
      have HO2 := Lib.hid (HO.out.kept b2 (fun k hk => (OwnI.lt HO.out k hk).2))
      have HB2 := Lib.hid (HB.out.trans (b2.mono HB.out.size))
      clear b2
      go_wp2_with fail
      refine (HMX.out _ _ HO2.out.read).mono ?_
      rintro e w4 ⟨v4, rfl, o4, b4⟩
      have hb5 := HB2.out.trans (b4.mono HB2.out.size)
      have o5 := o4.base HB2.out.size
      go_wp2_with fail
      go_ret
      exact ⟨_, rfl, o5, hb5⟩
  | true =>
    rw [ha] at HAD
    obtain ⟨C, rfl, hC1, hC5, -, hd⟩ := arD_n ha
    have HE : Hid (koL (C : Int) l = minS (brdTo (spn l C) (2 ^ C))) := Lib.hid (by unfold koL koC; rw [ha]; rfl)
    have HC := Lib.hid (fun (x : Nat) (hx : x < 32) w' (hb : Below w.heap.size w w') => close10_any C hC5 v l hd x hx w' (hr.kept hb) hl)
    have HBS : Hid (∀ x : Nat, brdTo (spn l C) (x + 1) = if spn l C x = true then brdTo (spn l C) x ++ [(x : Int)] else brdTo (spn l C) x) := Lib.hid (fun _ => rfl)
    have HBL := Lib.hid (brd_len (spn l C))
    obtain ⟨M, hM, hM31, hMZ⟩ : ∃ M : Nat, M + 1 = 2 ^ C ∧ M ≤ 31 ∧ ((2 : Int) ^ C - 1) = (M : Int) := by
      have h32 := two5 hC5
      have hp : 0 < 2 ^ C := Nat.pow_pos (by omega)
      have hz : ((2 ^ C : Nat) : Int) = (2 : Int) ^ C := by rw [Int.natCast_pow]; rfl
      exact ⟨2 ^ C - 1, by omega, by omega, by omega⟩
    have HAL : Hid (∀ w', Calls Try.prog 37 #[.int .i64 (C : Int)] w' fun e w'' => e = .returned (.int .i64 (M : Int)) ∧ w' = w'') := Lib.hid (fun w' => by have h := all_any (C : Int) w' (by omega) (by omega); rw [show ((C : Int)).toNat = C from rfl, hMZ] at h; exact h)
    rw [← hM] at HE
    have HMX := Lib.hid (fun v w' (hr : ReadI w' v (brdTo (spn l C) (M + 1))) hl => minimalSets_any v _ w' hr hl)
    rw [← HE.out] at HMX
    have HSP : Hid (∀ x, spn l C x = (clo l x == M)) := Lib.hid (fun x => by unfold spn; rw [← hM]; rfl)
    have HO := Lib.hid ho0
    have HB := Lib.hid hb0
    obtain ⟨a, cap, rfl, -⟩ := hr
    clear ha hd ho0 hb0 hM hMZ
    go_enter Try.func12, Try.ntmps12
    go_wp2_with fail
    go_loopw [5, 6] (fun ov xv wr => ∃ x : Nat, x ≤ M + 1 ∧ xv = .int .i64 (x : Int) ∧ Hid (OwnI wr w.heap.size ov (brdTo (spn l C) x)) ∧ Hid (Below w.heap.size w wr)) (fun _ xv _ => M + 1 - (intOf xv).toNat)
    case atStart => exact ⟨0, by omega, rfl, HO, HB⟩
    case round =>
      clear HO HB
      obtain ⟨x, hx, rfl, HO, HB⟩ := hrel
      obtain ⟨w3, hw⟩ : ∃ w', w' = wr := ⟨_, rfl⟩
      rw [← hw] at HO HB ⊢
      clear hw
      have HQ := Lib.hid (HAD.out _ HB.out)
      have hql := HBL.out x
      have hbs := HBS.out x
      obtain ⟨q, hq⟩ : ∃ q, q = brdTo (spn l C) x := ⟨_, rfl⟩
      rw [← hq] at HO hql hbs
      have z0 : (0 : Int) ≤ (x : Int) := by omega
      by_cases hlt : x ≤ M
      · have z1 : (x : Int) ≤ (M : Int) := by omega
        have hcl := HSP.out x
        have HCX := Lib.hid (HC.out x (by omega))
        obtain ⟨y, hy⟩ : ∃ y, y = clo l x := ⟨_, rfl⟩
        rw [← hy] at hcl HCX
        have hyz : ((y : Int) == (M : Int)) = (y == M) := by rw [Bool.eq_iff_iff, beq_iff_eq, beq_iff_eq]; omega
        rw [← hcl] at hyz
        have HBSX := Lib.hid hbs
        clear hq hy hcl hbs
        go_wp2_with fail
        refine HQ.out.mono ?_
        rintro e w4 ⟨rfl, b4⟩
        have HO4 := Lib.hid (HO.out.kept b4 (fun k hk => (OwnI.lt HO.out k hk).2))
        have HB4 := Lib.hid (HB.out.trans (b4.mono HB.out.size))
        clear b4
        go_wp2_with fail
        refine (HAL.out _).mono ?_
        rintro e w' ⟨rfl, rfl⟩
        go_wp2_with fail
        refine (HCX.out _ HB4.out).mono ?_
        rintro e w5 ⟨rfl, b5⟩
        have HO5 := Lib.hid (HO4.out.kept b5 (fun k hk => (OwnI.lt HO4.out k hk).2))
        have HB5 := Lib.hid (HB4.out.trans (b5.mono HB4.out.size))
        clear b5
        go_wp2_with fail
        refine (HAL.out _).mono ?_
        rintro e w' ⟨rfl, rfl⟩
        cases hc : spn l C x with
        | true =>
          rw [hc] at hyz HBSX
          have ho6 := HO5.out
          clear hc
          go_wp2_with (at_builtin; refine wpList_append_own _ rfl _ _ 24 rfl w.heap.size 3 i0 (.int .i64 0) 1 8 Try.underlying24 HI.out.1 HI.out.2.1 HI.out.2.2.1 HI.out.2.2.2 rfl (by decide) _ _ _ rfl (World.ownsRow.alloc ho6 _) ⟨w5.heap.size, 0, none⟩ 1 1 [.int .i64 (x : Int)] rfl rfl (cell_one_new _ _ _) (one_i64 _) (by unfold maxLen; omega) (by omega) (by have := HB5.out.size; simp; omega) ?_; intro v7 w7 hown7 hgrow7 _; have HO7 := Lib.hid (OwnI.snoc hown7); have HB7 := Lib.hid ((HB5.out.alloc HB5.out.size (.cells #[.int .i64 (x : Int)] 3)).grown hgrow7 (by rw [World.size_alloc]; have := HB5.out.size; omega) (fun k hk => (OwnI.lt HO5.out k hk).1)); clear hown7 hgrow7 ho6)
          go_roundw
          case rel => exact ⟨x + 1, by omega, by go_num, by rw [HBSX.out, if_pos (by first | trivial | rfl)]; exact HO7, HB7⟩
          case measure => simp [intOf]; omega
        | false =>
          rw [hc] at hyz HBSX
          clear hc
          go_wp2_with fail
          go_roundw
          case rel => exact ⟨x + 1, by omega, by go_num, by rw [HBSX.out, if_neg (by decide)]; exact HO5, HB5⟩
          case measure => simp [intOf]; omega
      · obtain rfl : x = M + 1 := by omega
        rw [hq] at HO
        have zM : ¬ (((M + 1 : Nat) : Int) ≤ (M : Int)) := by omega
        clear hq hbs
        have hqL := HBL.out (M + 1)
        go_wp2_with fail
        refine HQ.out.mono ?_
        rintro e w4 ⟨rfl, b4⟩
        have HO4 := Lib.hid (HO.out.kept b4 (fun k hk => (OwnI.lt HO.out k hk).2))
        have HB4 := Lib.hid (HB.out.trans (b4.mono HB.out.size))
        clear b4
        go_wp2_with fail
        refine (HAL.out _).mono ?_
        rintro e w' ⟨rfl, rfl⟩
        go_wp2_with fail
        refine (HMX.out _ _ HO4.out.read (by omega)).mono ?_
        rintro e w5 ⟨v5, rfl, o5, b5⟩
        have hb6 := HB4.out.trans (b5.mono HB4.out.size)
        have o6 := o5.base HB4.out.size
        go_wp2_with fail
        go_ret
        exact ⟨_, rfl, o6, hb6⟩
theorem primeColumns11_any (v : Value) (n : Int) (l : List (Int × Int)) (w : World) (hr : ReadD w v l) (hl : l.length ≤ 1048576) :
    Calls Try.prog 20 #[.int .i64 n, v] w fun e w' => e = .returned (.int .i64 (prZ n l)) ∧ Below w.heap.size w w' := by
  have HK := Lib.hid (keysOf11_any v n l w hr hl)
  have HE : Hid (prZ n l = orL (koL n l) (koL n l).length) := Lib.hid rfl
  have hql := koL_len n l
  obtain ⟨q, hq⟩ : ∃ q, q = koL n l := ⟨_, rfl⟩
  rw [← hq] at HK HE hql
  obtain ⟨a, cap, rfl, -⟩ := hr
  clear hq
  go_enter Try.func20, Try.ntmps20
  go_wp2_with fail
  refine HK.out.mono ?_
  rintro e w1 ⟨v1, rfl, o1, b1⟩
  obtain ⟨a1, c1, rfl, hat⟩ := o1.read
  have HAT := Lib.hid hat
  have HB := Lib.hid b1
  clear hat o1 b1
  go_wp2_with fail
  go_loopw [5, 7] (fun xv iv wr => ∃ i : Nat, i ≤ q.length ∧ iv = .int .i64 (i : Int) ∧ xv = .int .i64 (orL q i) ∧ wr = w1) (fun _ iv _ => q.length - (intOf iv).toNat)
  case atStart => exact ⟨0, by omega, rfl, rfl, rfl⟩
  case round =>
    obtain ⟨i, hi, rfl, rfl, rfl⟩ := hrel
    by_cases hlt : i < q.length
    · have hz : ((i : Nat) : Int) < ((q.length : Nat) : Int) := by omega
      have z0 : (0 : Int) ≤ (i : Int) := by omega
      obtain ⟨x0, rfl, hc⟩ := HAT.out i hlt
      have hs : orL q (i + 1) = bits .or .i64 (orL q i) (q.getD i 0) := rfl
      rw [List.getD_eq_getElem?_getD, List.getElem?_eq_getElem hlt, Option.getD_some] at hs
      obtain ⟨y, hy⟩ : ∃ y, y = q[i] := ⟨_, rfl⟩
      obtain ⟨z, hzz⟩ : ∃ z, z = orL q i := ⟨_, rfl⟩
      rw [← hy] at hc hs
      rw [← hzz] at hs ⊢
      have HS := Lib.hid hs
      clear hy hzz hs
      go_wp2_with fail
      go_roundw
      case rel => exact ⟨i + 1, by omega, by go_num, by rw [HS.out], trivial⟩
      case measure => simp [intOf]; omega
    · obtain rfl : i = q.length := by omega
      go_wp2_with fail
      go_ret
      exact ⟨ret_int HE.out.symm, HB.out⟩
end
end Go.Proofs.Ytcgkfbjdlhapkaa
namespace Go.Proofs.Ytcgkfbjdlhapkaa
open Go.RowKit

/-- The candidate with a number. -/
def cdt (C at_ : Nat) : Int × Int := ((parts (C : Int)).getD (at_ / C) 0, ((at_ % C : Nat) : Int))
/-- Whether one of the first n of a list has the same Right and a part of Left. -/
def cvTo (l : List (Int × Int)) (d : Int × Int) : Nat → Bool
  | 0 => false
  | i + 1 => cvTo l d i || ((l.getD i (0, 0)).2 == d.2 && (bits .and .i64 (l.getD i (0, 0)).1 d.1 == (l.getD i (0, 0)).1))
def cvd (l : List (Int × Int)) (d : Int × Int) : Bool := cvTo l d l.length
/-- One step: what is found and how many tests were made. -/
noncomputable def repN (C : Nat) (ll : List (List Int)) (m : Int) : Nat → List (Int × Int) × Nat
  | 0 => ([], 0)
  | k + 1 =>
    if (bitB (cdt C k).1.toNat (cdt C k).2.toNat || cvd (repN C ll m k).1 (cdt C k)) = true then repN C ll m k
    else if h7 C ll m (cdt C k).1.toNat (cdt C k).2.toNat = true then ((repN C ll m k).1 ++ [cdt C k], (repN C ll m k).2 + 1) else ((repN C ll m k).1, (repN C ll m k).2 + 1)
theorem repN_succ (C : Nat) (ll : List (List Int)) (m : Int) (k : Nat) : repN C ll m (k + 1) =
    if (bitB (cdt C k).1.toNat (cdt C k).2.toNat || cvd (repN C ll m k).1 (cdt C k)) = true then repN C ll m k
    else if h7 C ll m (cdt C k).1.toNat (cdt C k).2.toNat = true then ((repN C ll m k).1 ++ [cdt C k], (repN C ll m k).2 + 1) else ((repN C ll m k).1, (repN C ll m k).2 + 1) := rfl
theorem cvTo_iff (l : List (Int × Int)) (d : Int × Int) : ∀ n, (cvTo l d n = true ↔ ∃ t, t < n ∧ (l.getD t (0, 0)).2 = d.2 ∧ bits .and .i64 (l.getD t (0, 0)).1 d.1 = (l.getD t (0, 0)).1)
  | 0 => by simp [cvTo]
  | n + 1 => by
    have ih := cvTo_iff l d n
    unfold cvTo
    rw [Bool.or_eq_true, ih, Bool.and_eq_true, beq_iff_eq, beq_iff_eq]
    constructor
    · rintro (⟨t, t1, t2⟩ | h)
      · exact ⟨t, by omega, t2⟩
      · exact ⟨n, by omega, h⟩
    · rintro ⟨t, t1, t2⟩
      by_cases e : t = n
      · subst e; exact .inr t2
      · exact .inl ⟨t, by omega, t2⟩
theorem cvd_iff (l : List (Int × Int)) (d : Int × Int) : cvd l d = true ↔ ∃ e ∈ l, e.2 = d.2 ∧ bits .and .i64 e.1 d.1 = e.1 := by
  unfold cvd
  rw [cvTo_iff]
  constructor
  · rintro ⟨t, t1, t2⟩
    exact ⟨l.getD t (0, 0), by rw [List.getD_eq_getElem?_getD, List.getElem?_eq_getElem t1]; exact List.getElem_mem t1, t2⟩
  · rintro ⟨e, he, h⟩
    obtain ⟨t, t1, rfl⟩ := List.mem_iff_getElem.1 he
    refine ⟨t, t1, ?_⟩
    rw [List.getD_eq_getElem?_getD, List.getElem?_eq_getElem t1]
    exact h
theorem sub_anti {a b : Nat} (h1 : subN a b = true) (h2 : subN b a = true) : a = b := by
  unfold subN at h1 h2
  rw [beq_iff_eq] at h1 h2
  rw [Nat.and_comm] at h2
  omega
/-- The sets by size: a part of another set comes before it; each set is there once. -/
theorem parts_order : ∀ (C : Fin 6) (i j : Fin 32), i.val < (parts ((C.val : Nat) : Int)).length → j.val < (parts ((C.val : Nat) : Int)).length → subN ((parts ((C.val : Nat) : Int)).getD i.val 0).toNat ((parts ((C.val : Nat) : Int)).getD j.val 0).toNat = true → i.val ≤ j.val := by decide +kernel
theorem parts_cnt : ∀ C : Fin 6, (parts ((C.val : Nat) : Int)).length = 2 ^ C.val := by decide +kernel
theorem cdt_ok {C k : Nat} (hC1 : 1 ≤ C) (hC : C ≤ 5) (hk : k < C * 2 ^ C) : ∃ x r : Nat, cdt C k = ((x : Int), (r : Int)) ∧ x < 2 ^ C ∧ r < C := by
  have h1 : k / C < 2 ^ C := Nat.div_lt_of_lt_mul hk
  have hpc := parts_cnt ⟨C, by omega⟩
  simp only at hpc
  have hm : (parts (C : Int)).getD (k / C) 0 ∈ parts (C : Int) := mem_getD.2 ⟨k / C, by omega, rfl⟩
  obtain ⟨x, hx, e⟩ := (parts_mem hC _).1 hm
  exact ⟨x, k % C, by unfold cdt; rw [e], hx, Nat.mod_lt _ (by omega)⟩
/-- Each candidate has a number. -/
theorem cdt_ex {C x r : Nat} (hC1 : 1 ≤ C) (hC : C ≤ 5) (hx : x < 2 ^ C) (hr : r < C) : ∃ k, k < C * 2 ^ C ∧ cdt C k = ((x : Int), (r : Int)) := by
  obtain ⟨i, hi, e⟩ := mem_getD.1 ((parts_mem hC (x : Int)).2 ⟨x, hx, rfl⟩)
  have hpc := parts_cnt ⟨C, by omega⟩
  simp only at hpc
  have h1 : C * (i + 1) ≤ C * 2 ^ C := Nat.mul_le_mul_left _ (by omega)
  refine ⟨C * i + r, by rw [Nat.mul_succ] at h1; omega, ?_⟩
  unfold cdt
  rw [Nat.mul_add_div (by omega), Nat.div_eq_of_lt hr, Nat.add_zero, Nat.mul_add_mod, Nat.mod_eq_of_lt hr, ← e]
/-- A part with the same Right comes before. -/
theorem cdt_before {C j k x y r : Nat} (hC1 : 1 ≤ C) (hC : C ≤ 5) (hj : j < C * 2 ^ C) (hk : k < C * 2 ^ C) (ej : cdt C j = ((x : Int), (r : Int))) (ek : cdt C k = ((y : Int), (r : Int))) (hs : subN x y = true) (hne : x ≠ y) : j < k := by
  have h1 : j / C < 2 ^ C := Nat.div_lt_of_lt_mul hj
  have h2 : k / C < 2 ^ C := Nat.div_lt_of_lt_mul hk
  have h32 := two5 hC
  have hpc := parts_cnt ⟨C, by omega⟩
  simp only at hpc
  unfold cdt at ej ek
  obtain ⟨j1, j2⟩ := Prod.mk.inj ej
  obtain ⟨k1, k2⟩ := Prod.mk.inj ek
  have h := parts_order ⟨C, by omega⟩ ⟨j / C, by omega⟩ ⟨k / C, by omega⟩ (by rw [hpc]; exact h1) (by rw [hpc]; exact h2)
  simp only at h
  rw [j1, k1] at h
  have hle := h (by simpa using hs)
  have hlt : j / C < k / C := by
    refine Nat.lt_of_le_of_ne hle fun e => hne ?_
    rw [e, k1] at j1
    omega
  have e1 := Nat.div_add_mod j C
  have e2 := Nat.div_add_mod k C
  have h3 : C * (j / C + 1) ≤ C * (k / C) := Nat.mul_le_mul_left _ hlt
  have h4 := Nat.mod_lt j (show 0 < C by omega)
  rw [Nat.mul_succ] at h3
  omega
/-- What is found among the first k candidates: the minimal ones of them, in order. -/
theorem repN_found {C : Nat} {ll : List (List Int)} {m : Int} (hC1 : 1 ≤ C) (hC : C ≤ 5) : ∀ k, k ≤ C * 2 ^ C → (repN C ll m k).1 = ((List.range k).map (cdt C)).filter (fun d => minN C ll m d.1.toNat d.2.toNat)
  | 0, _ => rfl
  | k + 1, hk => by
    have ih := repN_found (ll := ll) (m := m) hC1 hC k (by omega)
    have h32 := two5 hC
    obtain ⟨x, r, e, hx, hr⟩ := cdt_ok hC1 hC (show k < C * 2 ^ C by omega)
    have hcv : cvd (repN C ll m k).1 (cdt C k) = true ↔ ∃ y : Nat, y < 2 ^ C ∧ y ≠ x ∧ subN y x = true ∧ minN C ll m y r = true := by
      rw [cvd_iff, ih]
      constructor
      · rintro ⟨d, hd, h1, h2⟩
        rw [List.mem_filter, List.mem_map] at hd
        obtain ⟨⟨j, hj, rfl⟩, hmin⟩ := hd
        have hjk := List.mem_range.1 hj
        obtain ⟨y, s, e', hy, hs⟩ := cdt_ok hC1 hC (show j < C * 2 ^ C by omega)
        rw [e'] at h1 h2 hmin
        rw [e] at h1 h2
        simp only at h1 h2
        have hsr : s = r := by omega
        subst hsr
        rw [show (((y : Int), (s : Int)).1).toNat = y from rfl, show (((y : Int), (s : Int)).2).toNat = s from rfl] at hmin
        refine ⟨y, hy, fun hyx => ?_, ?_, hmin⟩
        · subst hyx
          have e1 : cdt C j = cdt C k := by rw [e', e]
          unfold cdt at e1
          obtain ⟨a1, a2⟩ := Prod.mk.inj e1
          have hpc := parts_cnt ⟨C, by omega⟩
          simp only at hpc
          have q1 : j / C < 2 ^ C := Nat.div_lt_of_lt_mul (by omega)
          have q2 : k / C < 2 ^ C := Nat.div_lt_of_lt_mul (by omega)
          have o1 := parts_order ⟨C, by omega⟩ ⟨j / C, by omega⟩ ⟨k / C, by omega⟩ (by rw [hpc]; exact q1) (by rw [hpc]; exact q2)
          have o2 := parts_order ⟨C, by omega⟩ ⟨k / C, by omega⟩ ⟨j / C, by omega⟩ (by rw [hpc]; exact q2) (by rw [hpc]; exact q1)
          simp only at o1 o2
          rw [a1] at o1 o2
          have o3 := o1 (subN_refl _)
          have o4 := o2 (subN_refl _)
          have e3 := Nat.div_add_mod j C
          have e4 := Nat.div_add_mod k C
          have e5 : j / C = k / C := by omega
          rw [e5] at e3
          omega
        · rw [← and_sub y x (by omega) (by omega), beq_iff_eq]
          exact h2
      · rintro ⟨y, hy, hne, hs, hmin⟩
        obtain ⟨j, hj, ej⟩ := cdt_ex hC1 hC hy hr
        have hjk := cdt_before hC1 hC hj (show k < C * 2 ^ C by omega) ej e hs hne
        refine ⟨cdt C j, ?_, ?_⟩
        · rw [List.mem_filter, List.mem_map]
          exact ⟨⟨j, List.mem_range.2 hjk, rfl⟩, by rw [ej]; exact hmin⟩
        · rw [ej, e]
          refine ⟨rfl, ?_⟩
          have := and_sub y x (by omega) (by omega)
          rw [hs, beq_iff_eq] at this
          exact this
    have hmi := minN_iff (ll := ll) (m := m) hC hr hx
    have hle := least_iff (f := fun S => HoldsAll C ll m S r) h32 (holds_up hC) hx
    have hh := h7_iff (ll := ll) (m := m) (L := x) hC hr
    have e1 : (cdt C k).1.toNat = x := by rw [e]; rfl
    have e2 : (cdt C k).2.toNat = r := by rw [e]; rfl
    have hone : ((List.range (k + 1)).map (cdt C)).filter (fun d => minN C ll m d.1.toNat d.2.toNat) = (repN C ll m k).1 ++ if minN C ll m x r = true then [cdt C k] else [] := by
      rw [List.range_succ, List.map_append, List.filter_append, ← ih]
      congr 1
      show List.filter _ [cdt C k] = _
      by_cases hm : minN C ll m x r = true
      · rw [if_pos hm, List.filter_cons_of_pos (by rw [e1, e2]; exact hm)]; rfl
      · rw [if_neg hm, List.filter_cons_of_neg (by rw [e1, e2]; exact hm)]; rfl
    rw [hone]
    rw [repN_succ, e1, e2]
    by_cases hb : bitB x r = true
    · have hm : ¬ minN C ll m x r = true := fun h => by have := (hmi.1 h).1; rw [hb] at this; cases this
      rw [if_pos (by rw [hb]; rfl), if_neg hm, List.append_nil]
    · have hb' : bitB x r = false := by simpa using hb
      rw [hb', Bool.false_or]
      by_cases hc : cvd (repN C ll m k).1 (cdt C k) = true
      · obtain ⟨y, hy, hne, hs, hmin⟩ := hcv.1 hc
        have hym := (minN_iff hC hr hy).1 hmin
        have hm : ¬ minN C ll m x r = true := fun h => hne ((hle.1 (hmi.1 h).2).2 y hy hym.2.1 hs)
        rw [if_pos hc, if_neg hm, List.append_nil]
      · rw [if_neg hc]
        by_cases hhx : h7 C ll m x r = true
        · have hm : minN C ll m x r = true := by
            refine hmi.2 ⟨hb', hle.2 ⟨hh.1 hhx, fun z hz hf hs => Classical.byContradiction fun hne => hc (hcv.2 ?_)⟩⟩
            obtain ⟨y, y1, y2, y3, y4⟩ := least_ex (f := fun S => HoldsAll C ll m S r) z (by omega) hf
            have hyl : y < 2 ^ C := by omega
            refine ⟨y, hyl, fun e => hne ?_, subN_trans y3 hs, (minN_iff hC hr hyl).2 ⟨sub_bit hC hr hyl hx (subN_trans y3 hs) hb', y4⟩⟩
            subst e
            exact sub_anti hs y3
          rw [if_pos hhx, if_pos hm]
        · have hm : ¬ minN C ll m x r = true := fun h => hhx (hh.2 (hmi.1 h).2.1)
          rw [if_neg hhx, if_neg hm, List.append_nil]
end Go.Proofs.Ytcgkfbjdlhapkaa
