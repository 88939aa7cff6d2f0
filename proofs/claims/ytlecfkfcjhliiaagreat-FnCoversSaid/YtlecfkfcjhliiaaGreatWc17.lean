/- Texts of this claim, merged: AgrQ, FnAgrA, DepDraw. Conditions: as stated. -/
import Derived.Test.YtlecfkfcjhliiaaGreatWc16
import Derived.Test.YtlecfkfcjhliiaaGreatWc11
import Derived.Deep.Quiet
import Derived.Deep.RegionHeld3
import Derived.BigQuiet
import Derived.Test.YtlecfkfcjhliiaaGreatWc2
import Derived.Test.YtlecfkfcjhliiaaGreatWc4
namespace Go.Proofs.YtlecfkfcjhliiaaGreat
open Go.RowKit

theorem kpIn_iff (S : Int → Int → Bool) (l : List Int) (y : Int) (f : Nat → Bool) (j : Nat) : ∀ n, (kpIn S l y f n j = true ↔ f j = true ∧ (j = y.toNat → ∀ a, a < n → (l.getD a 0 != y && S (l.getD a 0) y) = false))
  | 0 => by simp [kpIn]
  | n + 1 => by
    have ih := kpIn_iff S l y f j n
    unfold kpIn
    split
    · rename_i h
      unfold setF
      split
      · rename_i hj
        constructor
        · intro e; cases e
        · rintro ⟨-, h2⟩
          have := h2 hj n (by omega)
          rw [h] at this; cases this
      · rename_i hj
        rw [ih]
        constructor
        · rintro ⟨h1, -⟩
          exact ⟨h1, fun e => (hj e).elim⟩
        · rintro ⟨h1, -⟩
          exact ⟨h1, fun e => (hj e).elim⟩
    · rename_i h
      rw [ih]
      constructor
      · rintro ⟨h1, h2⟩
        refine ⟨h1, fun e a ha => ?_⟩
        by_cases e' : a = n
        · subst e'; simpa using h
        · exact h2 e a (by omega)
      · rintro ⟨h1, h2⟩
        exact ⟨h1, fun e a ha => h2 e a (by omega)⟩
theorem kpOut_iff (S : Int → Int → Bool) (l : List Int) (j : Nat) (hat : ∀ i, i < l.length → ∃ X : Nat, l.getD i 0 = (X : Int) ∧ X < 32) : ∀ i, i ≤ l.length → (kpOut S l i j = true ↔ (j : Int) ∈ l ∧ ∀ t, t < i → l.getD t 0 = (j : Int) → ∀ a, a < l.length → (l.getD a 0 != (j : Int) && S (l.getD a 0) (j : Int)) = false)
  | 0, _ => by simp [kpOut, memF]
  | i + 1, hi => by
    have ih := kpOut_iff S l j hat i (by omega)
    unfold kpOut
    rw [kpIn_iff, ih]
    obtain ⟨X, hX, -⟩ := hat i (by omega)
    constructor
    · rintro ⟨⟨h1, h2⟩, h3⟩
      refine ⟨h1, fun t ht e a ha => ?_⟩
      by_cases e' : t = i
      · subst e'
        have := h3 (by rw [e]; omega) a ha
        rw [e] at this; exact this
      · exact h2 t (by omega) e a ha
    · rintro ⟨h1, h2⟩
      refine ⟨⟨h1, fun t ht e a ha => h2 t (by omega) e a ha⟩, fun e a ha => ?_⟩
      have e2 : l.getD i 0 = (j : Int) := by rw [hX] at e ⊢; omega
      have := h2 i (by omega) e2 a ha
      rw [e2]; exact this
theorem unsS_mem (S : Int → Int → Bool) (l : List Int) (hs : setsOk l = true) (y : Int) : y ∈ unsS S l ↔ y ∈ l ∧ ∀ a, a < l.length → (l.getD a 0 != y && S (l.getD a 0) y) = false := by
  obtain ⟨-, hat⟩ := setsOk_at hs
  unfold unsS
  rw [if_pos hs, lstF_mem]
  constructor
  · rintro ⟨j, h1, h2, rfl⟩
    rw [kpOut_iff S l j hat _ (Nat.le_refl _)] at h2
    obtain ⟨t, ht, e⟩ := mem_getD.mp h2.1
    exact ⟨h2.1, h2.2 t ht e.symm⟩
  · rintro ⟨h1, h2⟩
    obtain ⟨t, ht, e⟩ := mem_getD.mp h1
    obtain ⟨X, hX, hX32⟩ := hat t ht
    rw [hX] at e
    subst e
    exact ⟨X, hX32, (kpOut_iff S l X hat _ (Nat.le_refl _)).mpr ⟨h1, fun t _ _ a ha => h2 a ha⟩, rfl⟩
theorem unsS_asc (S : Int → Int → Bool) (l : List Int) : AscI (unsS S l) := by
  unfold unsS
  split
  · exact lstTo_asc _ _
  · exact List.Pairwise.nil
theorem and_swap (x y : Int) : bits .and .i64 x y = bits .and .i64 y x := by rw [bits_and, bits_and, BitVec.and_comm]
theorem maxS_eq (l : List Int) : unsS supS l = maxS l := by
  cases hs : setsOk l with
  | false => unfold unsS maxS; rw [hs]; rfl
  | true =>
    obtain ⟨-, hat⟩ := setsOk_at hs
    refine ascI_unique _ _ (unsS_asc _ _) (by unfold maxS; rw [if_pos hs]; exact mxTo_asc _ _) fun y => ?_
    rw [unsS_mem supS l hs]
    unfold maxS
    rw [if_pos hs, mxTo_mem]
    have key : ∀ X : Nat, X < 32 → ((∀ a, a < l.length → (l.getD a 0 != (X : Int) && supS (l.getD a 0) (X : Int)) = false) ↔ topK l (X : Int) l.length = true) := fun X hX => by
      rw [topK_iff]
      refine ⟨fun h a ha => ?_, fun h a ha => ?_⟩
      · have := h a ha
        clear h hat
        unfold supS at this
        rw [partZ_eq _ _ (by omega) (by omega)] at this
        cases e1 : (l.getD a 0 == (X : Int)) <;> cases e2 : (bits .and .i64 (X : Int) (l.getD a 0) == (X : Int)) <;> simp_all
      · have := h a ha
        clear h hat
        unfold supS
        rw [partZ_eq _ _ (by omega) (by omega)]
        cases e1 : (l.getD a 0 == (X : Int)) <;> cases e2 : (bits .and .i64 (X : Int) (l.getD a 0) == (X : Int)) <;> simp_all
    constructor
    · rintro ⟨h1, h2⟩
      obtain ⟨t, ht, e⟩ := mem_getD.mp h1
      obtain ⟨X, hX, hX32⟩ := hat t ht
      refine ⟨t, ht, e, ?_⟩
      rw [e, hX] at h2 ⊢
      exact (key X hX32).mp h2
    · rintro ⟨t, ht, e, h⟩
      obtain ⟨X, hX, hX32⟩ := hat t ht
      refine ⟨mem_getD.mpr ⟨t, ht, e⟩, ?_⟩
      rw [e, hX] at h ⊢
      exact (key X hX32).mpr h
theorem minS_eq (l : List Int) : unsS subS l = minS l := by
  cases hs : setsOk l with
  | false => unfold unsS minS; rw [hs]; rfl
  | true =>
    obtain ⟨-, hat⟩ := setsOk_at hs
    refine ascI_unique _ _ (unsS_asc _ _) (by unfold minS; rw [if_pos hs]; exact mnTo_asc _ _) fun y => ?_
    rw [unsS_mem subS l hs]
    unfold minS
    rw [if_pos hs, mnTo_mem]
    have key : ∀ X : Nat, X < 32 → ((∀ a, a < l.length → (l.getD a 0 != (X : Int) && subS (l.getD a 0) (X : Int)) = false) ↔ lowK l (X : Int) l.length = true) := fun X hX => by
      rw [lowK_iff]
      refine ⟨fun h a ha => ?_, fun h a ha => ?_⟩
      · have := h a ha
        obtain ⟨Z, hZ, hZ32⟩ := hat a ha
        unfold subS at this
        rw [hZ] at this ⊢
        rw [partZ_eq _ _ (by omega) (by omega), and_swap] at this
        cases e1 : ((Z : Int) == (X : Int)) <;> cases e2 : (bits .and .i64 (X : Int) (Z : Int) == (Z : Int)) <;> simp_all
      · have := h a ha
        obtain ⟨Z, hZ, hZ32⟩ := hat a ha
        unfold subS
        rw [hZ] at this ⊢
        rw [partZ_eq _ _ (by omega) (by omega), and_swap]
        cases e1 : ((Z : Int) == (X : Int)) <;> cases e2 : (bits .and .i64 (X : Int) (Z : Int) == (Z : Int)) <;> simp_all
    constructor
    · rintro ⟨h1, h2⟩
      obtain ⟨t, ht, e⟩ := mem_getD.mp h1
      obtain ⟨X, hX, hX32⟩ := hat t ht
      refine ⟨t, ht, e, ?_⟩
      rw [e, hX] at h2 ⊢
      exact (key X hX32).mp h2
    · rintro ⟨t, ht, e, h⟩
      obtain ⟨X, hX, hX32⟩ := hat t ht
      refine ⟨mem_getD.mpr ⟨t, ht, e⟩, ?_⟩
      rw [e, hX] at h ⊢
      exact (key X hX32).mpr h
theorem difB_fin : ∀ (Q : Fin 5) (s : Fin 32), difB Q.val (s.val : Int) = !bitB s.val Q.val := by decide +kernel
theorem difV_fin : ∀ (C : Fin 6) (Q : Fin 5) (s : Fin 32), Q.val < C.val → difV C.val Q.val (s.val : Int) = (dfN C.val Q.val s.val : Int) := by decide +kernel
theorem difTo_mem (C Q : Nat) (l : List Int) (y : Int) : ∀ i, (y ∈ difTo C Q l i ↔ ∃ t, t < i ∧ difB Q (l.getD t 0) = true ∧ y = difV C Q (l.getD t 0))
  | 0 => by simp [difTo]
  | i + 1 => by
    have ih := difTo_mem C Q l y i
    unfold difTo
    split
    · rename_i h
      rw [put4_mem, ih]
      constructor
      · rintro (rfl | ⟨t, h1, h2, h3⟩)
        · exact ⟨i, by omega, h, rfl⟩
        · exact ⟨t, by omega, h2, h3⟩
      · rintro ⟨t, h1, h2, h3⟩
        by_cases e : t = i
        · subst e; exact Or.inl h3
        · exact Or.inr ⟨t, by omega, h2, h3⟩
    · rename_i h
      rw [ih]
      constructor
      · rintro ⟨t, h1, h2, h3⟩
        exact ⟨t, by omega, h2, h3⟩
      · rintro ⟨t, h1, h2, h3⟩
        by_cases e : t = i
        · subst e; exact (h h2).elim
        · exact ⟨t, by omega, h2, h3⟩
theorem difTo_asc (C Q : Nat) (l : List Int) : ∀ i, AscI (difTo C Q l i)
  | 0 => List.Pairwise.nil
  | i + 1 => by
    unfold difTo
    split
    · exact put4_asc (difTo_asc C Q l i) _
    · exact difTo_asc C Q l i
theorem dfTo_iff (C Q : Nat) (g : Nat → Bool) (j : Nat) : ∀ n, (dfTo C Q g n j = true ↔ ∃ s, s < n ∧ (g s && !bitB s Q) = true ∧ j = dfN C Q s)
  | 0 => by simp [dfTo, noF]
  | n + 1 => by
    have ih := dfTo_iff C Q g j n
    unfold dfTo
    split
    · rename_i h
      unfold setF
      split
      · rename_i hj
        simp only [true_iff]
        exact ⟨n, by omega, h, hj⟩
      · rename_i hj
        rw [ih]
        constructor
        · rintro ⟨s, h1, h2, h3⟩
          exact ⟨s, by omega, h2, h3⟩
        · rintro ⟨s, h1, h2, h3⟩
          by_cases e : s = n
          · subst e; exact (hj h3).elim
          · exact ⟨s, by omega, h2, h3⟩
    · rename_i h
      rw [ih]
      constructor
      · rintro ⟨s, h1, h2, h3⟩
        exact ⟨s, by omega, h2, h3⟩
      · rintro ⟨s, h1, h2, h3⟩
        by_cases e : s = n
        · subst e; exact (h h2).elim
        · exact ⟨s, by omega, h2, h3⟩
theorem difS_eq (c : Int) (ll : List (List Int)) (m q : Int) : dfS c ll m q = difS c ll m q := by
  unfold dfS difS
  by_cases hq : 0 ≤ q ∧ q ≤ c - 1
  · rw [if_pos hq]
    cases hT : isT c ll with
    | false =>
      have e1 : colB c ll q = false := by unfold colB; rw [hT]; rfl
      have e2 : agrS c ll m = [] := by unfold agrS fineT; rw [hT]; rfl
      rw [e1, e2]; rfl
    | true =>
      have e1 : colB c ll q = true := by unfold colB; rw [hT, decide_eq_true hq]; rfl
      rw [if_pos e1]
      obtain ⟨h1, h5, -⟩ := isT_bd hT
      refine ascI_unique _ _ (lstTo_asc _ _) (difTo_asc _ _ _ _) fun y => ?_
      rw [lstF_mem, difTo_mem]
      have hC : c.toNat < 6 := by omega
      have hQ : q.toNat < 5 := by omega
      have hQC : q.toNat < c.toNat := by omega
      constructor
      · rintro ⟨j, -, h2, h3⟩
        obtain ⟨s, hs, h4, h6⟩ := (dfTo_iff _ _ _ _ _).mp h2
        rw [Bool.and_eq_true] at h4
        obtain ⟨t, ht, e⟩ := mem_getD.mp ((agF_mem c ll m (s : Int)).mpr ⟨s, hs, h4.1, rfl⟩)
        refine ⟨t, ht, ?_, ?_⟩
        · rw [← e]
          exact (difB_fin ⟨q.toNat, hQ⟩ ⟨s, hs⟩).trans h4.2
        · rw [← e, h3, h6]
          exact (difV_fin ⟨c.toNat, hC⟩ ⟨q.toNat, hQ⟩ ⟨s, hs⟩ hQC).symm
      · rintro ⟨t, ht, h2, h3⟩
        obtain ⟨s, hs, h4, h6⟩ := (agF_mem c ll m ((agrS c ll m).getD t 0)).mp (mem_getD.mpr ⟨t, ht, rfl⟩)
        rw [h6] at h2 h3
        have h7 := difB_fin ⟨q.toNat, hQ⟩ ⟨s, hs⟩
        have h8 := difV_fin ⟨c.toNat, hC⟩ ⟨q.toNat, hQ⟩ ⟨s, hs⟩ hQC
        simp only at h7 h8
        rw [h2] at h7
        rw [h8] at h3
        refine ⟨dfN c.toNat q.toNat s, (dfN_eq c.toNat q.toNat s (by omega) hQC hs).2, (dfTo_iff _ _ _ _ _).mpr ⟨s, hs, by rw [Bool.and_eq_true]; exact ⟨h4, h7.symm⟩, rfl⟩, h3⟩
  · rw [if_neg hq]
    have e1 : colB c ll q = false := by unfold colB; rw [decide_eq_false hq]; simp
    rw [e1]; rfl
theorem implMaximalM_any (v : Value) (l : List Int) (w : World) (hr : ReadI w v l) (hl : l.length ≤ 1048576) (hbd : I64s l) :
    Calls Tryz.prog 29 #[v] w (RetI (maxS l) w) := by
  rw [← maxS_eq]; exact implMaximal_any v l w hr hl hbd
theorem unsS_len (S : Int → Int → Bool) (l : List Int) : (unsS S l).length ≤ 32 := by
  unfold unsS; split
  · exact lstTo_len _ _
  · simp
theorem maxS_len (l : List Int) : (maxS l).length ≤ 32 := by rw [← maxS_eq]; exact unsS_len _ _
theorem minS_len (l : List Int) : (minS l).length ≤ 32 := by rw [← minS_eq]; exact unsS_len _ _
theorem difS_len (c : Int) (ll : List (List Int)) (m q : Int) : (difS c ll m q).length ≤ 32 := by
  rw [← difS_eq]; unfold dfS; split
  · exact lstTo_len _ _
  · simp
end Go.Proofs.YtlecfkfcjhliiaaGreat
namespace Go.Proofs.YtlecfkfcjhliiaaGreat
open Go.RowKit

/-- A world that has all that w has, and perhaps new blocks. -/
structure Bel (w : World) where
  x : World
  h : Below w.heap.size w x
instance (w : World) : Inhabited (Bel w) := ⟨⟨w, Below.refl _ w⟩⟩
theorem wp_region_bel {P : Program} {id : Nat} {Q : Exit → Act → World → Prop} {a : Act} {w : World} {l : List Oper} (hm : P.follows .mixedOrders = true) (hB : Region.lexB .any l.toArray = true)
    (h : wpQuiet P l.toArray (fun w' => ∃ p : Bel w, w' = p.x) (fun a' => ∀ w', (∃ p : Bel w, w' = p.x) → Q .normal a' w') l a) : (Code.region id l.toArray true).wp P Q a w :=
  wp_region_quiet (C := fun w' => ∃ p : Bel w, w' = p.x) hm hB ⟨⟨w.drew, (Below.refl _ w).drew⟩, rfl⟩ (by simpa using h)
theorem Calls.bel {P : Program} {f : FuncId} {args : Array Value} {w : World} {p : Bel w} {v : Value}
    (h : Calls P f args p.x fun e w' => e = .returned v ∧ Below p.x.heap.size p.x w') : Calls P f args p.x fun e w'' => e = .returned v ∧ ∃ q : Bel w, w'' = q.x :=
  h.mono fun _ w' ⟨he, hb⟩ => ⟨he, ⟨w', p.h.trans (hb.mono p.h.size)⟩, rfl⟩
set_option maxHeartbeats 800000 in
theorem sameInts_any (v v' : Value) (l l' : List Int) (w : World) (hr : ReadI w v l) (hr' : ReadI w v' l') (hl : l.length ≤ 1000000000) :
    Calls Tryz.prog 8 #[v, v'] w fun e w' => e = .returned (.bool (eqB l l')) ∧ ∃ m, w' = w.drewN m := by
  obtain ⟨a, cap, rfl, ha⟩ := hr
  obtain ⟨a', cap', rfl, ha'⟩ := hr'
  have HA := Lib.hid ha
  have HA' := Lib.hid ha'
  clear ha ha'
  by_cases hlen : l.length = l'.length
  · have hne : ((l.length : Int) != (l'.length : Int)) = false := by simp [hlen]
    have HL := Lib.hid hlen
    clear hlen
    go_enter Tryz.func8, Tryz.ntmps8
    go_wp2_with fail
    go_loopw [5] (fun iv wr => ∃ (k n : Nat), k ≤ l.length ∧ iv = .int .i64 (k : Int) ∧ Hid (l.take k = l'.take k) ∧ wr = w.drewN n) (fun iv _ => l.length - (intOf iv).toNat)
    case atStart => exact ⟨0, 0, by omega, rfl, Lib.hid rfl, rfl⟩
    case round =>
      obtain ⟨k, n, hk, rfl, hsame, rfl⟩ := hrel
      by_cases hlt : k < l.length
      · have hlt' : k < l'.length := by have := HL.out; omega
        obtain ⟨x, rfl, hx⟩ := HA.out k hlt
        obtain ⟨x', rfl, hx'⟩ := HA'.out k hlt'
        have z0 : (0 : Int) ≤ (k : Int) := by omega
        have z1 : (k : Int) < (l.length : Int) := by omega
        have z2 : (k : Int) < (l'.length : Int) := by omega
        by_cases he : l[k] = l'[k]
        · have hb : (l[k] != l'[k]) = false := by simp [he]
          have HE := Lib.hid he
          clear he
          go_wp2_with fail
          go_quiet (fail)
          go_wp2_with fail
          go_roundw
          case rel => exact ⟨k + 1, _, by omega, by go_num, Lib.hid (by rw [List.take_succ_eq_append_getElem hlt, List.take_succ_eq_append_getElem hlt', hsame.out, HE.out]), rfl⟩
          case measure => simp [intOf]; omega
        · have hb : (l[k] != l'[k]) = true := by simpa using he
          have HE := Lib.hid he
          clear he
          go_wp2_with fail
          go_quiet (fail)
          go_wp2_with fail
          go_ret
          exact ⟨ret_b (by unfold eqB; rw [decide_eq_false]; intro e; apply HE.out; simp only [e]), _, World.drewN_drewN _ _ _⟩
      · go_wp2_with fail
        go_ret
        exact ⟨ret_b (by
          unfold eqB
          rw [decide_eq_true]
          have := hsame.out
          rwa [List.take_of_length_le (by omega), List.take_of_length_le (by have := HL.out; omega)] at this), _, rfl⟩
  · have hne : ((l.length : Int) != (l'.length : Int)) = true := by simp; omega
    have HL := Lib.hid hlen
    clear hlen
    go_enter Tryz.func8, Tryz.ntmps8
    go_wp2_with fail
    go_ret
    exact ⟨ret_b (by unfold eqB; rw [decide_eq_false]; intro e; exact HL.out (by rw [e])), 0, rfl⟩

theorem rows_few {ll : List (List Int)} {m : Nat} (h : ∀ r ∈ ll, r.length ≤ m) (i : Nat) (hi : i < ll.length) : (ll.getD i []).length ≤ m :=
  h _ (by rw [List.getD_eq_getElem?_getD, List.getElem?_eq_getElem hi]; exact List.getElem_mem _)
/-- A table in a box: its two cells, and its rows readable. -/
def TB (w : World) (T : Nat) (c : Int) (v : Value) (ll : List (List Int)) : Prop := BoxIs w T c v ∧ ReadSS w v ll
theorem TB.kept {w w' : World} {T : Nat} {c : Int} {v : Value} {ll : List (List Int)} (h : TB w T c v ll) (hb : Below w.heap.size w w') : TB w' T c v ll := ⟨h.1.kept hb h.1.lt, h.2.kept hb⟩
theorem TB.mk' {w : World} {c : Int} {v : Value} {ll : List (List Int)} (h : ReadSS w v ll) : TB (w.alloc (.cells #[.int .i64 c, v] 26)) w.heap.size c v ll :=
  ⟨heap_alloc_new w _, h.kept ((Below.refl _ w).alloc (Nat.le_refl _) _)⟩
theorem TB.bel {w : World} {T : Nat} {c : Int} {v : Value} {ll : List (List Int)} (h : TB w T c v ll) (p : Bel w) : TB p.x T c v ll := h.kept p.h

theorem eqC_swap (m a b : Int) : eqC m a b = eqC m b a := by
  unfold eqC
  rw [decide_eq_decide]
  constructor
  · rintro ⟨h1, h2, h3⟩
    exact ⟨h1, h2.symm, by rw [← h2]; exact h3⟩
  · rintro ⟨h1, h2, h3⟩
    exact ⟨h1, h2.symm, by rw [← h2]; exact h3⟩
theorem agrTo_swap (m : Int) (r s : List Int) : ∀ n, agrTo m r s n = agrTo m s r n
  | 0 => rfl
  | n + 1 => by unfold agrTo; rw [agrTo_swap m r s n, eqC_swap]
theorem agrOf_swap (c : Int) (ll : List (List Int)) (m i k : Int) : agrOf c ll m i k = agrOf c ll m k i := by
  unfold agrOf
  rw [agrTo_swap]
  by_cases h : fineT c ll m = true ∧ (0 ≤ i ∧ i ≤ ll.length - 1) ∧ (0 ≤ k ∧ k ≤ ll.length - 1)
  · rw [if_pos h, if_pos ⟨h.1, h.2.2, h.2.1⟩]
  · rw [if_neg h, if_neg fun h' => h ⟨h'.1, h'.2.2, h'.2.1⟩]
theorem agrOf_in (c : Int) (ll : List (List Int)) (m : Int) (i k : Nat) (hf : fineT c ll m = true) (h : i < k) (hk : k < ll.length) : agrOf c ll m (i : Int) (k : Int) ∈ agrS c ll m := by
  unfold agrOf agrS
  rw [if_pos hf, if_pos ⟨hf, by omega, by omega⟩, agOut_mem _ _ _ _ _ (Nat.le_refl _)]
  exact ⟨i, k, by omega, h, hk, rfl⟩
theorem max_fact {l : List Int} {y z : Int} (hy : y ∈ maxS l) (hz : z ∈ l) : z = y ∨ (bits .and .i64 z y == y) = false := by
  unfold maxS at hy
  split at hy
  · obtain ⟨-, -, -, h⟩ := (mxTo_mem l y _).mp hy
    obtain ⟨t, ht, e⟩ := mem_getD.mp hz
    have := (topK_iff l y _).mp h t ht
    rw [← e, Bool.or_eq_true, and_swap] at this
    rcases this with h' | h'
    · exact Or.inl (by simpa using h')
    · exact Or.inr (by simpa using h')
  · cases hy
theorem min_fact {l : List Int} {y z : Int} (hy : y ∈ minS l) (hz : z ∈ l) : z = y ∨ (bits .and .i64 z y == z) = false := by
  unfold minS at hy
  split at hy
  · obtain ⟨-, -, -, h⟩ := (mnTo_mem l y _).mp hy
    obtain ⟨t, ht, e⟩ := mem_getD.mp hz
    have := (lowK_iff l y _).mp h t ht
    rw [← e, Bool.or_eq_true, and_swap] at this
    rcases this with h' | h'
    · exact Or.inl (by simpa using h')
    · exact Or.inr (by simpa using h')
  · cases hy
theorem eqB_same (l : List Int) : eqB l l = true := by unfold eqB; simp
theorem below_draws (w : World) (m : Nat) : Below w.heap.size w (w.drewN m) := below_drewN (Below.refl _ _) m
theorem box_new (w : World) (o : Obj) : Below w.heap.size w (w.alloc o) := (Below.refl _ w).alloc (Nat.le_refl _) o
end Go.Proofs.YtlecfkfcjhliiaaGreat
namespace Go.Proofs.YtlecfkfcjhliiaaGreat
open Go.RowKit

def CurDep (lo hi : Int) (W : World) (v : Value) (n c : Nat) (w : World) (e : Ending) (w' : World) : Prop :=
  ∃ l r : Int, lo ≤ l ∧ l ≤ 33 ∧ lo ≤ r ∧ r ≤ hi ∧ e = .returned (.agg #[.int .i64 l, .int .i64 r]) ∧ w.grownBy w' (some c) ∧ Cur W v n c w'
/-- A block of two ints: a dependency. -/
def DBox (w : World) (T : Nat) (l r : Int) : Prop := w.heap[T]? = some (.cells #[.int .i64 l, .int .i64 r] 37 (0, 0))
theorem DBox.cells {w : World} {T : Nat} {l r : Int} (h : DBox w T l r) : (w.cell? ⟨T, 0, none⟩ = some (.int .i64 l) ∧ w.cell? ⟨T, 1, none⟩ = some (.int .i64 r)) ∧ w.frozen? ⟨T, 0, none⟩ = false ∧ w.frozen? ⟨T, 1, none⟩ = false := by
  unfold DBox at h
  refine ⟨⟨?_, ?_⟩, ?_, ?_⟩
  · rw [cell_of_row w T 0 _ _ _ h]; rfl
  · rw [cell_of_row w T 1 _ _ _ h]; rfl
  · simp [World.frozen?, h]
  · simp [World.frozen?, h]
theorem DBox.lt {w : World} {T : Nat} {l r : Int} (h : DBox w T l r) : T < w.heap.size := (Array.getElem?_eq_some_iff.1 h).1
theorem DBox.grown {w w' : World} {T : Nat} {l r : Int} {row : Option Nat} (h : DBox w T l r) (hg : w.grownBy w' row) (hT : row ≠ some T) : DBox w' T l r := (hg.block T h.lt (Ne.symm hT)).trans h
theorem DBox.set0 {w : World} {T : Nat} {l r x : Int} (h : DBox w T l r) : DBox (w.setCell ⟨T, 0, none⟩ (.int .i64 x)) T x r := by
  unfold DBox at *
  simp only [World.setCell, Array.getElem?_modify]
  rw [if_pos trivial, h]
  rfl
theorem DBox.set1 {w : World} {T : Nat} {l r x : Int} (h : DBox w T l r) : DBox (w.setCell ⟨T, 1, none⟩ (.int .i64 x)) T l x := by
  unfold DBox at *
  simp only [World.setCell, Array.getElem?_modify]
  rw [if_pos trivial, h]
  rfl
/-- The result's cell is filled: the state at the return. -/
theorem fin_dep {W w x : World} {v : Value} {n c : Nat} {a b l r : Int} (hz : DBox x w.heap.size a b) (hg : w.grownBy x (some c)) (hc : Cur W v n c x) (hcw : c < w.heap.size) (hW : W.heap.size ≤ c) :
    DBox ((x.setCell ⟨w.heap.size, 0, none⟩ (.int .i64 l)).setCell ⟨w.heap.size, 1, none⟩ (.int .i64 r)) w.heap.size l r ∧
    w.grownBy ((x.setCell ⟨w.heap.size, 0, none⟩ (.int .i64 l)).setCell ⟨w.heap.size, 1, none⟩ (.int .i64 r)) (some c) ∧ Cur W v n c ((x.setCell ⟨w.heap.size, 0, none⟩ (.int .i64 l)).setCell ⟨w.heap.size, 1, none⟩ (.int .i64 r)) :=
  ⟨hz.set0.set1, grown_set (grown_set hg (p := ⟨w.heap.size, 0, none⟩) (Nat.le_refl _) _) (p := ⟨w.heap.size, 1, none⟩) (Nat.le_refl _) _,
   (hc.set (p := ⟨w.heap.size, 0, none⟩) (by show W.heap.size ≤ w.heap.size; omega) (by show w.heap.size ≠ c; omega) (.int .i64 l)).set (p := ⟨w.heap.size, 1, none⟩) (by show W.heap.size ≤ w.heap.size; omega) (by show w.heap.size ≠ c; omega) (.int .i64 r)⟩
set_option maxHeartbeats 1600000 in
set_option maxRecDepth 20000 in
theorem dep6_any (W : World) (v : Value) (n : Nat) (hn : n ≤ 1048576) (hcode : CodeAt W v n) (c : Nat) (w : World) (hcur : Cur W v n c w) (k : Int) (h1 : 1 ≤ k) (h2 : k ≤ 5) :
    Calls Tryz.prog 77 #[.pointer (some ⟨c, 0, none⟩), .int .i64 k] w (CurDep 0 4 W v n c w) := by
  have HB := Lib.hid (below_any W v n hn hcode c)
  have hlt := Lib.hid hcur.lt
  have hWc : Hid (W.heap.size ≤ c) := Lib.hid (by obtain ⟨_, _, h, _⟩ := hcur; exact h)
  have hg0 : Hid (w.grownBy (w.alloc (.cells #[.int .i64 0, .int .i64 0] 37)) (some c)) := Lib.hid (World.grownBy_alloc w _ _)
  have hz0 : Hid (DBox (w.alloc (.cells #[.int .i64 0, .int .i64 0] 37)) w.heap.size 0 0) := Lib.hid (heap_alloc_new w _)
  have HC0 := Lib.hid (hcur.kept (World.grownBy_alloc w (.cells #[.int .i64 0, .int .i64 0] 37) none) (by simp) (by simp))
  rcases (show k = 1 ∨ k = 2 ∨ k = 3 ∨ k = 4 ∨ k = 5 by omega) with rfl | rfl | rfl | rfl | rfl
  all_goals
    go_enter Tryz.func77, Tryz.ntmps77
    go_wp2_with fail
    refine (HB.out _ HC0.out _ (by omega) (by omega)).mono ?_
    rintro e w1 ⟨x, x0, x1, rfl, g1, hc1⟩
    have hz1 := Lib.hid (hz0.out.grown g1 (by have := hlt.out; simp; omega))
    go_wp2_with fail
    refine (HB.out w1 hc1 _ (by omega) (by omega)).mono ?_
    rintro e w2 ⟨y, y0, y1, rfl, g2, hc2⟩
    have hz2 := hz1.out.grown g2 (by have := hlt.out; simp; omega)
    have HF := Lib.hid (fin_dep (l := x) (r := y) hz2 (grown_trans (grown_trans hg0.out g1) g2) hc2 hlt.out hWc.out)
    obtain ⟨⟨d0, d1⟩, f0, f1⟩ := hz2.cells
    obtain ⟨⟨r0, r1⟩, -, -⟩ := HF.out.1.cells
    have HR := Lib.hid (And.intro r0 r1)
    clear r0 r1 g1 g2 hc1 hc2 hz2
    go_wp2_with fail
    exact bodyPost_ret (v := .agg #[.int .i64 x, .int .i64 y]) (by simp [results, Tryz.results77, go_sem, HR.out.1, HR.out.2]) rfl ⟨x, y, by omega, by omega, by omega, by omega, rfl, HF.out.2.1, HF.out.2.2⟩
/-- The state of the draw of a dependency: the result's cell, the own cell, the growth, the cursor. -/
structure DepSt (W : World) (v : Value) (n c : Nat) (w : World) (D : Nat) (l r : Int) (x : World) : Prop where
  z : DBox x w.heap.size 0 0
  b : DBox x D l r
  g : w.grownBy x (some c)
  t : w.heap.size < D
  k : c < w.heap.size
  o : W.heap.size ≤ c
  c : Cur W v n c x
theorem DepSt.grown {W w x y : World} {v : Value} {n c D : Nat} {l r : Int} (h : DepSt W v n c w D l r x) (hg : x.grownBy y (some c)) (hc : Cur W v n c y) : DepSt W v n c w D l r y :=
  ⟨h.z.grown hg (by have := h.k; simp; omega), h.b.grown hg (by have := h.t; have := h.k; simp; omega), grown_trans h.g hg, h.t, h.k, h.o, hc⟩
theorem DepSt.alloc {W w x : World} {v : Value} {n c D : Nat} {l r : Int} (h : DepSt W v n c w D l r x) (o : Obj) : DepSt W v n c w D l r (x.alloc o) :=
  h.grown (World.grownBy_alloc x o _) (h.c.kept (World.grownBy_alloc x o none) (by simp) (by simp))
theorem DepSt.put {W w x : World} {v : Value} {n c D : Nat} {l r : Int} (h : DepSt W v n c w D l r x) {p : Addr} (u : Value) {l' r' : Int} (hp : p.block = D) (hb : DBox (x.setCell p u) D l' r') : DepSt W v n c w D l' r' (x.setCell p u) :=
  ⟨h.z.grown (grown_cell x p u) (by have := h.t; rw [hp]; simp; omega), hb, grown_set h.g (by have := h.t; omega) u, h.t, h.k, h.o, h.c.set (by have := h.t; have := h.k; have := h.o; omega) (by have := h.t; have := h.k; omega) u⟩
theorem pick3d (w : World) (C : Array Value) (hC : C = #[.int .i64 (-1), .int .i64 4, .int .i64 5]) (t : TypeId) :
    ∀ i, i < 3 → ∃ y : Int, -1 ≤ y ∧ y ≤ 5 ∧ (w.alloc (.cells C t)).cell? ⟨w.heap.size, i, none⟩ = some (.int .i64 y) := by
  intro i hi
  have e : (w.alloc (.cells C t)).cell? ⟨w.heap.size, i, none⟩ = C[i]? := World.cell?_alloc_mark w C t (0, 0) i
  rw [e, hC]
  rcases (show i = 0 ∨ i = 1 ∨ i = 2 by omega) with rfl | rfl | rfl
  all_goals (refine ⟨_, ?_, ?_, rfl⟩ <;> decide)
set_option maxHeartbeats 3200000 in
set_option maxRecDepth 20000 in
theorem anyDep_any (W : World) (v : Value) (n : Nat) (hn : n ≤ 1048576) (hcode : CodeAt W v n) (c : Nat) (w : World) (hcur : Cur W v n c w) (k : Int) :
    Calls Tryz.prog 46 #[.pointer (some ⟨c, 0, none⟩), .int .i64 k] w (CurDep (-1) 5 W v n c w) := by
  have HB := Lib.hid (below_any W v n hn hcode c)
  have HD := Lib.hid (dep6_any W v n hn hcode c)
  have HY := Lib.hid (anySet_any W v n hn hcode c)
  have HP := Lib.hid (pick_any W v n hn hcode c)
  have hlt := Lib.hid hcur.lt
  have hWc : Hid (W.heap.size ≤ c) := Lib.hid (by obtain ⟨_, _, h, _⟩ := hcur; exact h)
  have hg0 : Hid (w.grownBy (w.alloc (.cells #[.int .i64 0, .int .i64 0] 37)) (some c)) := Lib.hid (World.grownBy_alloc w _ _)
  have hz0 : Hid (DBox (w.alloc (.cells #[.int .i64 0, .int .i64 0] 37)) w.heap.size 0 0) := Lib.hid (heap_alloc_new w _)
  have HC0 := Lib.hid (hcur.kept (World.grownBy_alloc w (.cells #[.int .i64 0, .int .i64 0] 37) none) (by simp) (by simp))
  by_cases hk : 1 ≤ k ∧ k ≤ 5
  all_goals
    go_enter Tryz.func46, Tryz.ntmps46
    go_wp2_with (go_at_call 33; refine (in_any _ _ _ _).mono ?_; rintro e w' ⟨rfl, rfl⟩; simp only [hk, decide_false])
    refine (HD.out _ HC0.out _ (by omega) (by omega)).mono ?_
    rintro e w1 ⟨x, y, x0, x1, y0, y1, rfl, g1, hc1⟩
    have s1 := g1.size
    simp only [World.size_alloc] at s1
    have HST : Hid (DepSt W v n c w w1.heap.size x y (w1.alloc (.cells #[.int .i64 x, .int .i64 y] 37))) := Lib.hid
      ⟨(hz0.out.grown g1 (by have := hlt.out; simp; omega)).grown (World.grownBy_alloc w1 _ none) (by simp), heap_alloc_new w1 _, grown_trans (grown_trans hg0.out g1) (World.grownBy_alloc w1 _ _), by omega, hlt.out, hWc.out, hc1.kept (World.grownBy_alloc w1 _ none) (by simp) (by simp)⟩
    clear g1 hc1
    go_wp2_with fail
    refine (HB.out _ HST.out.c 14 (by omega) (by omega)).mono ?_
    rintro e w2 ⟨z, z0, z1, rfl, g2, hc2⟩
    have HS2 := Lib.hid (HST.out.grown g2 hc2)
    obtain ⟨D, hD⟩ : ∃ D, D = w1.heap.size := ⟨_, rfl⟩
    rw [← hD] at HS2 ⊢
    clear hD g2 hc2 HST s1
    by_cases hz : z = 0
    · subst hz
      go_wp2_with fail
      refine (HY.out _ HS2.out.c).mono ?_
      rintro e w3 ⟨q, q0, q1, rfl, g3, hc3⟩
      have HS3 := HS2.out.grown g3 hc3
      obtain ⟨⟨b0, b1⟩, e0, e1⟩ := HS3.b.cells
      have HS4 := HS3.put (p := ⟨D, 0, none⟩) (.int .i64 q) rfl HS3.b.set0
      obtain ⟨⟨c0, c1⟩, f0, f1⟩ := HS4.b.cells
      obtain ⟨⟨d0, d1⟩, i0, i1⟩ := HS4.z.cells
      have HF := Lib.hid (fin_dep (l := q) (r := y) HS4.z HS4.g HS4.c HS4.k HS4.o)
      obtain ⟨⟨r0, r1⟩, -, -⟩ := HF.out.1.cells
      have HR := Lib.hid (And.intro r0 r1)
      clear r0 r1 HS4 HS3 g3 hc3
      go_wp2_with fail
      exact bodyPost_ret (v := .agg #[.int .i64 q, .int .i64 y]) (by simp [results, Tryz.results46, go_sem, HR.out.1, HR.out.2]) rfl ⟨q, y, by omega, by omega, by omega, by omega, rfl, HF.out.2.1, HF.out.2.2⟩
    · by_cases hz' : z = 1
      · subst hz'
        have HAL := Lib.hid (fun o => HS2.out.alloc o)
        have hcl := HS2.out.c.lt
        go_wp2_with fail
        refine (HP.out _ (HAL.out _).c w2.heap.size 3 (-1) 5 (by omega) (by omega) (by omega) (by simp) (pick3d w2 _ rfl _)).mono ?_
        rintro e w3 ⟨q, q0, q1, rfl, g3, hc3⟩
        have HS3 := (HAL.out _).grown g3 hc3
        obtain ⟨⟨b0, b1⟩, e0, e1⟩ := HS3.b.cells
        have HS4 := HS3.put (p := ⟨D, 1, none⟩) (.int .i64 q) rfl HS3.b.set1
        obtain ⟨⟨c0, c1⟩, f0, f1⟩ := HS4.b.cells
        obtain ⟨⟨d0, d1⟩, i0, i1⟩ := HS4.z.cells
        have HF := Lib.hid (fin_dep (l := x) (r := q) HS4.z HS4.g HS4.c HS4.k HS4.o)
        obtain ⟨⟨r0, r1⟩, -, -⟩ := HF.out.1.cells
        have HR := Lib.hid (And.intro r0 r1)
        clear r0 r1 HS4 HS3 g3 hc3
        go_wp2_with fail
        exact bodyPost_ret (v := .agg #[.int .i64 x, .int .i64 q]) (by simp [results, Tryz.results46, go_sem, HR.out.1, HR.out.2]) rfl ⟨x, q, by omega, by omega, by omega, by omega, rfl, HF.out.2.1, HF.out.2.2⟩
      · obtain ⟨⟨c0, c1⟩, f0, f1⟩ := HS2.out.b.cells
        obtain ⟨⟨d0, d1⟩, i0, i1⟩ := HS2.out.z.cells
        have HF := Lib.hid (fin_dep (l := x) (r := y) HS2.out.z HS2.out.g HS2.out.c HS2.out.k HS2.out.o)
        obtain ⟨⟨r0, r1⟩, -, -⟩ := HF.out.1.cells
        have HR := Lib.hid (And.intro r0 r1)
        clear r0 r1
        go_wp2_with fail
        exact bodyPost_ret (v := .agg #[.int .i64 x, .int .i64 y]) (by simp [results, Tryz.results46, go_sem, HR.out.1, HR.out.2]) rfl ⟨x, y, by omega, by omega, by omega, by omega, rfl, HF.out.2.1, HF.out.2.2⟩
end Go.Proofs.YtlecfkfcjhliiaaGreat
