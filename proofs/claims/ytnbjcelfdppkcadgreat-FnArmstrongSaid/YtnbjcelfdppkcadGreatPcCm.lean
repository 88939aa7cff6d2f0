/- The program's chapter 10: rounds by a method value, AreDeps, ClosureOf, ImpliesDep, by contract. Conditions: as stated. -/
import Derived.Test.YtnbjcelfdppkcadGreatXz37
import Derived.Test.YtnbjcelfdppkcadGreatXz14
namespace Go.Proofs.YtnbjcelfdppkcadGreat
open Go.RowKit

theorem depB_c {c l r : Int} (h : depB c l r = true) : ∃ C L R : Nat, c = (C : Int) ∧ l = (L : Int) ∧ r = (R : Int) ∧ 1 ≤ C ∧ C ≤ 5 ∧ L < 2 ^ C ∧ L < 32 ∧ R < C := by
  obtain ⟨⟨h1, h5⟩, ha, h0, hr⟩ := depB_iff.1 h
  unfold isA at ha
  rw [decide_eq_true_iff] at ha
  obtain ⟨-, l0, l1⟩ := ha
  have e : ((2 ^ c.toNat : Nat) : Int) = (2 : Int) ^ c.toNat := by rw [Int.natCast_pow]; rfl
  have h32 := two5 (C := c.toNat) (by omega)
  exact ⟨c.toNat, l.toNat, r.toNat, by omega, by omega, by omega, by omega, by omega, by omega, by omega, by omega⟩
section
set_option maxRecDepth 20000
set_option maxHeartbeats 3200000
theorem round10_any (C : Nat) (hC : C ≤ 5) (v : Value) (l : List (Int × Int)) (hd : DepsN C l) (x : Nat) (hx : x < 32) (w : World) (hr : ReadD w v l) (hl : l.length ≤ 1048576) :
    Calls Tryz.prog 71 #[v, .int .i64 (x : Int)] w fun e w' => e = .returned (.int .i64 (rdTo l x l.length : Int)) ∧ Below w.heap.size w w' := by
  have HR := Lib.hid (fun w' (hb : Below w.heap.size w w') => hr.kept hb)
  obtain ⟨a, cap, rfl, -⟩ := hr
  have HD := Lib.hid hd
  have HRD := Lib.hid (fun i hi => (rdTo_facts hC hd hx i hi).1)
  clear hd hx
  go_enter Tryz.func71, Tryz.ntmps71
  go_wp2_with fail
  go_loopw [1, 9] (fun xv iv wr => ∃ i : Nat, i ≤ l.length ∧ iv = .int .i64 (i : Int) ∧ xv = .int .i64 (rdTo l x i : Int) ∧ Hid (Below w.heap.size w wr)) (fun _ iv _ => l.length - (intOf iv).toNat)
  case atStart => exact ⟨0, by omega, rfl, rfl, Lib.hid (Below.refl _ _)⟩
  case round =>
    obtain ⟨i, hi, rfl, rfl, HB⟩ := hrel
    obtain ⟨w3, hw⟩ : ∃ w', w' = wr := ⟨_, rfl⟩
    rw [← hw] at HB ⊢
    clear hw
    have z2 : (0 : Int) ≤ (i : Int) := by omega
    by_cases hlt2 : i < l.length
    · obtain ⟨b, o, rfl, h0, h1⟩ := readD_cells (HR.out w3 HB.out) hlt2
      have z3 : (i : Int) < (l.length : Int) := by omega
      obtain ⟨L, R, e, hL, hR⟩ := HD.out _ (memD hlt2)
      have hX32 := HRD.out i hi
      have hS : rdTo l x (i + 1) = stN (rdTo l x i) (l.getD i (0, 0)) := rfl
      obtain ⟨X, hX⟩ : ∃ X, X = rdTo l x i := ⟨_, rfl⟩
      rw [← hX] at hX32 hS ⊢
      rw [e] at h0 h1 hS
      simp only at h0 h1
      have HSX : Hid (rdTo l x (i + 1) = if subN L X = true then orN X R else X) := Lib.hid (by rw [hS]; rfl)
      have h32 := two5 hC
      have HP := Lib.hid (fun w' => applies10_any L X (R : Int) (by omega) hX32 w')
      have HA := Lib.hid (fun w' => added10_any X R (L : Int) hX32 (by omega) w')
      have HB4 := Lib.hid (HB.out.alloc HB.out.size (.cells #[.int .i64 (L : Int), .int .i64 (R : Int)] 35))
      obtain ⟨d0, d1⟩ := zero2 w3 35 (.int .i64 (L : Int)) (.int .i64 (R : Int))
      have HDD := Lib.hid (And.intro d0 d1)
      clear e hX hS
      cases hs : subN L X with
      | true =>
        rw [hs] at HSX HP
        clear hs
        go_wp2_with fail
        refine (HP.out _).mono ?_
        rintro e' w4 ⟨rfl, b4⟩
        have k0 := keep_in HDD.out.1 b4
        have k1 := keep_in HDD.out.2 b4
        have HB5 := Lib.hid (HB4.out.trans (b4.mono HB4.out.size))
        clear b4 d0 d1 h0 h1
        go_wp2_with fail
        refine (HA.out _).mono ?_
        rintro e' w5 ⟨rfl, b5⟩
        have HB6 := Lib.hid (HB5.out.trans (b5.mono HB5.out.size))
        clear b5 k0 k1
        go_wp2_with fail
        go_roundw
        case rel => exact ⟨i + 1, by omega, by go_num, by rw [HSX.out, if_pos (by first | trivial | rfl)], HB6⟩
        case measure => simp [intOf]; omega
      | false =>
        rw [hs] at HSX HP
        clear hs
        go_wp2_with fail
        refine (HP.out _).mono ?_
        rintro e' w4 ⟨rfl, b4⟩
        have HB5 := Lib.hid (HB4.out.trans (b4.mono HB4.out.size))
        clear b4 d0 d1 h0 h1
        go_wp2_with fail
        go_roundw
        case rel => exact ⟨i + 1, by omega, by go_num, by rw [HSX.out]; rfl, HB5⟩
        case measure => simp [intOf]; omega
    · obtain rfl : i = l.length := by omega
      go_wp2_with fail
      go_ret
      exact ⟨rfl, HB.out⟩
/-- Rounds by a method value until nothing changes. -/
theorem settled10_any (C : Nat) (hC : C ≤ 5) (v : Value) (l : List (Int × Int)) (hd : DepsN C l) (x : Nat) (hx : x < 32) (w : World) (hr : ReadD w v l) (hl : l.length ≤ 1048576) :
    Calls Tryz.prog 70 #[.int .i64 (x : Int), .func (.func 71) #[v] #[]] w fun e w' => e = .returned (.int .i64 (clo l x : Int)) ∧ Below w.heap.size w w' := by
  have HP := Lib.hid (fun y hy w' (hb : Below w.heap.size w w') => round10_any C hC v l hd y hy w' (hr.kept hb) hl)
  have HF := Lib.hid (fun (y : Nat) (hy : y < 32) => rdTo_facts hC hd hy l.length (Nat.le_refl _))
  have HU := Lib.hid (fun (y : Nat) (hy : y < 32) h1 h2 h3 => clo_unique hC hd hx hy h1 h2 h3)
  have HST := Lib.hid (fun (y : Nat) (hy : y < 32) h => rd_still hC hd hy h)
  have HX := Lib.hid hx
  have HQ0 := Lib.hid (HP.out x hx w (Below.refl _ _))
  clear hr hd hx
  go_enter Tryz.func70, Tryz.ntmps70
  go_wp2_with fail
  refine HQ0.out.mono ?_
  rintro e0 w1 ⟨rfl, b1⟩
  have HB1 := Lib.hid b1
  clear b1
  go_wp2_with fail
  go_loopw [0, 5] (fun xv nv wr => ∃ y : Nat, xv = .int .i64 (y : Int) ∧ nv = .int .i64 (rdTo l y l.length : Int) ∧ Hid (y < 32 ∧ subN x y = true ∧ ∀ z, z < 32 → subN x z = true → ClosedN l z → subN y z = true) ∧ Hid (Below w.heap.size w wr)) (fun xv _ _ => 6 - popN (intOf xv).toNat)
  case atStart => exact ⟨x, rfl, rfl, Lib.hid ⟨HX.out, subN_refl _, fun z _ h _ => h⟩, HB1⟩
  case round =>
    obtain ⟨y, rfl, rfl, HY, HB⟩ := hrel
    obtain ⟨w3, hw⟩ : ∃ w', w' = wr := ⟨_, rfl⟩
    rw [← hw] at HB ⊢
    clear hw
    obtain ⟨f1, f2, -, f4⟩ := HF.out y HY.out.1
    have HST2 := Lib.hid (HST.out y HY.out.1)
    obtain ⟨z, hz⟩ : ∃ z, z = rdTo l y l.length := ⟨_, rfl⟩
    rw [← hz] at f1 f2 f4 HST2 ⊢
    have F1 := Lib.hid f1
    have F2 := Lib.hid f2
    have F4 := Lib.hid f4
    have HQ := Lib.hid (HP.out z f1 w3 HB.out)
    clear hz f1 f2 f4
    by_cases he : z = y
    · subst he
      have HE : Hid (clo l x = z) := Lib.hid (HU.out z HY.out.1 HY.out.2.1 (HST2.out rfl) HY.out.2.2).symm
      go_wp2_with fail
      go_ret
      exact ⟨ret_int (by rw [HE.out]), HB.out⟩
    · have hne : ((z : Int) == (y : Int)) = false := by rw [beq_eq_false_iff_ne]; omega
      have HPO : Hid (popN y + 1 ≤ popN z) := Lib.hid (popN_up ⟨y, HY.out.1⟩ ⟨z, F1.out⟩ F2.out (fun e => he (congrArg Fin.val e).symm))
      clear he
      go_wp2_with fail
      refine HQ.out.mono ?_
      rintro e' w4 ⟨rfl, b4⟩
      have HB4 := Lib.hid (HB.out.trans (b4.mono HB.out.size))
      clear b4
      go_wp2_with fail
      go_roundw
      case rel => exact ⟨z, rfl, rfl, Lib.hid ⟨F1.out, subN_trans HY.out.2.1 F2.out, fun q hq h1 h2 => F4.out q hq (HY.out.2.2 q hq h1 h2) h2⟩, HB4⟩
      case measure => have h1 := HPO.out; have h2 := popN_le z; simp [intOf]; omega
theorem implAreDeps_any (v : Value) (n : Int) (l : List (Int × Int)) (_w0 : (Lit.int .i64 n).wf = true) (bd : ∀ d ∈ l, (Lit.int .i64 d.1).wf = true ∧ (Lit.int .i64 d.2).wf = true) (w : World) (hr : ReadD w v l) (hl : l.length ≤ 1048576) :
    Calls Tryz.prog 22 #[.int .i64 n, v] w fun e w' => e = .returned (.bool (arD n l)) ∧ Below w.heap.size w w' := by
  have HI := Lib.hid (firstOut_any v n l bd w hr hl)
  obtain ⟨a, cap, rfl, -⟩ := hr
  clear bd
  have HC := Lib.hid (fun w' => colCount_any n w')
  by_cases h1 : 1 ≤ n
  · by_cases h5 : n ≤ 5
    · rw [decide_eq_true (show 0 ≤ n ∧ n ≤ 5 by omega)] at HC
      by_cases h20 : l.length ≤ 20
      · have HE : Hid (arD n l = decide (ixZ (fun d : Int × Int => !depB n d.1 d.2) l < 0)) := Lib.hid (by
          unfold arD
          rw [ixZ_neg, decide_eq_true h20, decide_eq_true (show 1 ≤ n ∧ n ≤ 5 by omega), Bool.and_self, Bool.and_true]
          congr 1; funext d; rw [Bool.not_not])
        obtain ⟨q, hq⟩ : ∃ q, q = ixZ (fun d : Int × Int => !depB n d.1 d.2) l := ⟨_, rfl⟩
        rw [← hq] at HI HE
        have h20' : (l.length : Int) ≤ 20 := by omega
        clear hq h5
        go_enter Tryz.func22, Tryz.ntmps22
        go_wp2_with fail
        refine (HC.out _).mono ?_
        rintro e w1 ⟨rfl, rfl⟩
        go_wp2_with fail
        refine HI.out.mono ?_
        rintro e w2 ⟨rfl, b2⟩
        go_wp2_with fail
        go_ret
        exact ⟨ret_b HE.out, b2⟩
      · have HE : Hid (arD n l = false) := Lib.hid (by unfold arD; rw [decide_eq_false h20, Bool.and_false, Bool.and_false])
        have h20' : ¬ (l.length : Int) ≤ 20 := by omega
        clear h5
        go_enter Tryz.func22, Tryz.ntmps22
        go_wp2_with fail
        refine (HC.out _).mono ?_
        rintro e w1 ⟨rfl, rfl⟩
        go_wp2_with fail
        go_ret
        exact ⟨ret_b HE.out, Below.refl _ _⟩
    · rw [decide_eq_false (show ¬ (0 ≤ n ∧ n ≤ 5) by omega)] at HC
      have HE : Hid (arD n l = false) := Lib.hid (by unfold arD; rw [decide_eq_false (show ¬ (1 ≤ n ∧ n ≤ 5) by omega), Bool.false_and, Bool.and_false])
      clear h5
      go_enter Tryz.func22, Tryz.ntmps22
      go_wp2_with fail
      refine (HC.out _).mono ?_
      rintro e w1 ⟨rfl, rfl⟩
      go_wp2_with fail
      go_ret
      exact ⟨ret_b HE.out, Below.refl _ _⟩
  · have HE : Hid (arD n l = false) := Lib.hid (by unfold arD; rw [decide_eq_false (show ¬ (1 ≤ n ∧ n ≤ 5) by omega), Bool.false_and, Bool.and_false])
    go_enter Tryz.func22, Tryz.ntmps22
    go_wp2_with fail
    go_ret
    exact ⟨ret_b HE.out, Below.refl _ _⟩
theorem implClosureOf_any (v : Value) (n s : Int) (l : List (Int × Int)) (_w0 : (Lit.int .i64 n).wf = true) (bd : ∀ d ∈ l, (Lit.int .i64 d.1).wf = true ∧ (Lit.int .i64 d.2).wf = true) (_w2 : (Lit.int .i64 s).wf = true) (w : World) (hr : ReadD w v l) (hl : l.length ≤ 1048576) :
    Calls Tryz.prog 33 #[.int .i64 n, v, .int .i64 s] w fun e w' => e = .returned (.int .i64 (cloZ n l s)) ∧ Below w.heap.size w w' := by
  have HAD := Lib.hid (implAreDeps_any v n l _w0 bd w hr hl)
  have HIA := Lib.hid (fun w' => implIsA_any n s (wf_i64_ge _w2) (wf_i64_le _w2) w')
  clear bd
  cases ha : arD n l with
  | false =>
    rw [ha] at HAD
    have HE : Hid (cloZ n l s = 0) := Lib.hid (by unfold cloZ; rw [ha]; rfl)
    obtain ⟨a, cap, rfl, -⟩ := hr
    clear ha
    go_enter Tryz.func33, Tryz.ntmps33
    go_wp2_with fail
    refine HAD.out.mono ?_
    rintro e w1 ⟨rfl, b1⟩
    go_wp2_with fail
    go_ret
    exact ⟨ret_int HE.out.symm, b1⟩
  | true =>
    rw [ha] at HAD
    cases hs : isA n s with
    | false =>
      rw [hs] at HIA
      have HE : Hid (cloZ n l s = 0) := Lib.hid (by unfold cloZ; rw [hs, Bool.and_false]; rfl)
      obtain ⟨a, cap, rfl, -⟩ := hr
      clear ha hs
      go_enter Tryz.func33, Tryz.ntmps33
      go_wp2_with fail
      refine HAD.out.mono ?_
      rintro e w1 ⟨rfl, b1⟩
      go_wp2_with fail
      refine (HIA.out _).mono ?_
      rintro e w2 ⟨rfl, b2⟩
      have hb := b1.trans (b2.mono b1.size)
      clear b1 b2
      go_wp2_with fail
      go_ret
      exact ⟨ret_int HE.out.symm, hb⟩
    | true =>
      rw [hs] at HIA
      obtain ⟨C, rfl, hC1, hC5, -, hd⟩ := arD_n ha
      obtain ⟨X, rfl, hX, -⟩ := isA_lt hC5 hs
      have HE : Hid (cloZ (C : Int) l (X : Int) = (clo l X : Int)) := Lib.hid (by unfold cloZ; rw [ha, hs]; rfl)
      have HC := Lib.hid (fun w' (hb : Below w.heap.size w w') => settled10_any C hC5 v l hd X hX w' (hr.kept hb) hl)
      obtain ⟨a, cap, rfl, -⟩ := hr
      clear ha hs hd
      go_enter Tryz.func33, Tryz.ntmps33
      go_wp2_with fail
      refine HAD.out.mono ?_
      rintro e w1 ⟨rfl, b1⟩
      go_wp2_with fail
      refine (HIA.out _).mono ?_
      rintro e w2 ⟨rfl, b2⟩
      have hb := b1.trans (b2.mono b1.size)
      clear b1 b2
      go_wp2_with fail
      refine (HC.out _ hb).mono ?_
      rintro e w3 ⟨rfl, b3⟩
      have hb3 := hb.trans (b3.mono hb.size)
      clear hb b3
      go_wp2_with fail
      go_ret
      exact ⟨ret_int HE.out.symm, hb3⟩
theorem implImpliesDep_any (v : Value) (n x y : Int) (l : List (Int × Int)) (_w0 : (Lit.int .i64 n).wf = true) (bd : ∀ d ∈ l, (Lit.int .i64 d.1).wf = true ∧ (Lit.int .i64 d.2).wf = true) (_wx : (Lit.int .i64 x).wf = true) (_wy : (Lit.int .i64 y).wf = true) (w : World) (hr : ReadD w v l) (hl : l.length ≤ 1048576) :
    Calls Tryz.prog 11 #[.int .i64 n, v, .agg #[.int .i64 x, .int .i64 y]] w fun e w' => e = .returned (.bool (impB n l (x, y))) ∧ Below w.heap.size w w' := by
  have HID := Lib.hid (fun w' => implIsDep_all n x y _wx w')
  have HB1 := Lib.hid ((Below.refl w.heap.size w).alloc (Nat.le_refl _) (.cells #[.int .i64 x, .int .i64 y] 35))
  obtain ⟨c0, c1⟩ := zero2 w 35 (.int .i64 x) (.int .i64 y)
  cases hd : depB n x y with
  | false =>
    rw [hd] at HID
    have HE : Hid (impB n l (x, y) = false) := Lib.hid (by unfold impB; rw [hd, Bool.false_and, Bool.and_false])
    obtain ⟨a, cap, rfl, -⟩ := hr
    clear hd bd
    go_enter Tryz.func11, Tryz.ntmps11
    go_upto_region 1 with fail
    obtain ⟨W1, hW⟩ : ∃ W1, W1 = (w.alloc (.cells #[.int .i64 (x), .int .i64 (y)] 35)) := ⟨_, rfl⟩
    rw [← hW] at c0 c1 HB1 ⊢
    clear hW
    refine wp_region_noPanic ?_
    refine wp_region_held_drew (S := (fun w' => (w'.cell? ⟨w.heap.size, 0, none⟩ = some (.int .i64 (x)) ∧ w'.cell? ⟨w.heap.size, 1, none⟩ = some (.int .i64 (y))) ∧ Below W1.heap.size W1 w')) (by kernel_rfl) ?_ (fun hHeld => ?_)
    · ((try dsimp only); exact ⟨⟨c0, c1⟩, (Below.refl _ _).drew⟩)
    refine wpAnyH_take (i := 0) (v := ?_) rfl (by kernel_rfl) (by kernel_rfl) (by kernel_rfl) (fun _ _ _ h => h) (Or.inl ⟨by rfl, ?_⟩) (by assumption) ?_
    rotate_left
    · (intro w hSw; (try dsimp only at hSw); go_simp; (try with_reducible rfl))
    (try simp only [Act.put, List.getElem_toArray, List.getElem_cons_zero, List.setIfInBounds_toArray, List.set_cons_zero, List.set_cons_succ])
    refine wpAnyH_take (i := 1) (v := ?_) rfl (by kernel_rfl) (by kernel_rfl) (by kernel_rfl) (fun _ _ _ h => h) (Or.inl ⟨by rfl, ?_⟩) (by assumption) ?_
    rotate_left
    · (intro w hSw; (try dsimp only at hSw); go_simp; (try with_reducible rfl))
    (try simp only [Act.put, List.getElem_toArray, List.getElem_cons_succ, List.getElem_cons_zero, List.setIfInBounds_toArray, List.set_cons_zero, List.set_cons_succ])
    refine wpAnyH_ready (rs := [2]) (by kernel_rfl) (by simp) (AllReadyH.cons rfl (fun K hK => ?_) AllReadyH.nil)
    (first | (go_at_call 32; refine (HID.out _).mono ?_; rintro e w91 ⟨rfl, b91⟩) | (go_simp; go_at_call 32; refine (HID.out _).mono ?_; rintro e w91 ⟨rfl, b91⟩))
    (try (go_wp2_with fail))
    refine hK.out _ _ ?_ (fun hHeld => ?_)
    · ((try dsimp only); exact ⟨⟨keep_in hHeld.1.1 b91, keep_in hHeld.1.2 b91⟩, hHeld.2.trans (b91.mono hHeld.2.size)⟩)
    clear hK K
    (try simp only [Act.put, List.getElem_toArray, List.getElem_cons_succ, List.getElem_cons_zero, List.setIfInBounds_toArray, List.set_cons_zero, List.set_cons_succ])
    refine wpAnyH_take (i := 3) (v := ?_) rfl (by kernel_rfl) (by kernel_rfl) (by kernel_rfl) (fun _ _ _ h => h) (Or.inl ⟨by rfl, ?_⟩) (by assumption) ?_
    rotate_left
    · (intro w hSw; (try dsimp only at hSw); go_simp; (try with_reducible rfl))
    (try simp only [Act.put, List.getElem_toArray, List.getElem_cons_succ, List.getElem_cons_zero, List.setIfInBounds_toArray, List.set_cons_zero, List.set_cons_succ])
    refine wpAnyH_take (i := 4) (v := undef) rfl (by kernel_rfl) (by kernel_rfl) (by kernel_rfl) (fun _ _ _ h => h) (Or.inr ⟨by rfl, rfl⟩) (by assumption) ?_
    (try simp only [Act.put, List.getElem_toArray, List.getElem_cons_succ, List.getElem_cons_zero, List.setIfInBounds_toArray, List.set_cons_zero, List.set_cons_succ])
    refine wpAnyH_take (i := 5) (v := undef) rfl (by kernel_rfl) (by kernel_rfl) (by kernel_rfl) (fun _ _ _ h => h) (Or.inr ⟨by rfl, rfl⟩) (by assumption) ?_
    (try simp only [Act.put, List.getElem_toArray, List.getElem_cons_succ, List.getElem_cons_zero, List.setIfInBounds_toArray, List.set_cons_zero, List.set_cons_succ])
    refine wpAnyH_take (i := 6) (v := undef) rfl (by kernel_rfl) (by kernel_rfl) (by kernel_rfl) (fun _ _ _ h => h) (Or.inr ⟨by rfl, rfl⟩) (by assumption) ?_
    (try simp only [Act.put, List.getElem_toArray, List.getElem_cons_succ, List.getElem_cons_zero, List.setIfInBounds_toArray, List.set_cons_zero, List.set_cons_succ])
    refine wpAnyH_take (i := 7) (v := undef) rfl (by kernel_rfl) (by kernel_rfl) (by kernel_rfl) (fun _ _ _ h => h) (Or.inr ⟨by rfl, rfl⟩) (by assumption) ?_
    (try simp only [Act.put, List.getElem_toArray, List.getElem_cons_succ, List.getElem_cons_zero, List.setIfInBounds_toArray, List.set_cons_zero, List.set_cons_succ])
    refine wpAnyH_take (i := 8) (v := undef) rfl (by kernel_rfl) (by kernel_rfl) (by kernel_rfl) (fun _ _ _ h => h) (Or.inr ⟨by rfl, rfl⟩) (by assumption) ?_
    (try simp only [Act.put, List.getElem_toArray, List.getElem_cons_succ, List.getElem_cons_zero, List.setIfInBounds_toArray, List.set_cons_zero, List.set_cons_succ])
    refine wpAnyH_take (i := 9) (v := undef) rfl (by kernel_rfl) (by kernel_rfl) (by kernel_rfl) (fun _ _ _ h => h) (Or.inr ⟨by rfl, rfl⟩) (by assumption) ?_
    (try simp only [Act.put, List.getElem_toArray, List.getElem_cons_succ, List.getElem_cons_zero, List.setIfInBounds_toArray, List.set_cons_zero, List.set_cons_succ])
    refine wpAnyH_take (i := 10) (v := undef) rfl (by kernel_rfl) (by kernel_rfl) (by kernel_rfl) (fun _ _ _ h => h) (Or.inr ⟨by rfl, rfl⟩) (by assumption) ?_
    (try simp only [Act.put, List.getElem_toArray, List.getElem_cons_succ, List.getElem_cons_zero, List.setIfInBounds_toArray, List.set_cons_zero, List.set_cons_succ])
    refine wpAnyH_take (i := 11) (v := undef) rfl (by kernel_rfl) (by kernel_rfl) (by kernel_rfl) (fun _ _ _ h => h) (Or.inr ⟨by rfl, rfl⟩) (by assumption) ?_
    (try simp only [Act.put, List.getElem_toArray, List.getElem_cons_succ, List.getElem_cons_zero, List.setIfInBounds_toArray, List.set_cons_zero, List.set_cons_succ])
    refine wpAnyH_take (i := 12) (v := ?_) rfl (by kernel_rfl) (by kernel_rfl) (by kernel_rfl) (fun _ _ _ h => h) (Or.inl ⟨by rfl, ?_⟩) (by assumption) ?_
    rotate_left
    · (intro w hSw; (try dsimp only at hSw); go_simp; (try with_reducible rfl))
    (try simp only [Act.put, List.getElem_toArray, List.getElem_cons_succ, List.getElem_cons_zero, List.setIfInBounds_toArray, List.set_cons_zero, List.set_cons_succ])
    refine wpAnyH_take (i := 13) (v := ?_) rfl (by kernel_rfl) (by kernel_rfl) (by kernel_rfl) (fun _ _ _ h => h) (Or.inl ⟨by rfl, ?_⟩) (by assumption) ?_
    rotate_left
    · (intro w hSw; (try dsimp only at hSw); go_simp; (try with_reducible rfl))
    (try simp only [Act.put, List.getElem_toArray, List.getElem_cons_succ, List.getElem_cons_zero, List.setIfInBounds_toArray, List.set_cons_zero, List.set_cons_succ])
    refine wpAnyH_done (by kernel_rfl) ?_ _
    refine NoPanic.normal ?_
    have hbE := HB1.out.trans (hHeld.2.mono HB1.out.size)
    clear hHeld c0 c1
    go_wp2_with fail
    go_ret
    exact ⟨ret_b HE.out, hbE⟩
  | true =>
    rw [hd] at HID
    obtain ⟨C, L, R, rfl, rfl, rfl, hC1, hC5, hLC, hL, hR⟩ := depB_c hd
    have HCL := Lib.hid (fun w' (hb : Below w.heap.size w w') => implClosureOf_any v (C : Int) (L : Int) l _w0 bd _wx w' (hr.kept hb) hl)
    obtain ⟨Z, hZ, HE⟩ : ∃ Z : Nat, cloZ (C : Int) l (L : Int) = (Z : Int) ∧ Hid (impB (C : Int) l ((L : Int), (R : Int)) = bitB Z R) := by
      cases ha : arD (C : Int) l with
      | false => exact ⟨0, by unfold cloZ; rw [ha]; rfl, Lib.hid (by unfold impB bitB; rw [ha, Nat.zero_div]; rfl)⟩
      | true =>
        have hA := (depB_iff.1 hd).2.1
        exact ⟨clo l L, by unfold cloZ; rw [ha, hA]; rfl, Lib.hid (by unfold impB; rw [ha, hd]; rfl)⟩
    rw [hZ] at HCL
    have HHS := Lib.hid (fun w' => (has_any Z R (by omega) w').mono (fun e w'' h => show e = .returned (.bool (bitB Z R)) ∧ Below w'.heap.size w' w'' from ⟨h.1, h.2 ▸ Below.refl _ _⟩))
    obtain ⟨a, cap, rfl, -⟩ := hr
    clear hZ hd bd
    go_enter Tryz.func11, Tryz.ntmps11
    go_upto_region 1 with fail
    obtain ⟨W1, hW⟩ : ∃ W1, W1 = (w.alloc (.cells #[.int .i64 ((L : Int)), .int .i64 ((R : Int))] 35)) := ⟨_, rfl⟩
    rw [← hW] at c0 c1 HB1 ⊢
    clear hW
    refine wp_region_noPanic ?_
    refine wp_region_held_drew (S := (fun w' => (w'.cell? ⟨w.heap.size, 0, none⟩ = some (.int .i64 ((L : Int))) ∧ w'.cell? ⟨w.heap.size, 1, none⟩ = some (.int .i64 ((R : Int)))) ∧ Below W1.heap.size W1 w')) (by kernel_rfl) ?_ (fun hHeld => ?_)
    · ((try dsimp only); exact ⟨⟨c0, c1⟩, (Below.refl _ _).drew⟩)
    refine wpAnyH_take (i := 0) (v := ?_) rfl (by kernel_rfl) (by kernel_rfl) (by kernel_rfl) (fun _ _ _ h => h) (Or.inl ⟨by rfl, ?_⟩) (by assumption) ?_
    rotate_left
    · (intro w hSw; (try dsimp only at hSw); go_simp; (try with_reducible rfl))
    (try simp only [Act.put, List.getElem_toArray, List.getElem_cons_zero, List.setIfInBounds_toArray, List.set_cons_zero, List.set_cons_succ])
    refine wpAnyH_take (i := 1) (v := ?_) rfl (by kernel_rfl) (by kernel_rfl) (by kernel_rfl) (fun _ _ _ h => h) (Or.inl ⟨by rfl, ?_⟩) (by assumption) ?_
    rotate_left
    · (intro w hSw; (try dsimp only at hSw); go_simp; (try with_reducible rfl))
    (try simp only [Act.put, List.getElem_toArray, List.getElem_cons_succ, List.getElem_cons_zero, List.setIfInBounds_toArray, List.set_cons_zero, List.set_cons_succ])
    refine wpAnyH_ready (rs := [2]) (by kernel_rfl) (by simp) (AllReadyH.cons rfl (fun K hK => ?_) AllReadyH.nil)
    (first | (go_at_call 32; refine (HID.out _).mono ?_; rintro e w91 ⟨rfl, b91⟩) | (go_simp; go_at_call 32; refine (HID.out _).mono ?_; rintro e w91 ⟨rfl, b91⟩))
    (try (go_wp2_with fail))
    refine hK.out _ _ ?_ (fun hHeld => ?_)
    · ((try dsimp only); exact ⟨⟨keep_in hHeld.1.1 b91, keep_in hHeld.1.2 b91⟩, hHeld.2.trans (b91.mono hHeld.2.size)⟩)
    clear hK K
    (try simp only [Act.put, List.getElem_toArray, List.getElem_cons_succ, List.getElem_cons_zero, List.setIfInBounds_toArray, List.set_cons_zero, List.set_cons_succ])
    refine wpAnyH_take (i := 3) (v := ?_) rfl (by kernel_rfl) (by kernel_rfl) (by kernel_rfl) (fun _ _ _ h => h) (Or.inl ⟨by rfl, ?_⟩) (by assumption) ?_
    rotate_left
    · (intro w hSw; (try dsimp only at hSw); go_simp; (try with_reducible rfl))
    (try simp only [Act.put, List.getElem_toArray, List.getElem_cons_succ, List.getElem_cons_zero, List.setIfInBounds_toArray, List.set_cons_zero, List.set_cons_succ])
    refine wpAnyH_take (i := 4) (v := ?_) rfl (by kernel_rfl) (by kernel_rfl) (by kernel_rfl) (fun _ _ _ h => h) (Or.inl ⟨by rfl, ?_⟩) (by assumption) ?_
    rotate_left
    · (intro w hSw; (try dsimp only at hSw); go_simp; (try with_reducible rfl))
    (try simp only [Act.put, List.getElem_toArray, List.getElem_cons_succ, List.getElem_cons_zero, List.setIfInBounds_toArray, List.set_cons_zero, List.set_cons_succ])
    refine wpAnyH_take (i := 5) (v := ?_) rfl (by kernel_rfl) (by kernel_rfl) (by kernel_rfl) (fun _ _ _ h => h) (Or.inl ⟨by rfl, ?_⟩) (by assumption) ?_
    rotate_left
    · (intro w hSw; (try dsimp only at hSw); go_simp; (try with_reducible rfl))
    (try simp only [Act.put, List.getElem_toArray, List.getElem_cons_succ, List.getElem_cons_zero, List.setIfInBounds_toArray, List.set_cons_zero, List.set_cons_succ])
    refine wpAnyH_take (i := 6) (v := ?_) rfl (by kernel_rfl) (by kernel_rfl) (by kernel_rfl) (fun _ _ _ h => h) (Or.inl ⟨by rfl, ?_⟩) (by assumption) ?_
    rotate_left
    · (intro w hSw; (try dsimp only at hSw); go_simp; (try with_reducible rfl))
    (try simp only [Act.put, List.getElem_toArray, List.getElem_cons_succ, List.getElem_cons_zero, List.setIfInBounds_toArray, List.set_cons_zero, List.set_cons_succ])
    refine wpAnyH_take (i := 7) (v := ?_) rfl (by kernel_rfl) (by kernel_rfl) (by kernel_rfl) (fun _ _ _ h => h) (Or.inl ⟨by rfl, ?_⟩) (by assumption) ?_
    rotate_left
    · (intro w hSw; (try dsimp only at hSw); go_simp; (try with_reducible rfl))
    (try simp only [Act.put, List.getElem_toArray, List.getElem_cons_succ, List.getElem_cons_zero, List.setIfInBounds_toArray, List.set_cons_zero, List.set_cons_succ])
    refine wpAnyH_take (i := 9) (v := ?_) rfl (by kernel_rfl) (by kernel_rfl) (by kernel_rfl) (fun _ _ _ h => h) (Or.inl ⟨by rfl, ?_⟩) (by assumption) ?_
    rotate_left
    · (intro w hSw; (try dsimp only at hSw); go_simp; (try with_reducible rfl))
    (try simp only [Act.put, List.getElem_toArray, List.getElem_cons_succ, List.getElem_cons_zero, List.setIfInBounds_toArray, List.set_cons_zero, List.set_cons_succ])
    refine wpAnyH_take (i := 10) (v := ?_) rfl (by kernel_rfl) (by kernel_rfl) (by kernel_rfl) (fun _ _ _ h => h) (Or.inl ⟨by rfl, ?_⟩) (by assumption) ?_
    rotate_left
    · (intro w hSw; (try dsimp only at hSw); go_simp; (try with_reducible rfl))
    (try simp only [Act.put, List.getElem_toArray, List.getElem_cons_succ, List.getElem_cons_zero, List.setIfInBounds_toArray, List.set_cons_zero, List.set_cons_succ])
    refine wpAnyH_ready (rs := [8]) (by kernel_rfl) (by simp) (AllReadyH.cons rfl (fun K hK => ?_) AllReadyH.nil)
    (first | (go_at_call 33; refine (HCL.out _ (HB1.out.trans (hHeld.2.mono HB1.out.size))).mono ?_; rintro e w92 ⟨rfl, b92⟩) | (go_simp; go_at_call 33; refine (HCL.out _ (HB1.out.trans (hHeld.2.mono HB1.out.size))).mono ?_; rintro e w92 ⟨rfl, b92⟩))
    (try (go_wp2_with fail))
    refine hK.out _ _ ?_ (fun hHeld => ?_)
    · ((try dsimp only); exact ⟨⟨keep_in hHeld.1.1 b92, keep_in hHeld.1.2 b92⟩, hHeld.2.trans (b92.mono hHeld.2.size)⟩)
    clear hK K
    (try simp only [Act.put, List.getElem_toArray, List.getElem_cons_succ, List.getElem_cons_zero, List.setIfInBounds_toArray, List.set_cons_zero, List.set_cons_succ])
    refine wpAnyH_ready (rs := [11]) (by kernel_rfl) (by simp) (AllReadyH.cons rfl (fun K hK => ?_) AllReadyH.nil)
    (first | (go_at_call 34; refine (HHS.out _).mono ?_; rintro e w93 ⟨rfl, b93⟩) | (go_simp; go_at_call 34; refine (HHS.out _).mono ?_; rintro e w93 ⟨rfl, b93⟩))
    (try (go_wp2_with fail))
    refine hK.out _ _ ?_ (fun hHeld => ?_)
    · ((try dsimp only); exact ⟨⟨keep_in hHeld.1.1 b93, keep_in hHeld.1.2 b93⟩, hHeld.2.trans (b93.mono hHeld.2.size)⟩)
    clear hK K
    (try simp only [Act.put, List.getElem_toArray, List.getElem_cons_succ, List.getElem_cons_zero, List.setIfInBounds_toArray, List.set_cons_zero, List.set_cons_succ])
    refine wpAnyH_take (i := 12) (v := ?_) rfl (by kernel_rfl) (by kernel_rfl) (by kernel_rfl) (fun _ _ _ h => h) (Or.inl ⟨by rfl, ?_⟩) (by assumption) ?_
    rotate_left
    · (intro w hSw; (try dsimp only at hSw); go_simp; (try with_reducible rfl))
    (try simp only [Act.put, List.getElem_toArray, List.getElem_cons_succ, List.getElem_cons_zero, List.setIfInBounds_toArray, List.set_cons_zero, List.set_cons_succ])
    refine wpAnyH_take (i := 13) (v := ?_) rfl (by kernel_rfl) (by kernel_rfl) (by kernel_rfl) (fun _ _ _ h => h) (Or.inl ⟨by rfl, ?_⟩) (by assumption) ?_
    rotate_left
    · (intro w hSw; (try dsimp only at hSw); go_simp; (try with_reducible rfl))
    (try simp only [Act.put, List.getElem_toArray, List.getElem_cons_succ, List.getElem_cons_zero, List.setIfInBounds_toArray, List.set_cons_zero, List.set_cons_succ])
    refine wpAnyH_done (by kernel_rfl) ?_ _
    refine NoPanic.normal ?_
    have hbE := HB1.out.trans (hHeld.2.mono HB1.out.size)
    clear hHeld c0 c1
    go_wp2_with fail
    go_ret
    exact ⟨ret_b HE.out, hbE⟩
end
end Go.Proofs.YtnbjcelfdppkcadGreat
