/- FnArmstrong, the walk. Conditions: the code is a readable slice of at most 1048576 bytes. -/
import Derived.Test.YtnbjcelfdppkcadGreatXz48
import Derived.Deep.RegionLaw
import Derived.Deep.CutBlock
import Derived.Deep.DeepCutAuto
namespace Go.Proofs.YtnbjcelfdppkcadGreat
open Go.RowKit

theorem pow_cast12 (C : Nat) : ((2 ^ C : Nat) : Int) = (2 : Int) ^ C := by rw [Int.natCast_pow]; rfl
set_option maxRecDepth 100000 in
set_option maxHeartbeats 12800000 in
theorem law_walk (v : Value) (n : Nat) (w : World) (hcode : CodeAt w v n) (hn : n ≤ 1048576) :
    Calls Tryz.prog 3 #[v] w fun e w' => e = .returned (.bool true) ∧ Below w.heap.size w w' := by
  have HBIG := Lib.hid (big_any v n (code_slice hcode))
  have HD1 := Lib.hid (drawArmstrong_any w v n hn hcode)
  have HD2 := Lib.hid (drawSat_any w v n hn hcode)
  have HD3 := Lib.hid (drawDas_any w v n hn hcode)
  have hbig : decide (1048576 < (n : Int)) = false := by simp; omega
  obtain ⟨a, cap, rfl⟩ := code_slice hcode
  go_enter Tryz.func3, Tryz.ntmps3
  go_wp2_with fail
  refine (HBIG.out _).mono ?_
  rintro e w' ⟨rfl, rfl⟩
  go_wp2_with fail
  refine (HD1.out _ (Below.refl _ _)).mono ?_
  rintro e w0 ⟨m, u, l, rfl, hL, hb⟩
  obtain ⟨is, tc, tl, ra⟩ := rt_of hL
  have HA := Lib.hid ra
  have HL := Lib.hid hL.2.2.1
  obtain ⟨au, cu, hu, -⟩ := hL.2.2.1
  subst hu
  have HB := Lib.hid hb
  clear ra hb hbig HBIG HD1 hL
  go_wp2_with fail
  refine (HA.out.a1 _ _ HL.out).mono ?_
  rintro e w1 ⟨vt, rfl, ot, b1⟩
  replace HB := Lib.hid (HB.out.trans (b1.mono HB.out.size))
  replace HL := Lib.hid (HL.out.kept b1)
  have HTL := Lib.hid ot.read
  obtain ⟨at_, ct_, rfl, -⟩ := ot.read
  clear ot b1
  go_upto_region 5 with fail
  have al := (Below.refl w1.heap.size w1).alloc (Nat.le_refl _) (.cells #[.int .i64 tc, .slice at_ tl.length ct_] 29)
  have HT := Lib.hid (bxt_new w1 tc (.slice at_ tl.length ct_))
  replace HB := Lib.hid (HB.out.trans (al.mono HB.out.size))
  replace HL := Lib.hid (HL.out.kept al)
  replace HTL := Lib.hid (HTL.out.kept al)
  obtain ⟨wx1, hwx⟩ : ∃ wb, wb = w1.alloc (.cells #[.int .i64 tc, .slice at_ tl.length ct_] 29) := ⟨_, rfl⟩
  rw [← hwx] at HB HL HTL HT ⊢
  obtain ⟨gt, hg⟩ : ∃ g, g = w1.heap.size := ⟨_, rfl⟩
  rw [← hg] at HT ⊢
  clear hwx hg al
  go_wp2_with fail
  refine (HA.out.a2 _ _ HL.out).mono ?_
  rintro e w2 ⟨vu, rfl, ou, b2⟩
  replace HB := Lib.hid (HB.out.trans (b2.mono HB.out.size))
  replace HL := Lib.hid (HL.out.kept b2)
  replace HTL := Lib.hid (HTL.out.kept b2)
  replace HT := Lib.hid (HT.out.keep b2)
  have HUL := Lib.hid ou.read
  obtain ⟨av_, cv_, rfl, -⟩ := ou.read
  clear ou b2
  go_upto_region 6 with fail
  have al := (Below.refl w2.heap.size w2).alloc (Nat.le_refl _) (.cells #[.int .i64 tc, .slice av_ tl.length cv_] 29)
  have HU := Lib.hid (bxt_new w2 tc (.slice av_ tl.length cv_))
  replace HB := Lib.hid (HB.out.trans (al.mono HB.out.size))
  replace HL := Lib.hid (HL.out.kept al)
  replace HTL := Lib.hid (HTL.out.kept al)
  replace HUL := Lib.hid (HUL.out.kept al)
  replace HT := Lib.hid (HT.out.keep al)
  obtain ⟨wx2, hwx⟩ : ∃ wb, wb = w2.alloc (.cells #[.int .i64 tc, .slice av_ tl.length cv_] 29) := ⟨_, rfl⟩
  rw [← hwx] at HB HL HTL HUL HT HU ⊢
  obtain ⟨gu, hg⟩ : ∃ g, g = w2.heap.size := ⟨_, rfl⟩
  rw [← hg] at HU ⊢
  clear hwx hg al
  have t0 := HT.out.c0
  have t1 := HT.out.c1
  have u0 := HU.out.c0
  have u1 := HU.out.c1
  have hii : (is != is) = false := by simp
  go_wp2_with fail
  refine (HA.out.et _ _ _ HTL.out HUL.out).mono ?_
  rintro e w3 ⟨rfl, b3⟩
  clear t0 t1 u0 u1
  replace HB := Lib.hid (HB.out.trans (b3.mono HB.out.size))
  replace HL := Lib.hid (HL.out.kept b3)
  replace HTL := Lib.hid (HTL.out.kept b3)
  replace HUL := Lib.hid (HUL.out.kept b3)
  replace HT := Lib.hid (HT.out.keep b3)
  replace HU := Lib.hid (HU.out.keep b3)
  clear b3
  go_wp2_with fail
  refine (HA.out.ar _ _ HL.out).mono ?_
  rintro e w4 ⟨rfl, b4⟩
  replace HB := Lib.hid (HB.out.trans (b4.mono HB.out.size))
  replace HL := Lib.hid (HL.out.kept b4)
  replace HTL := Lib.hid (HTL.out.kept b4)
  replace HUL := Lib.hid (HUL.out.kept b4)
  replace HT := Lib.hid (HT.out.keep b4)
  replace HU := Lib.hid (HU.out.keep b4)
  clear b4 HUL HU hii
  have HEX := Lib.hid HA.out.ex
  have HIT := Lib.hid HA.out.it
  have HSA := Lib.hid HA.out.sa
  go_upto_block 0 with fail
  go_cut [9, 10, 11] (fun _ _ _ wx => Hid (ReadD wx (.slice au l.length cu) l) ∧ Hid (ReadSS wx (.slice at_ tl.length ct_) tl) ∧ Hid (BxT wx gt tc (.slice at_ tl.length ct_)) ∧ Hid (Below w.heap.size w wx))
  case first =>
    cases is with
    | false =>
      go_wp2_with fail
      go_loopw [9, 10, 11] (fun xv rv dv wr => xv = .int .i64 0 ∧ Hid (ReadD wr (.slice au l.length cu) l) ∧ Hid (ReadSS wr (.slice at_ tl.length ct_) tl) ∧ Hid (BxT wr gt tc (.slice at_ tl.length ct_)) ∧ Hid (Below w.heap.size w wr)) (fun _ _ _ _ => 0)
      case atStart => exact ⟨rfl, HL, HTL, HT, HB⟩
      case round =>
        clear HL HTL HT HB
        obtain ⟨rfl, HL, HTL, HT, HB⟩ := hrel
        go_wp2_with fail
        go_meet
        exact ⟨HL, HTL, HT, HB⟩
    | true =>
      obtain ⟨C, hC0, hC5, hEX⟩ := HEX.out rfl
      subst hC0
      have HE := Lib.hid hEX
      obtain ⟨P, hP⟩ : ∃ P : Nat, P = 2 ^ C := ⟨_, rfl⟩
      have hP2 : (2 : Int) ^ C = (P : Int) := by rw [hP, pow_cast12]
      rw [← hP] at HE
      have hC0 : (0 : Int) ≤ (C : Int) := by omega
      have hC64 : C ≤ 64 := by omega
      have hP32 : P ≤ 32 := by rw [hP]; exact two5 hC5
      have hwp : IntKind.i64.wrap ((2 : Int) ^ C) = (P : Int) := by rw [hP2, IntKind.wrap_i64]; omega
      have hwp2 : wrap64 ((2 : Int) ^ C) = (P : Int) := by rw [hP2]; exact IntWalk.wrap64_in _ ⟨by omega, by omega⟩
      clear hEX hP
      go_wp2_with fail
      go_loopw [9, 10, 11] (fun xv rv dv wr => ∃ X : Nat, X ≤ P ∧ xv = .int .i64 (X : Int) ∧ Hid (ReadD wr (.slice au l.length cu) l) ∧ Hid (ReadSS wr (.slice at_ tl.length ct_) tl) ∧ Hid (BxT wr gt tc (.slice at_ tl.length ct_)) ∧ Hid (Below w.heap.size w wr)) (fun xv _ _ _ => P - (intOf xv).toNat)
      case atStart => exact ⟨0, by omega, rfl, HL, HTL, HT, HB⟩
      case round =>
        clear HL HTL HT HB
        obtain ⟨X, hX, rfl, HL, HTL, HT, HB⟩ := hrel
        obtain ⟨w5, hw⟩ : ∃ w', w' = wr := ⟨_, rfl⟩
        rw [← hw] at HL HTL HT HB ⊢
        clear hw
        have z0 : (0 : Int) ≤ (X : Int) := by omega
        by_cases hlt : X < P
        · have z1 : (X : Int) < (P : Int) := by omega
          go_wp2_with fail
          go_loopw [10, 11] (fun rv dv wr => ∃ R : Nat, R ≤ C ∧ rv = .int .i64 (R : Int) ∧ Hid (ReadD wr (.slice au l.length cu) l) ∧ Hid (ReadSS wr (.slice at_ tl.length ct_) tl) ∧ Hid (BxT wr gt tc (.slice at_ tl.length ct_)) ∧ Hid (Below w.heap.size w wr)) (fun rv _ _ => C - (intOf rv).toNat)
          case atStart => exact ⟨0, by omega, rfl, HL, HTL, HT, HB⟩
          case round =>
            clear HL HTL HT HB
            obtain ⟨R, hR, rfl, HL, HTL, HT, HB⟩ := hrel
            obtain ⟨w6, hw⟩ : ∃ w', w' = wr := ⟨_, rfl⟩
            rw [← hw] at HL HTL HT HB ⊢
            clear hw
            have y0 : (0 : Int) ≤ (R : Int) := by omega
            by_cases hlr : R < C
            · have y1 : (R : Int) < (C : Int) := by omega
              obtain ⟨q, hq1, hq2⟩ := HE.out X R hlt hlr
              have HQ1 := Lib.hid hq1
              have HQ2 := Lib.hid hq2
              clear hq1 hq2
              have hqq : (q != q) = false := by simp
              go_upto_region 15 with fail
              have al := (Below.refl w6.heap.size w6).alloc (Nat.le_refl _) (.cells #[.int .i64 (X : Int), .int .i64 (R : Int)] 35)
              have HX := Lib.hid (bx_new w6 (X : Int) (R : Int))
              replace HB := Lib.hid (HB.out.trans (al.mono HB.out.size))
              replace HL := Lib.hid (HL.out.kept al)
              replace HTL := Lib.hid (HTL.out.kept al)
              replace HT := Lib.hid (HT.out.keep al)
              obtain ⟨w7, hw7⟩ : ∃ w', w' = w6.alloc (.cells #[.int .i64 (X : Int), .int .i64 (R : Int)] 35) := ⟨_, rfl⟩
              rw [← hw7] at HX HB HL HTL HT ⊢
              obtain ⟨gd, hgd⟩ : ∃ g, g = w6.heap.size := ⟨_, rfl⟩
              rw [← hgd] at HX ⊢
              clear hw7 hgd al
              have d0 := HX.out.c0
              have d1 := HX.out.c1
              have t0 := HT.out.c0
              have t1 := HT.out.c1
              refine wp_region_noPanic ?_
              refine wp_region_held_drew (S := (fun w' => ((w'.cell? ⟨gd, 0, none⟩ = some (.int .i64 (X : Int)) ∧ w'.cell? ⟨gd, 1, none⟩ = some (.int .i64 (R : Int))) ∧ w'.cell? ⟨gt, 0, none⟩ = some (.int .i64 tc) ∧ w'.cell? ⟨gt, 1, none⟩ = some (.slice at_ tl.length ct_)) ∧ Below w7.heap.size w7 w')) (by kernel_rfl) ?_ (fun hHeld => ?_)
              · ((try dsimp only); exact ⟨⟨⟨d0, d1⟩, t0, t1⟩, (Below.refl _ _).drew⟩)
              refine wpAnyH_take (i := 0) (v := ?_) rfl (by kernel_rfl) (by kernel_rfl) (by kernel_rfl) (fun _ _ _ h => h) (Or.inl ⟨by rfl, ?_⟩) (by assumption) ?_
              rotate_left
              · (intro w hSw; (try dsimp only at hSw); go_simp; (try with_reducible rfl))
              (try simp only [Act.put, List.getElem_toArray, List.getElem_cons_zero, List.setIfInBounds_toArray, List.set_cons_zero, List.set_cons_succ])
              refine wpAnyH_take (i := 1) (v := ?_) rfl (by kernel_rfl) (by kernel_rfl) (by kernel_rfl) (fun _ _ _ h => h) (Or.inl ⟨by rfl, ?_⟩) (by assumption) ?_
              rotate_left
              · (intro w hSw; (try dsimp only at hSw); go_simp; (try with_reducible rfl))
              (try simp only [Act.put, List.getElem_toArray, List.getElem_cons_succ, List.getElem_cons_zero, List.setIfInBounds_toArray, List.set_cons_zero, List.set_cons_succ])
              refine wpAnyH_take (i := 3) (v := ?_) rfl (by kernel_rfl) (by kernel_rfl) (by kernel_rfl) (fun _ _ _ h => h) (Or.inl ⟨by rfl, ?_⟩) (by assumption) ?_
              rotate_left
              · (intro w hSw; (try dsimp only at hSw); go_simp; (try with_reducible rfl))
              (try simp only [Act.put, List.getElem_toArray, List.getElem_cons_succ, List.getElem_cons_zero, List.setIfInBounds_toArray, List.set_cons_zero, List.set_cons_succ])
              refine wpAnyH_take (i := 4) (v := ?_) rfl (by kernel_rfl) (by kernel_rfl) (by kernel_rfl) (fun _ _ _ h => h) (Or.inl ⟨by rfl, ?_⟩) (by assumption) ?_
              rotate_left
              · (intro w hSw; (try dsimp only at hSw); go_simp; (try with_reducible rfl))
              (try simp only [Act.put, List.getElem_toArray, List.getElem_cons_succ, List.getElem_cons_zero, List.setIfInBounds_toArray, List.set_cons_zero, List.set_cons_succ])
              refine wpAnyH_take (i := 5) (v := ?_) rfl (by kernel_rfl) (by kernel_rfl) (by kernel_rfl) (fun _ _ _ h => h) (Or.inl ⟨by rfl, ?_⟩) (by assumption) ?_
              rotate_left
              · (intro w hSw; (try dsimp only at hSw); go_simp; (try with_reducible rfl))
              (try simp only [Act.put, List.getElem_toArray, List.getElem_cons_succ, List.getElem_cons_zero, List.setIfInBounds_toArray, List.set_cons_zero, List.set_cons_succ])
              refine wpAnyH_ready (rs := [2]) (by kernel_rfl) (by simp) (AllReadyH.cons rfl (fun K hK => ?_) AllReadyH.nil)
              (first | ((go_at_call 10; refine (HQ1.out _ _ (HTL.out.kept hHeld.2)).mono ?_; rintro e w91 ⟨rfl, b91⟩)) | (go_simp; (go_at_call 10; refine (HQ1.out _ _ (HTL.out.kept hHeld.2)).mono ?_; rintro e w91 ⟨rfl, b91⟩)))
              (try (go_wp2_with fail))
              refine hK.out _ _ ?_ (fun hHeld => ?_)
              · ((try dsimp only); exact ⟨⟨⟨keep_in hHeld.1.1.1 b91, keep_in hHeld.1.1.2 b91⟩, keep_in hHeld.1.2.1 b91, keep_in hHeld.1.2.2 b91⟩, hHeld.2.trans (b91.mono hHeld.2.size)⟩)
              clear hK K
              (try simp only [Act.put, List.getElem_toArray, List.getElem_cons_succ, List.getElem_cons_zero, List.setIfInBounds_toArray, List.set_cons_zero, List.set_cons_succ])
              refine wpAnyH_ready (rs := [6]) (by kernel_rfl) (by simp) (AllReadyH.cons rfl (fun K hK => ?_) AllReadyH.nil)
              (first | ((go_at_call 11; refine (HQ2.out _ _ (HL.out.kept hHeld.2)).mono ?_; rintro e w92 ⟨rfl, b92⟩)) | (go_simp; (go_at_call 11; refine (HQ2.out _ _ (HL.out.kept hHeld.2)).mono ?_; rintro e w92 ⟨rfl, b92⟩)))
              (try (go_wp2_with fail))
              refine hK.out _ _ ?_ (fun hHeld => ?_)
              · ((try dsimp only); exact ⟨⟨⟨keep_in hHeld.1.1.1 b92, keep_in hHeld.1.1.2 b92⟩, keep_in hHeld.1.2.1 b92, keep_in hHeld.1.2.2 b92⟩, hHeld.2.trans (b92.mono hHeld.2.size)⟩)
              clear hK K
              (try simp only [Act.put, List.getElem_toArray, List.getElem_cons_succ, List.getElem_cons_zero, List.setIfInBounds_toArray, List.set_cons_zero, List.set_cons_succ])
              refine wpAnyH_take (i := 7) (v := ?_) rfl (by kernel_rfl) (by kernel_rfl) (by kernel_rfl) (fun _ _ _ h => h) (Or.inl ⟨by rfl, ?_⟩) (by assumption) ?_
              rotate_left
              · (intro w hSw; (try dsimp only at hSw); go_simp; (try with_reducible rfl))
              (try simp only [Act.put, List.getElem_toArray, List.getElem_cons_succ, List.getElem_cons_zero, List.setIfInBounds_toArray, List.set_cons_zero, List.set_cons_succ])
              refine wpAnyH_take (i := 8) (v := ?_) rfl (by kernel_rfl) (by kernel_rfl) (by kernel_rfl) (fun _ _ _ h => h) (Or.inl ⟨by rfl, ?_⟩) (by assumption) ?_
              rotate_left
              · (intro w hSw; (try dsimp only at hSw); go_simp; (try with_reducible rfl))
              (try simp only [Act.put, List.getElem_toArray, List.getElem_cons_succ, List.getElem_cons_zero, List.setIfInBounds_toArray, List.set_cons_zero, List.set_cons_succ])
              refine wpAnyH_take (i := 9) (v := undef) rfl (by kernel_rfl) (by kernel_rfl) (by kernel_rfl) (fun _ _ _ h => h) (Or.inr ⟨by rfl, rfl⟩) (by assumption) ?_
              (try simp only [Act.put, List.getElem_toArray, List.getElem_cons_succ, List.getElem_cons_zero, List.setIfInBounds_toArray, List.set_cons_zero, List.set_cons_succ])
              refine wpAnyH_take (i := 10) (v := undef) rfl (by kernel_rfl) (by kernel_rfl) (by kernel_rfl) (fun _ _ _ h => h) (Or.inr ⟨by rfl, rfl⟩) (by assumption) ?_
              (try simp only [Act.put, List.getElem_toArray, List.getElem_cons_succ, List.getElem_cons_zero, List.setIfInBounds_toArray, List.set_cons_zero, List.set_cons_succ])
              refine wpAnyH_take (i := 11) (v := undef) rfl (by kernel_rfl) (by kernel_rfl) (by kernel_rfl) (fun _ _ _ h => h) (Or.inr ⟨by rfl, rfl⟩) (by assumption) ?_
              (try simp only [Act.put, List.getElem_toArray, List.getElem_cons_succ, List.getElem_cons_zero, List.setIfInBounds_toArray, List.set_cons_zero, List.set_cons_succ])
              refine wpAnyH_take (i := 12) (v := undef) rfl (by kernel_rfl) (by kernel_rfl) (by kernel_rfl) (fun _ _ _ h => h) (Or.inr ⟨by rfl, rfl⟩) (by assumption) ?_
              (try simp only [Act.put, List.getElem_toArray, List.getElem_cons_succ, List.getElem_cons_zero, List.setIfInBounds_toArray, List.set_cons_zero, List.set_cons_succ])
              refine wpAnyH_take (i := 13) (v := undef) rfl (by kernel_rfl) (by kernel_rfl) (by kernel_rfl) (fun _ _ _ h => h) (Or.inr ⟨by rfl, rfl⟩) (by assumption) ?_
              (try simp only [Act.put, List.getElem_toArray, List.getElem_cons_succ, List.getElem_cons_zero, List.setIfInBounds_toArray, List.set_cons_zero, List.set_cons_succ])
              refine wpAnyH_take (i := 14) (v := ?_) rfl (by kernel_rfl) (by kernel_rfl) (by kernel_rfl) (fun _ _ _ h => h) (Or.inl ⟨by rfl, ?_⟩) (by assumption) ?_
              rotate_left
              · (intro w hSw; (try dsimp only at hSw); go_simp; (try with_reducible rfl))
              (try simp only [Act.put, List.getElem_toArray, List.getElem_cons_succ, List.getElem_cons_zero, List.setIfInBounds_toArray, List.set_cons_zero, List.set_cons_succ])
              refine wpAnyH_done (by kernel_rfl) ?_ _
              refine NoPanic.normal ?_
              have b9 := hHeld.2
              replace HB := Lib.hid (HB.out.trans (b9.mono HB.out.size))
              replace HL := Lib.hid (HL.out.kept b9)
              replace HTL := Lib.hid (HTL.out.kept b9)
              replace HT := Lib.hid (HT.out.keep b9)
              clear b9 hHeld d0 d1 t0 t1 HX b91 b92
              go_wp2_with fail
              go_roundw
              case rel => exact ⟨R + 1, by omega, by go_num, HL, HTL, HT, HB⟩
              case measure => simp [intOf]; omega
            · obtain rfl : R = C := by omega
              go_wp2_with fail
              go_roundw
              case rel => exact ⟨X + 1, by omega, by go_num, HL, HTL, HT, HB⟩
              case measure => simp [intOf]; omega
        · obtain rfl : X = P := by omega
          go_wp2_with fail
          go_meet
          exact ⟨HL, HTL, HT, HB⟩
  case rest =>
  clear HL HTL HT HB HEX
  obtain ⟨HL, HTL, HT, HB⟩ := hcut
  obtain ⟨wh, hw⟩ : ∃ w', w' = wc := ⟨_, rfl⟩
  rw [← hw] at HL HTL HT HB ⊢
  clear hw
  go_wp2_with fail
  refine (HD2.out _ HB.out).mono ?_
  rintro e w11 ⟨ac, ua, la, ma, ud, qd, hm0, hm1, rfl, hla, hra, hsa, hqa, hba, hda, b11⟩
  replace HB := Lib.hid (HB.out.trans (b11.mono HB.out.size))
  replace HL := Lib.hid (HL.out.kept b11)
  replace HTL := Lib.hid (HTL.out.kept b11)
  replace HT := Lib.hid (HT.out.keep b11)
  obtain ⟨bs, rs⟩ := rs_of (c := ac) hm0 hm1 hla hra hqa hba
  have HRS := Lib.hid rs
  have HTA := Lib.hid hsa
  have HDA := Lib.hid hda
  obtain ⟨ax, cx, hux, -⟩ := hsa
  subst hux
  obtain ⟨ay, cy, huy, -⟩ := hda
  subst huy
  clear rs hm0 hm1 hla hra hqa hba b11 HD2
  go_upto_region 18 with fail
  have al := (Below.refl w11.heap.size w11).alloc (Nat.le_refl _) (.cells #[.int .i64 ac, .slice ax la.length cx] 29)
  have HA_ := Lib.hid (bxt_new w11 ac (.slice ax la.length cx))
  replace HB := Lib.hid (HB.out.trans (al.mono HB.out.size))
  replace HL := Lib.hid (HL.out.kept al)
  replace HTL := Lib.hid (HTL.out.kept al)
  replace HTA := Lib.hid (HTA.out.kept al)
  replace HDA := Lib.hid (HDA.out.kept al)
  replace HT := Lib.hid (HT.out.keep al)
  obtain ⟨wx11, hwx⟩ : ∃ wb, wb = w11.alloc (.cells #[.int .i64 ac, .slice ax la.length cx] 29) := ⟨_, rfl⟩
  rw [← hwx] at HB HL HTL HTA HDA HT HA_ ⊢
  obtain ⟨ga, hg⟩ : ∃ g, g = w11.heap.size := ⟨_, rfl⟩
  rw [← hg] at HA_ ⊢
  clear hwx hg al
  go_wp2_with fail
  refine (HD3.out _ HB.out).mono ?_
  rintro e w12 ⟨kd, uk, qk, rfl, hlk, hbk, hrk, b12⟩
  replace HB := Lib.hid (HB.out.trans (b12.mono HB.out.size))
  replace HL := Lib.hid (HL.out.kept b12)
  replace HTL := Lib.hid (HTL.out.kept b12)
  replace HTA := Lib.hid (HTA.out.kept b12)
  replace HDA := Lib.hid (HDA.out.kept b12)
  replace HT := Lib.hid (HT.out.keep b12)
  replace HA_ := Lib.hid (HA_.out.keep b12)
  obtain ⟨qq, rd⟩ := rd_of (k := kd) hlk hbk
  have HRD := Lib.hid rd
  have HKA := Lib.hid hrk
  obtain ⟨ak, ck, huk, -⟩ := hrk
  subst huk
  clear rd hlk hbk b12 HD3
  go_upto_region 19 with fail
  have t0 := HT.out.c0
  have t1 := HT.out.c1
  have a0 := HA_.out.c0
  have a1 := HA_.out.c1
  have hbs : (bs == bs) = true := by simp
  cases is with
  | false =>
    refine wp_region_noPanic ?_
    refine wp_region_held_drew (S := (fun w' => ((w'.cell? ⟨gt, 0, none⟩ = some (.int .i64 tc) ∧ w'.cell? ⟨gt, 1, none⟩ = some (.slice at_ tl.length ct_)) ∧ w'.cell? ⟨ga, 0, none⟩ = some (.int .i64 ac) ∧ w'.cell? ⟨ga, 1, none⟩ = some (.slice ax la.length cx)) ∧ Below w12.heap.size w12 w')) (by kernel_rfl) ?_ (fun hHeld => ?_)
    · ((try dsimp only); exact ⟨⟨⟨t0, t1⟩, a0, a1⟩, (Below.refl _ _).drew⟩)
    refine wpAnyH_take (i := 0) (v := ?_) rfl (by kernel_rfl) (by kernel_rfl) (by kernel_rfl) (fun _ _ _ h => h) (Or.inl ⟨by rfl, ?_⟩) (by assumption) ?_
    rotate_left
    · (intro w hSw; (try dsimp only at hSw); go_simp; (try with_reducible rfl))
    (try simp only [Act.put, List.getElem_toArray, List.getElem_cons_zero, List.setIfInBounds_toArray, List.set_cons_zero, List.set_cons_succ])
    refine wpAnyH_take (i := 1) (v := ?_) rfl (by kernel_rfl) (by kernel_rfl) (by kernel_rfl) (fun _ _ _ h => h) (Or.inl ⟨by rfl, ?_⟩) (by assumption) ?_
    rotate_left
    · (intro w hSw; (try dsimp only at hSw); go_simp; (try with_reducible rfl))
    (try simp only [Act.put, List.getElem_toArray, List.getElem_cons_succ, List.getElem_cons_zero, List.setIfInBounds_toArray, List.set_cons_zero, List.set_cons_succ])
    refine wpAnyH_take (i := 2) (v := ?_) rfl (by kernel_rfl) (by kernel_rfl) (by kernel_rfl) (fun _ _ _ h => h) (Or.inl ⟨by rfl, ?_⟩) (by assumption) ?_
    rotate_left
    · (intro w hSw; (try dsimp only at hSw); go_simp; (try with_reducible rfl))
    (try simp only [Act.put, List.getElem_toArray, List.getElem_cons_succ, List.getElem_cons_zero, List.setIfInBounds_toArray, List.set_cons_zero, List.set_cons_succ])
    refine wpAnyH_take (i := 3) (v := undef) rfl (by kernel_rfl) (by kernel_rfl) (by kernel_rfl) (fun _ _ _ h => h) (Or.inr ⟨by rfl, rfl⟩) (by assumption) ?_
    (try simp only [Act.put, List.getElem_toArray, List.getElem_cons_succ, List.getElem_cons_zero, List.setIfInBounds_toArray, List.set_cons_zero, List.set_cons_succ])
    refine wpAnyH_take (i := 4) (v := undef) rfl (by kernel_rfl) (by kernel_rfl) (by kernel_rfl) (fun _ _ _ h => h) (Or.inr ⟨by rfl, rfl⟩) (by assumption) ?_
    (try simp only [Act.put, List.getElem_toArray, List.getElem_cons_succ, List.getElem_cons_zero, List.setIfInBounds_toArray, List.set_cons_zero, List.set_cons_succ])
    refine wpAnyH_take (i := 5) (v := undef) rfl (by kernel_rfl) (by kernel_rfl) (by kernel_rfl) (fun _ _ _ h => h) (Or.inr ⟨by rfl, rfl⟩) (by assumption) ?_
    (try simp only [Act.put, List.getElem_toArray, List.getElem_cons_succ, List.getElem_cons_zero, List.setIfInBounds_toArray, List.set_cons_zero, List.set_cons_succ])
    refine wpAnyH_take (i := 6) (v := undef) rfl (by kernel_rfl) (by kernel_rfl) (by kernel_rfl) (fun _ _ _ h => h) (Or.inr ⟨by rfl, rfl⟩) (by assumption) ?_
    (try simp only [Act.put, List.getElem_toArray, List.getElem_cons_succ, List.getElem_cons_zero, List.setIfInBounds_toArray, List.set_cons_zero, List.set_cons_succ])
    refine wpAnyH_take (i := 7) (v := undef) rfl (by kernel_rfl) (by kernel_rfl) (by kernel_rfl) (fun _ _ _ h => h) (Or.inr ⟨by rfl, rfl⟩) (by assumption) ?_
    (try simp only [Act.put, List.getElem_toArray, List.getElem_cons_succ, List.getElem_cons_zero, List.setIfInBounds_toArray, List.set_cons_zero, List.set_cons_succ])
    refine wpAnyH_take (i := 8) (v := undef) rfl (by kernel_rfl) (by kernel_rfl) (by kernel_rfl) (fun _ _ _ h => h) (Or.inr ⟨by rfl, rfl⟩) (by assumption) ?_
    (try simp only [Act.put, List.getElem_toArray, List.getElem_cons_succ, List.getElem_cons_zero, List.setIfInBounds_toArray, List.set_cons_zero, List.set_cons_succ])
    refine wpAnyH_take (i := 9) (v := undef) rfl (by kernel_rfl) (by kernel_rfl) (by kernel_rfl) (fun _ _ _ h => h) (Or.inr ⟨by rfl, rfl⟩) (by assumption) ?_
    (try simp only [Act.put, List.getElem_toArray, List.getElem_cons_succ, List.getElem_cons_zero, List.setIfInBounds_toArray, List.set_cons_zero, List.set_cons_succ])
    refine wpAnyH_take (i := 10) (v := ?_) rfl (by kernel_rfl) (by kernel_rfl) (by kernel_rfl) (fun _ _ _ h => h) (Or.inl ⟨by rfl, ?_⟩) (by assumption) ?_
    rotate_left
    · (intro w hSw; (try dsimp only at hSw); go_simp; (try with_reducible rfl))
    (try simp only [Act.put, List.getElem_toArray, List.getElem_cons_succ, List.getElem_cons_zero, List.setIfInBounds_toArray, List.set_cons_zero, List.set_cons_succ])
    refine wpAnyH_take (i := 11) (v := ?_) rfl (by kernel_rfl) (by kernel_rfl) (by kernel_rfl) (fun _ _ _ h => h) (Or.inl ⟨by rfl, ?_⟩) (by assumption) ?_
    rotate_left
    · (intro w hSw; (try dsimp only at hSw); go_simp; (try with_reducible rfl))
    (try simp only [Act.put, List.getElem_toArray, List.getElem_cons_succ, List.getElem_cons_zero, List.setIfInBounds_toArray, List.set_cons_zero, List.set_cons_succ])
    refine wpAnyH_take (i := 12) (v := ?_) rfl (by kernel_rfl) (by kernel_rfl) (by kernel_rfl) (fun _ _ _ h => h) (Or.inl ⟨by rfl, ?_⟩) (by assumption) ?_
    rotate_left
    · (intro w hSw; (try dsimp only at hSw); go_simp; (try with_reducible rfl))
    (try simp only [Act.put, List.getElem_toArray, List.getElem_cons_succ, List.getElem_cons_zero, List.setIfInBounds_toArray, List.set_cons_zero, List.set_cons_succ])
    refine wpAnyH_take (i := 13) (v := ?_) rfl (by kernel_rfl) (by kernel_rfl) (by kernel_rfl) (fun _ _ _ h => h) (Or.inl ⟨by rfl, ?_⟩) (by assumption) ?_
    rotate_left
    · (intro w hSw; (try dsimp only at hSw); go_simp; (try with_reducible rfl))
    (try simp only [Act.put, List.getElem_toArray, List.getElem_cons_succ, List.getElem_cons_zero, List.setIfInBounds_toArray, List.set_cons_zero, List.set_cons_succ])
    refine wpAnyH_take (i := 14) (v := ?_) rfl (by kernel_rfl) (by kernel_rfl) (by kernel_rfl) (fun _ _ _ h => h) (Or.inl ⟨by rfl, ?_⟩) (by assumption) ?_
    rotate_left
    · (intro w hSw; (try dsimp only at hSw); go_simp; (try with_reducible rfl))
    (try simp only [Act.put, List.getElem_toArray, List.getElem_cons_succ, List.getElem_cons_zero, List.setIfInBounds_toArray, List.set_cons_zero, List.set_cons_succ])
    refine wpAnyH_take (i := 16) (v := ?_) rfl (by kernel_rfl) (by kernel_rfl) (by kernel_rfl) (fun _ _ _ h => h) (Or.inl ⟨by rfl, ?_⟩) (by assumption) ?_
    rotate_left
    · (intro w hSw; (try dsimp only at hSw); go_simp; (try with_reducible rfl))
    (try simp only [Act.put, List.getElem_toArray, List.getElem_cons_succ, List.getElem_cons_zero, List.setIfInBounds_toArray, List.set_cons_zero, List.set_cons_succ])
    refine wpAnyH_take (i := 17) (v := ?_) rfl (by kernel_rfl) (by kernel_rfl) (by kernel_rfl) (fun _ _ _ h => h) (Or.inl ⟨by rfl, ?_⟩) (by assumption) ?_
    rotate_left
    · (intro w hSw; (try dsimp only at hSw); go_simp; (try with_reducible rfl))
    (try simp only [Act.put, List.getElem_toArray, List.getElem_cons_succ, List.getElem_cons_zero, List.setIfInBounds_toArray, List.set_cons_zero, List.set_cons_succ])
    refine wpAnyH_take (i := 18) (v := ?_) rfl (by kernel_rfl) (by kernel_rfl) (by kernel_rfl) (fun _ _ _ h => h) (Or.inl ⟨by rfl, ?_⟩) (by assumption) ?_
    rotate_left
    · (intro w hSw; (try dsimp only at hSw); go_simp; (try with_reducible rfl))
    (try simp only [Act.put, List.getElem_toArray, List.getElem_cons_succ, List.getElem_cons_zero, List.setIfInBounds_toArray, List.set_cons_zero, List.set_cons_succ])
    refine wpAnyH_ready (rs := [15]) (by kernel_rfl) (by simp) (AllReadyH.cons rfl (fun K hK => ?_) AllReadyH.nil)
    (first | ((go_at_call 15; refine (HRS.out.s1 _ _ _ (HTA.out.kept hHeld.2) (HDA.out.kept hHeld.2)).mono ?_; rintro e w93 ⟨rfl, b93⟩)) | (go_simp; (go_at_call 15; refine (HRS.out.s1 _ _ _ (HTA.out.kept hHeld.2) (HDA.out.kept hHeld.2)).mono ?_; rintro e w93 ⟨rfl, b93⟩)))
    (try (go_wp2_with fail))
    refine hK.out _ _ ?_ (fun hHeld => ?_)
    · ((try dsimp only); exact ⟨⟨⟨keep_in hHeld.1.1.1 b93, keep_in hHeld.1.1.2 b93⟩, keep_in hHeld.1.2.1 b93, keep_in hHeld.1.2.2 b93⟩, hHeld.2.trans (b93.mono hHeld.2.size)⟩)
    clear hK K
    (try simp only [Act.put, List.getElem_toArray, List.getElem_cons_succ, List.getElem_cons_zero, List.setIfInBounds_toArray, List.set_cons_zero, List.set_cons_succ])
    refine wpAnyH_ready (rs := [19]) (by kernel_rfl) (by simp) (AllReadyH.cons rfl (fun K hK => ?_) AllReadyH.nil)
    (first | ((go_at_call 16; refine (HRS.out.s2 _ _ _ (HTA.out.kept hHeld.2) (HDA.out.kept hHeld.2)).mono ?_; rintro e w94 ⟨rfl, b94⟩)) | (go_simp; (go_at_call 16; refine (HRS.out.s2 _ _ _ (HTA.out.kept hHeld.2) (HDA.out.kept hHeld.2)).mono ?_; rintro e w94 ⟨rfl, b94⟩)))
    (try (go_wp2_with fail))
    refine hK.out _ _ ?_ (fun hHeld => ?_)
    · ((try dsimp only); exact ⟨⟨⟨keep_in hHeld.1.1.1 b94, keep_in hHeld.1.1.2 b94⟩, keep_in hHeld.1.2.1 b94, keep_in hHeld.1.2.2 b94⟩, hHeld.2.trans (b94.mono hHeld.2.size)⟩)
    clear hK K
    (try simp only [Act.put, List.getElem_toArray, List.getElem_cons_succ, List.getElem_cons_zero, List.setIfInBounds_toArray, List.set_cons_zero, List.set_cons_succ])
    refine wpAnyH_take (i := 20) (v := ?_) rfl (by kernel_rfl) (by kernel_rfl) (by kernel_rfl) (fun _ _ _ h => h) (Or.inl ⟨by rfl, ?_⟩) (by assumption) ?_
    rotate_left
    · (intro w hSw; (try dsimp only at hSw); go_simp; (try with_reducible rfl))
    (try simp only [Act.put, List.getElem_toArray, List.getElem_cons_succ, List.getElem_cons_zero, List.setIfInBounds_toArray, List.set_cons_zero, List.set_cons_succ])
    refine wpAnyH_take (i := 21) (v := ?_) rfl (by kernel_rfl) (by kernel_rfl) (by kernel_rfl) (fun _ _ _ h => h) (Or.inl ⟨by rfl, ?_⟩) (by assumption) ?_
    rotate_left
    · (intro w hSw; (try dsimp only at hSw); go_simp; (try with_reducible rfl))
    (try simp only [Act.put, List.getElem_toArray, List.getElem_cons_succ, List.getElem_cons_zero, List.setIfInBounds_toArray, List.set_cons_zero, List.set_cons_succ])
    refine wpAnyH_take (i := 22) (v := ?_) rfl (by kernel_rfl) (by kernel_rfl) (by kernel_rfl) (fun _ _ _ h => h) (Or.inl ⟨by rfl, ?_⟩) (by assumption) ?_
    rotate_left
    · (intro w hSw; (try dsimp only at hSw); go_simp; (try with_reducible rfl))
    (try simp only [Act.put, List.getElem_toArray, List.getElem_cons_succ, List.getElem_cons_zero, List.setIfInBounds_toArray, List.set_cons_zero, List.set_cons_succ])
    refine wpAnyH_take (i := 23) (v := ?_) rfl (by kernel_rfl) (by kernel_rfl) (by kernel_rfl) (fun _ _ _ h => h) (Or.inl ⟨by rfl, ?_⟩) (by assumption) ?_
    rotate_left
    · (intro w hSw; (try dsimp only at hSw); go_simp; (try with_reducible rfl))
    (try simp only [Act.put, List.getElem_toArray, List.getElem_cons_succ, List.getElem_cons_zero, List.setIfInBounds_toArray, List.set_cons_zero, List.set_cons_succ])
    refine wpAnyH_take (i := 24) (v := ?_) rfl (by kernel_rfl) (by kernel_rfl) (by kernel_rfl) (fun _ _ _ h => h) (Or.inl ⟨by rfl, ?_⟩) (by assumption) ?_
    rotate_left
    · (intro w hSw; (try dsimp only at hSw); go_simp; (try with_reducible rfl))
    (try simp only [Act.put, List.getElem_toArray, List.getElem_cons_succ, List.getElem_cons_zero, List.setIfInBounds_toArray, List.set_cons_zero, List.set_cons_succ])
    refine wpAnyH_take (i := 26) (v := ?_) rfl (by kernel_rfl) (by kernel_rfl) (by kernel_rfl) (fun _ _ _ h => h) (Or.inl ⟨by rfl, ?_⟩) (by assumption) ?_
    rotate_left
    · (intro w hSw; (try dsimp only at hSw); go_simp; (try with_reducible rfl))
    (try simp only [Act.put, List.getElem_toArray, List.getElem_cons_succ, List.getElem_cons_zero, List.setIfInBounds_toArray, List.set_cons_zero, List.set_cons_succ])
    refine wpAnyH_take (i := 27) (v := ?_) rfl (by kernel_rfl) (by kernel_rfl) (by kernel_rfl) (fun _ _ _ h => h) (Or.inl ⟨by rfl, ?_⟩) (by assumption) ?_
    rotate_left
    · (intro w hSw; (try dsimp only at hSw); go_simp; (try with_reducible rfl))
    (try simp only [Act.put, List.getElem_toArray, List.getElem_cons_succ, List.getElem_cons_zero, List.setIfInBounds_toArray, List.set_cons_zero, List.set_cons_succ])
    refine wpAnyH_ready (rs := [25]) (by kernel_rfl) (by simp) (AllReadyH.cons rfl (fun K hK => ?_) AllReadyH.nil)
    (first | ((go_at_call 18; refine (HRD.out.d1 _ _ (HKA.out.kept hHeld.2)).mono ?_; rintro e w95 ⟨v95, rfl, o95, b95⟩; have R95 := Lib.hid o95.read; clear o95)) | (go_simp; (go_at_call 18; refine (HRD.out.d1 _ _ (HKA.out.kept hHeld.2)).mono ?_; rintro e w95 ⟨v95, rfl, o95, b95⟩; have R95 := Lib.hid o95.read; clear o95)))
    (try (go_wp2_with fail))
    refine hK.out _ _ ?_ (fun hHeld => ?_)
    · ((try dsimp only); exact ⟨⟨⟨keep_in hHeld.1.1.1 b95, keep_in hHeld.1.1.2 b95⟩, keep_in hHeld.1.2.1 b95, keep_in hHeld.1.2.2 b95⟩, hHeld.2.trans (b95.mono hHeld.2.size)⟩)
    clear hK K
    (try simp only [Act.put, List.getElem_toArray, List.getElem_cons_succ, List.getElem_cons_zero, List.setIfInBounds_toArray, List.set_cons_zero, List.set_cons_succ])
    refine wpAnyH_ready (rs := [28]) (by kernel_rfl) (by simp) (AllReadyH.cons rfl (fun K hK => ?_) AllReadyH.nil)
    (first | ((go_at_call 19; refine (HRD.out.d2 _ _ (HKA.out.kept hHeld.2)).mono ?_; rintro e w96 ⟨v96, rfl, o96, b96⟩; have R96 := Lib.hid o96.read; replace R95 := Lib.hid (R95.out.kept b96); clear o96)) | (go_simp; (go_at_call 19; refine (HRD.out.d2 _ _ (HKA.out.kept hHeld.2)).mono ?_; rintro e w96 ⟨v96, rfl, o96, b96⟩; have R96 := Lib.hid o96.read; replace R95 := Lib.hid (R95.out.kept b96); clear o96)))
    (try (go_wp2_with fail))
    refine hK.out _ _ ?_ (fun hHeld => ?_)
    · ((try dsimp only); exact ⟨⟨⟨keep_in hHeld.1.1.1 b96, keep_in hHeld.1.1.2 b96⟩, keep_in hHeld.1.2.1 b96, keep_in hHeld.1.2.2 b96⟩, hHeld.2.trans (b96.mono hHeld.2.size)⟩)
    clear hK K
    (try simp only [Act.put, List.getElem_toArray, List.getElem_cons_succ, List.getElem_cons_zero, List.setIfInBounds_toArray, List.set_cons_zero, List.set_cons_succ])
    refine wpAnyH_ready (rs := [29]) (by kernel_rfl) (by simp) (AllReadyH.cons rfl (fun K hK => ?_) AllReadyH.nil)
    (first | ((go_at_call 17; refine (HRD.out.sd _ _ _ R95.out R96.out).mono ?_; rintro e w97 ⟨rfl, b97⟩)) | (go_simp; (go_at_call 17; refine (HRD.out.sd _ _ _ R95.out R96.out).mono ?_; rintro e w97 ⟨rfl, b97⟩)))
    (try (go_wp2_with fail))
    refine hK.out _ _ ?_ (fun hHeld => ?_)
    · ((try dsimp only); exact ⟨⟨⟨keep_in hHeld.1.1.1 b97, keep_in hHeld.1.1.2 b97⟩, keep_in hHeld.1.2.1 b97, keep_in hHeld.1.2.2 b97⟩, hHeld.2.trans (b97.mono hHeld.2.size)⟩)
    clear hK K
    (try simp only [Act.put, List.getElem_toArray, List.getElem_cons_succ, List.getElem_cons_zero, List.setIfInBounds_toArray, List.set_cons_zero, List.set_cons_succ])
    refine wpAnyH_take (i := 30) (v := ?_) rfl (by kernel_rfl) (by kernel_rfl) (by kernel_rfl) (fun _ _ _ h => h) (Or.inl ⟨by rfl, ?_⟩) (by assumption) ?_
    rotate_left
    · (intro w hSw; (try dsimp only at hSw); go_simp; (try with_reducible rfl))
    (try simp only [Act.put, List.getElem_toArray, List.getElem_cons_succ, List.getElem_cons_zero, List.setIfInBounds_toArray, List.set_cons_zero, List.set_cons_succ])
    refine wpAnyH_take (i := 31) (v := ?_) rfl (by kernel_rfl) (by kernel_rfl) (by kernel_rfl) (fun _ _ _ h => h) (Or.inl ⟨by rfl, ?_⟩) (by assumption) ?_
    rotate_left
    · (intro w hSw; (try dsimp only at hSw); go_simp; (try with_reducible rfl))
    (try simp only [Act.put, List.getElem_toArray, List.getElem_cons_succ, List.getElem_cons_zero, List.setIfInBounds_toArray, List.set_cons_zero, List.set_cons_succ])
    refine wpAnyH_done (by kernel_rfl) ?_ _
    refine NoPanic.normal ?_
    have HBE := Lib.hid (HB.out.trans (hHeld.2.mono HB.out.size))
    clear hHeld t0 t1 a0 a1
    go_wp2_with fail
    go_ret
    exact ⟨rfl, HBE.out⟩
  | true =>
    have HI1 := Lib.hid (HIT.out rfl)
    have HS1 := Lib.hid (HSA.out rfl)
    clear HIT HSA
    refine wp_region_noPanic ?_
    refine wp_region_held_drew (S := (fun w' => ((w'.cell? ⟨gt, 0, none⟩ = some (.int .i64 tc) ∧ w'.cell? ⟨gt, 1, none⟩ = some (.slice at_ tl.length ct_)) ∧ w'.cell? ⟨ga, 0, none⟩ = some (.int .i64 ac) ∧ w'.cell? ⟨ga, 1, none⟩ = some (.slice ax la.length cx)) ∧ Below w12.heap.size w12 w')) (by kernel_rfl) ?_ (fun hHeld => ?_)
    · ((try dsimp only); exact ⟨⟨⟨t0, t1⟩, a0, a1⟩, (Below.refl _ _).drew⟩)
    refine wpAnyH_take (i := 0) (v := ?_) rfl (by kernel_rfl) (by kernel_rfl) (by kernel_rfl) (fun _ _ _ h => h) (Or.inl ⟨by rfl, ?_⟩) (by assumption) ?_
    rotate_left
    · (intro w hSw; (try dsimp only at hSw); go_simp; (try with_reducible rfl))
    (try simp only [Act.put, List.getElem_toArray, List.getElem_cons_zero, List.setIfInBounds_toArray, List.set_cons_zero, List.set_cons_succ])
    refine wpAnyH_take (i := 1) (v := ?_) rfl (by kernel_rfl) (by kernel_rfl) (by kernel_rfl) (fun _ _ _ h => h) (Or.inl ⟨by rfl, ?_⟩) (by assumption) ?_
    rotate_left
    · (intro w hSw; (try dsimp only at hSw); go_simp; (try with_reducible rfl))
    (try simp only [Act.put, List.getElem_toArray, List.getElem_cons_succ, List.getElem_cons_zero, List.setIfInBounds_toArray, List.set_cons_zero, List.set_cons_succ])
    refine wpAnyH_take (i := 2) (v := ?_) rfl (by kernel_rfl) (by kernel_rfl) (by kernel_rfl) (fun _ _ _ h => h) (Or.inl ⟨by rfl, ?_⟩) (by assumption) ?_
    rotate_left
    · (intro w hSw; (try dsimp only at hSw); go_simp; (try with_reducible rfl))
    (try simp only [Act.put, List.getElem_toArray, List.getElem_cons_succ, List.getElem_cons_zero, List.setIfInBounds_toArray, List.set_cons_zero, List.set_cons_succ])
    refine wpAnyH_take (i := 3) (v := ?_) rfl (by kernel_rfl) (by kernel_rfl) (by kernel_rfl) (fun _ _ _ h => h) (Or.inl ⟨by rfl, ?_⟩) (by assumption) ?_
    rotate_left
    · (intro w hSw; (try dsimp only at hSw); go_simp; (try with_reducible rfl))
    (try simp only [Act.put, List.getElem_toArray, List.getElem_cons_succ, List.getElem_cons_zero, List.setIfInBounds_toArray, List.set_cons_zero, List.set_cons_succ])
    refine wpAnyH_ready (rs := [4]) (by kernel_rfl) (by simp) (AllReadyH.cons rfl (fun K hK => ?_) AllReadyH.nil)
    (first | ((go_at_call 14; refine (HI1.out _ _ (HTL.out.kept hHeld.2)).mono ?_; rintro e w91 ⟨rfl, b91⟩)) | (go_simp; (go_at_call 14; refine (HI1.out _ _ (HTL.out.kept hHeld.2)).mono ?_; rintro e w91 ⟨rfl, b91⟩)))
    (try (go_wp2_with fail))
    refine hK.out _ _ ?_ (fun hHeld => ?_)
    · ((try dsimp only); exact ⟨⟨⟨keep_in hHeld.1.1.1 b91, keep_in hHeld.1.1.2 b91⟩, keep_in hHeld.1.2.1 b91, keep_in hHeld.1.2.2 b91⟩, hHeld.2.trans (b91.mono hHeld.2.size)⟩)
    clear hK K
    (try simp only [Act.put, List.getElem_toArray, List.getElem_cons_succ, List.getElem_cons_zero, List.setIfInBounds_toArray, List.set_cons_zero, List.set_cons_succ])
    refine wpAnyH_take (i := 5) (v := ?_) rfl (by kernel_rfl) (by kernel_rfl) (by kernel_rfl) (fun _ _ _ h => h) (Or.inl ⟨by rfl, ?_⟩) (by assumption) ?_
    rotate_left
    · (intro w hSw; (try dsimp only at hSw); go_simp; (try with_reducible rfl))
    (try simp only [Act.put, List.getElem_toArray, List.getElem_cons_succ, List.getElem_cons_zero, List.setIfInBounds_toArray, List.set_cons_zero, List.set_cons_succ])
    refine wpAnyH_take (i := 6) (v := ?_) rfl (by kernel_rfl) (by kernel_rfl) (by kernel_rfl) (fun _ _ _ h => h) (Or.inl ⟨by rfl, ?_⟩) (by assumption) ?_
    rotate_left
    · (intro w hSw; (try dsimp only at hSw); go_simp; (try with_reducible rfl))
    (try simp only [Act.put, List.getElem_toArray, List.getElem_cons_succ, List.getElem_cons_zero, List.setIfInBounds_toArray, List.set_cons_zero, List.set_cons_succ])
    refine wpAnyH_take (i := 7) (v := ?_) rfl (by kernel_rfl) (by kernel_rfl) (by kernel_rfl) (fun _ _ _ h => h) (Or.inl ⟨by rfl, ?_⟩) (by assumption) ?_
    rotate_left
    · (intro w hSw; (try dsimp only at hSw); go_simp; (try with_reducible rfl))
    (try simp only [Act.put, List.getElem_toArray, List.getElem_cons_succ, List.getElem_cons_zero, List.setIfInBounds_toArray, List.set_cons_zero, List.set_cons_succ])
    refine wpAnyH_ready (rs := [8]) (by kernel_rfl) (by simp) (AllReadyH.cons rfl (fun K hK => ?_) AllReadyH.nil)
    (first | ((go_at_call 15; refine (HS1.out _ _ _ (HTL.out.kept hHeld.2) (HL.out.kept hHeld.2)).mono ?_; rintro e w92 ⟨rfl, b92⟩)) | (go_simp; (go_at_call 15; refine (HS1.out _ _ _ (HTL.out.kept hHeld.2) (HL.out.kept hHeld.2)).mono ?_; rintro e w92 ⟨rfl, b92⟩)))
    (try (go_wp2_with fail))
    refine hK.out _ _ ?_ (fun hHeld => ?_)
    · ((try dsimp only); exact ⟨⟨⟨keep_in hHeld.1.1.1 b92, keep_in hHeld.1.1.2 b92⟩, keep_in hHeld.1.2.1 b92, keep_in hHeld.1.2.2 b92⟩, hHeld.2.trans (b92.mono hHeld.2.size)⟩)
    clear hK K
    (try simp only [Act.put, List.getElem_toArray, List.getElem_cons_succ, List.getElem_cons_zero, List.setIfInBounds_toArray, List.set_cons_zero, List.set_cons_succ])
    refine wpAnyH_take (i := 9) (v := ?_) rfl (by kernel_rfl) (by kernel_rfl) (by kernel_rfl) (fun _ _ _ h => h) (Or.inl ⟨by rfl, ?_⟩) (by assumption) ?_
    rotate_left
    · (intro w hSw; (try dsimp only at hSw); go_simp; (try with_reducible rfl))
    (try simp only [Act.put, List.getElem_toArray, List.getElem_cons_succ, List.getElem_cons_zero, List.setIfInBounds_toArray, List.set_cons_zero, List.set_cons_succ])
    refine wpAnyH_take (i := 10) (v := ?_) rfl (by kernel_rfl) (by kernel_rfl) (by kernel_rfl) (fun _ _ _ h => h) (Or.inl ⟨by rfl, ?_⟩) (by assumption) ?_
    rotate_left
    · (intro w hSw; (try dsimp only at hSw); go_simp; (try with_reducible rfl))
    (try simp only [Act.put, List.getElem_toArray, List.getElem_cons_succ, List.getElem_cons_zero, List.setIfInBounds_toArray, List.set_cons_zero, List.set_cons_succ])
    refine wpAnyH_take (i := 11) (v := ?_) rfl (by kernel_rfl) (by kernel_rfl) (by kernel_rfl) (fun _ _ _ h => h) (Or.inl ⟨by rfl, ?_⟩) (by assumption) ?_
    rotate_left
    · (intro w hSw; (try dsimp only at hSw); go_simp; (try with_reducible rfl))
    (try simp only [Act.put, List.getElem_toArray, List.getElem_cons_succ, List.getElem_cons_zero, List.setIfInBounds_toArray, List.set_cons_zero, List.set_cons_succ])
    refine wpAnyH_take (i := 12) (v := ?_) rfl (by kernel_rfl) (by kernel_rfl) (by kernel_rfl) (fun _ _ _ h => h) (Or.inl ⟨by rfl, ?_⟩) (by assumption) ?_
    rotate_left
    · (intro w hSw; (try dsimp only at hSw); go_simp; (try with_reducible rfl))
    (try simp only [Act.put, List.getElem_toArray, List.getElem_cons_succ, List.getElem_cons_zero, List.setIfInBounds_toArray, List.set_cons_zero, List.set_cons_succ])
    refine wpAnyH_take (i := 13) (v := ?_) rfl (by kernel_rfl) (by kernel_rfl) (by kernel_rfl) (fun _ _ _ h => h) (Or.inl ⟨by rfl, ?_⟩) (by assumption) ?_
    rotate_left
    · (intro w hSw; (try dsimp only at hSw); go_simp; (try with_reducible rfl))
    (try simp only [Act.put, List.getElem_toArray, List.getElem_cons_succ, List.getElem_cons_zero, List.setIfInBounds_toArray, List.set_cons_zero, List.set_cons_succ])
    refine wpAnyH_take (i := 14) (v := ?_) rfl (by kernel_rfl) (by kernel_rfl) (by kernel_rfl) (fun _ _ _ h => h) (Or.inl ⟨by rfl, ?_⟩) (by assumption) ?_
    rotate_left
    · (intro w hSw; (try dsimp only at hSw); go_simp; (try with_reducible rfl))
    (try simp only [Act.put, List.getElem_toArray, List.getElem_cons_succ, List.getElem_cons_zero, List.setIfInBounds_toArray, List.set_cons_zero, List.set_cons_succ])
    refine wpAnyH_take (i := 16) (v := ?_) rfl (by kernel_rfl) (by kernel_rfl) (by kernel_rfl) (fun _ _ _ h => h) (Or.inl ⟨by rfl, ?_⟩) (by assumption) ?_
    rotate_left
    · (intro w hSw; (try dsimp only at hSw); go_simp; (try with_reducible rfl))
    (try simp only [Act.put, List.getElem_toArray, List.getElem_cons_succ, List.getElem_cons_zero, List.setIfInBounds_toArray, List.set_cons_zero, List.set_cons_succ])
    refine wpAnyH_take (i := 17) (v := ?_) rfl (by kernel_rfl) (by kernel_rfl) (by kernel_rfl) (fun _ _ _ h => h) (Or.inl ⟨by rfl, ?_⟩) (by assumption) ?_
    rotate_left
    · (intro w hSw; (try dsimp only at hSw); go_simp; (try with_reducible rfl))
    (try simp only [Act.put, List.getElem_toArray, List.getElem_cons_succ, List.getElem_cons_zero, List.setIfInBounds_toArray, List.set_cons_zero, List.set_cons_succ])
    refine wpAnyH_take (i := 18) (v := ?_) rfl (by kernel_rfl) (by kernel_rfl) (by kernel_rfl) (fun _ _ _ h => h) (Or.inl ⟨by rfl, ?_⟩) (by assumption) ?_
    rotate_left
    · (intro w hSw; (try dsimp only at hSw); go_simp; (try with_reducible rfl))
    (try simp only [Act.put, List.getElem_toArray, List.getElem_cons_succ, List.getElem_cons_zero, List.setIfInBounds_toArray, List.set_cons_zero, List.set_cons_succ])
    refine wpAnyH_ready (rs := [15]) (by kernel_rfl) (by simp) (AllReadyH.cons rfl (fun K hK => ?_) AllReadyH.nil)
    (first | ((go_at_call 15; refine (HRS.out.s1 _ _ _ (HTA.out.kept hHeld.2) (HDA.out.kept hHeld.2)).mono ?_; rintro e w93 ⟨rfl, b93⟩)) | (go_simp; (go_at_call 15; refine (HRS.out.s1 _ _ _ (HTA.out.kept hHeld.2) (HDA.out.kept hHeld.2)).mono ?_; rintro e w93 ⟨rfl, b93⟩)))
    (try (go_wp2_with fail))
    refine hK.out _ _ ?_ (fun hHeld => ?_)
    · ((try dsimp only); exact ⟨⟨⟨keep_in hHeld.1.1.1 b93, keep_in hHeld.1.1.2 b93⟩, keep_in hHeld.1.2.1 b93, keep_in hHeld.1.2.2 b93⟩, hHeld.2.trans (b93.mono hHeld.2.size)⟩)
    clear hK K
    (try simp only [Act.put, List.getElem_toArray, List.getElem_cons_succ, List.getElem_cons_zero, List.setIfInBounds_toArray, List.set_cons_zero, List.set_cons_succ])
    refine wpAnyH_ready (rs := [19]) (by kernel_rfl) (by simp) (AllReadyH.cons rfl (fun K hK => ?_) AllReadyH.nil)
    (first | ((go_at_call 16; refine (HRS.out.s2 _ _ _ (HTA.out.kept hHeld.2) (HDA.out.kept hHeld.2)).mono ?_; rintro e w94 ⟨rfl, b94⟩)) | (go_simp; (go_at_call 16; refine (HRS.out.s2 _ _ _ (HTA.out.kept hHeld.2) (HDA.out.kept hHeld.2)).mono ?_; rintro e w94 ⟨rfl, b94⟩)))
    (try (go_wp2_with fail))
    refine hK.out _ _ ?_ (fun hHeld => ?_)
    · ((try dsimp only); exact ⟨⟨⟨keep_in hHeld.1.1.1 b94, keep_in hHeld.1.1.2 b94⟩, keep_in hHeld.1.2.1 b94, keep_in hHeld.1.2.2 b94⟩, hHeld.2.trans (b94.mono hHeld.2.size)⟩)
    clear hK K
    (try simp only [Act.put, List.getElem_toArray, List.getElem_cons_succ, List.getElem_cons_zero, List.setIfInBounds_toArray, List.set_cons_zero, List.set_cons_succ])
    refine wpAnyH_take (i := 20) (v := ?_) rfl (by kernel_rfl) (by kernel_rfl) (by kernel_rfl) (fun _ _ _ h => h) (Or.inl ⟨by rfl, ?_⟩) (by assumption) ?_
    rotate_left
    · (intro w hSw; (try dsimp only at hSw); go_simp; (try with_reducible rfl))
    (try simp only [Act.put, List.getElem_toArray, List.getElem_cons_succ, List.getElem_cons_zero, List.setIfInBounds_toArray, List.set_cons_zero, List.set_cons_succ])
    refine wpAnyH_take (i := 21) (v := ?_) rfl (by kernel_rfl) (by kernel_rfl) (by kernel_rfl) (fun _ _ _ h => h) (Or.inl ⟨by rfl, ?_⟩) (by assumption) ?_
    rotate_left
    · (intro w hSw; (try dsimp only at hSw); go_simp; (try with_reducible rfl))
    (try simp only [Act.put, List.getElem_toArray, List.getElem_cons_succ, List.getElem_cons_zero, List.setIfInBounds_toArray, List.set_cons_zero, List.set_cons_succ])
    refine wpAnyH_take (i := 22) (v := ?_) rfl (by kernel_rfl) (by kernel_rfl) (by kernel_rfl) (fun _ _ _ h => h) (Or.inl ⟨by rfl, ?_⟩) (by assumption) ?_
    rotate_left
    · (intro w hSw; (try dsimp only at hSw); go_simp; (try with_reducible rfl))
    (try simp only [Act.put, List.getElem_toArray, List.getElem_cons_succ, List.getElem_cons_zero, List.setIfInBounds_toArray, List.set_cons_zero, List.set_cons_succ])
    refine wpAnyH_take (i := 23) (v := ?_) rfl (by kernel_rfl) (by kernel_rfl) (by kernel_rfl) (fun _ _ _ h => h) (Or.inl ⟨by rfl, ?_⟩) (by assumption) ?_
    rotate_left
    · (intro w hSw; (try dsimp only at hSw); go_simp; (try with_reducible rfl))
    (try simp only [Act.put, List.getElem_toArray, List.getElem_cons_succ, List.getElem_cons_zero, List.setIfInBounds_toArray, List.set_cons_zero, List.set_cons_succ])
    refine wpAnyH_take (i := 24) (v := ?_) rfl (by kernel_rfl) (by kernel_rfl) (by kernel_rfl) (fun _ _ _ h => h) (Or.inl ⟨by rfl, ?_⟩) (by assumption) ?_
    rotate_left
    · (intro w hSw; (try dsimp only at hSw); go_simp; (try with_reducible rfl))
    (try simp only [Act.put, List.getElem_toArray, List.getElem_cons_succ, List.getElem_cons_zero, List.setIfInBounds_toArray, List.set_cons_zero, List.set_cons_succ])
    refine wpAnyH_take (i := 26) (v := ?_) rfl (by kernel_rfl) (by kernel_rfl) (by kernel_rfl) (fun _ _ _ h => h) (Or.inl ⟨by rfl, ?_⟩) (by assumption) ?_
    rotate_left
    · (intro w hSw; (try dsimp only at hSw); go_simp; (try with_reducible rfl))
    (try simp only [Act.put, List.getElem_toArray, List.getElem_cons_succ, List.getElem_cons_zero, List.setIfInBounds_toArray, List.set_cons_zero, List.set_cons_succ])
    refine wpAnyH_take (i := 27) (v := ?_) rfl (by kernel_rfl) (by kernel_rfl) (by kernel_rfl) (fun _ _ _ h => h) (Or.inl ⟨by rfl, ?_⟩) (by assumption) ?_
    rotate_left
    · (intro w hSw; (try dsimp only at hSw); go_simp; (try with_reducible rfl))
    (try simp only [Act.put, List.getElem_toArray, List.getElem_cons_succ, List.getElem_cons_zero, List.setIfInBounds_toArray, List.set_cons_zero, List.set_cons_succ])
    refine wpAnyH_ready (rs := [25]) (by kernel_rfl) (by simp) (AllReadyH.cons rfl (fun K hK => ?_) AllReadyH.nil)
    (first | ((go_at_call 18; refine (HRD.out.d1 _ _ (HKA.out.kept hHeld.2)).mono ?_; rintro e w95 ⟨v95, rfl, o95, b95⟩; have R95 := Lib.hid o95.read; clear o95)) | (go_simp; (go_at_call 18; refine (HRD.out.d1 _ _ (HKA.out.kept hHeld.2)).mono ?_; rintro e w95 ⟨v95, rfl, o95, b95⟩; have R95 := Lib.hid o95.read; clear o95)))
    (try (go_wp2_with fail))
    refine hK.out _ _ ?_ (fun hHeld => ?_)
    · ((try dsimp only); exact ⟨⟨⟨keep_in hHeld.1.1.1 b95, keep_in hHeld.1.1.2 b95⟩, keep_in hHeld.1.2.1 b95, keep_in hHeld.1.2.2 b95⟩, hHeld.2.trans (b95.mono hHeld.2.size)⟩)
    clear hK K
    (try simp only [Act.put, List.getElem_toArray, List.getElem_cons_succ, List.getElem_cons_zero, List.setIfInBounds_toArray, List.set_cons_zero, List.set_cons_succ])
    refine wpAnyH_ready (rs := [28]) (by kernel_rfl) (by simp) (AllReadyH.cons rfl (fun K hK => ?_) AllReadyH.nil)
    (first | ((go_at_call 19; refine (HRD.out.d2 _ _ (HKA.out.kept hHeld.2)).mono ?_; rintro e w96 ⟨v96, rfl, o96, b96⟩; have R96 := Lib.hid o96.read; replace R95 := Lib.hid (R95.out.kept b96); clear o96)) | (go_simp; (go_at_call 19; refine (HRD.out.d2 _ _ (HKA.out.kept hHeld.2)).mono ?_; rintro e w96 ⟨v96, rfl, o96, b96⟩; have R96 := Lib.hid o96.read; replace R95 := Lib.hid (R95.out.kept b96); clear o96)))
    (try (go_wp2_with fail))
    refine hK.out _ _ ?_ (fun hHeld => ?_)
    · ((try dsimp only); exact ⟨⟨⟨keep_in hHeld.1.1.1 b96, keep_in hHeld.1.1.2 b96⟩, keep_in hHeld.1.2.1 b96, keep_in hHeld.1.2.2 b96⟩, hHeld.2.trans (b96.mono hHeld.2.size)⟩)
    clear hK K
    (try simp only [Act.put, List.getElem_toArray, List.getElem_cons_succ, List.getElem_cons_zero, List.setIfInBounds_toArray, List.set_cons_zero, List.set_cons_succ])
    refine wpAnyH_ready (rs := [29]) (by kernel_rfl) (by simp) (AllReadyH.cons rfl (fun K hK => ?_) AllReadyH.nil)
    (first | ((go_at_call 17; refine (HRD.out.sd _ _ _ R95.out R96.out).mono ?_; rintro e w97 ⟨rfl, b97⟩)) | (go_simp; (go_at_call 17; refine (HRD.out.sd _ _ _ R95.out R96.out).mono ?_; rintro e w97 ⟨rfl, b97⟩)))
    (try (go_wp2_with fail))
    refine hK.out _ _ ?_ (fun hHeld => ?_)
    · ((try dsimp only); exact ⟨⟨⟨keep_in hHeld.1.1.1 b97, keep_in hHeld.1.1.2 b97⟩, keep_in hHeld.1.2.1 b97, keep_in hHeld.1.2.2 b97⟩, hHeld.2.trans (b97.mono hHeld.2.size)⟩)
    clear hK K
    (try simp only [Act.put, List.getElem_toArray, List.getElem_cons_succ, List.getElem_cons_zero, List.setIfInBounds_toArray, List.set_cons_zero, List.set_cons_succ])
    refine wpAnyH_take (i := 30) (v := ?_) rfl (by kernel_rfl) (by kernel_rfl) (by kernel_rfl) (fun _ _ _ h => h) (Or.inl ⟨by rfl, ?_⟩) (by assumption) ?_
    rotate_left
    · (intro w hSw; (try dsimp only at hSw); go_simp; (try with_reducible rfl))
    (try simp only [Act.put, List.getElem_toArray, List.getElem_cons_succ, List.getElem_cons_zero, List.setIfInBounds_toArray, List.set_cons_zero, List.set_cons_succ])
    refine wpAnyH_take (i := 31) (v := ?_) rfl (by kernel_rfl) (by kernel_rfl) (by kernel_rfl) (fun _ _ _ h => h) (Or.inl ⟨by rfl, ?_⟩) (by assumption) ?_
    rotate_left
    · (intro w hSw; (try dsimp only at hSw); go_simp; (try with_reducible rfl))
    (try simp only [Act.put, List.getElem_toArray, List.getElem_cons_succ, List.getElem_cons_zero, List.setIfInBounds_toArray, List.set_cons_zero, List.set_cons_succ])
    refine wpAnyH_done (by kernel_rfl) ?_ _
    refine NoPanic.normal ?_
    have HBE := Lib.hid (HB.out.trans (hHeld.2.mono HB.out.size))
    clear hHeld t0 t1 a0 a1
    go_wp2_with fail
    go_ret
    exact ⟨rfl, HBE.out⟩
end Go.Proofs.YtnbjcelfdppkcadGreat
