/- FnKeys, the walk. Conditions: the code is a readable slice of at most 1048576 bytes. -/
import Derived.Test.YtnbjcelfdppkcaaGreatTc35
import Derived.Deep.RegionLaw
import Derived.Deep.CutBlock
import Derived.Deep.DeepCutAuto
namespace Go.Proofs.YtnbjcelfdppkcaaGreat
open Go.RowKit

set_option maxRecDepth 100000 in
set_option maxHeartbeats 12800000 in
theorem law_walk (v : Value) (n : Nat) (w : World) (hcode : CodeAt w v n) (hn : n ≤ 1048576) :
    Calls Tryz.prog 3 #[v] w fun e w' => e = .returned (.bool true) ∧ Below w.heap.size w w' := by
  have HBIG := Lib.hid (big_any v n (code_slice hcode))
  have HD1 := Lib.hid (drawMinimalKeys_any w v n hn hcode)
  have HD2 := Lib.hid (drawIsUnique_any w v n hn hcode)
  have hbig : decide (1048576 < (n : Int)) = false := by simp; omega
  obtain ⟨a, cap, rfl⟩ := code_slice hcode
  go_enter Tryz.func3, Tryz.ntmps3
  go_wp2_with fail
  refine (HBIG.out _).mono ?_
  rintro e w' ⟨rfl, rfl⟩
  go_wp2_with fail
  refine (HD1.out _ (Below.refl _ _)).mono ?_
  rintro e w1 ⟨cc, u, ll, m, q0, q1, rfl, hll, hlr, hcp, rS, hb⟩
  obtain ⟨X, ka⟩ := ka_of (c := cc) (m := m) (u := u) (ll := ll) (by omega) (few hlr) hcp
  obtain ⟨au, cu, rfl, -⟩ := id rS
  have KH := Lib.hid ka
  have HB := Lib.hid hb
  clear ka hb hbig HBIG HD1 hll hlr hcp q0 q1
  have HV := Lib.hid (TBX.new (c := cc) rS)
  have hal := (Below.refl w1.heap.size w1).alloc (Nat.le_refl _) (.cells #[.int .i64 cc, .slice au ll.length cu] 26)
  replace HB := Lib.hid (HB.out.trans (hal.mono HB.out.size))
  clear hal rS
  go_upto_region 4 with fail
  obtain ⟨T0, hT⟩ : ∃ T, T = w1.heap.size := ⟨_, rfl⟩
  obtain ⟨w2, hw⟩ : ∃ w', w' = w1.alloc (.cells #[.int .i64 cc, .slice au ll.length cu] 26) := ⟨_, rfl⟩
  rw [← hw] at HV HB ⊢
  rw [← hT] at HV ⊢
  clear hT hw
  obtain ⟨x0, x1⟩ := HV.out.1
  go_wp2_with fail
  refine (KH.out.k1 _ HV.out.2).mono ?_
  rintro e w3 ⟨x3, rfl, o3, b3⟩
  replace HB := Lib.hid (HB.out.trans (b3.mono HB.out.size))
  replace HV := Lib.hid (HV.out.kept b3)
  have HX := Lib.hid o3.read
  obtain ⟨ax, cx, rfl, -⟩ := o3.read
  clear o3 b3 x0 x1
  obtain ⟨x0, x1⟩ := HV.out.1
  have hxl := KH.out.len
  go_wp2_with fail
  refine (KH.out.k2 _ HV.out.2).mono ?_
  rintro e w4 ⟨x4, rfl, o4, b4⟩
  replace HB := Lib.hid (HB.out.trans (b4.mono HB.out.size))
  replace HV := Lib.hid (HV.out.kept b4)
  replace HX := Lib.hid (HX.out.kept b4)
  have R4 := Lib.hid o4.read
  clear b4 o4 x0 x1
  obtain ⟨x0, x1⟩ := HV.out.1
  go_wp2_with fail
  refine (same_any X _ _ _ (by omega) HX.out R4.out).mono ?_
  rintro e w5 ⟨rfl, b5⟩
  replace HB := Lib.hid (HB.out.trans (b5.mono HB.out.size))
  replace HV := Lib.hid (HV.out.kept b5)
  replace HX := Lib.hid (HX.out.kept b5)
  clear b5 x0 x1 R4
  obtain ⟨x0, x1⟩ := HV.out.1
  go_wp2_with fail
  refine (KH.out.k3 _ HV.out.2).mono ?_
  rintro e w6 ⟨x6, rfl, o6, b6⟩
  replace HB := Lib.hid (HB.out.trans (b6.mono HB.out.size))
  replace HV := Lib.hid (HV.out.kept b6)
  replace HX := Lib.hid (HX.out.kept b6)
  have R6 := Lib.hid o6.read
  clear b6 o6 x0 x1
  obtain ⟨x0, x1⟩ := HV.out.1
  go_wp2_with fail
  refine (same_any X _ _ _ (by omega) R6.out HX.out).mono ?_
  rintro e w7 ⟨rfl, b7⟩
  replace HB := Lib.hid (HB.out.trans (b7.mono HB.out.size))
  replace HV := Lib.hid (HV.out.kept b7)
  replace HX := Lib.hid (HX.out.kept b7)
  clear b7 x0 x1 R6
  cases hf : fineT cc ll m with
  | false =>
    have hno : isT cc ll = true → m < 0 ∨ 1 < m := fun h => by
      unfold fineT modeOk at hf
      rw [h, Bool.true_and, decide_eq_false_iff_not] at hf
      omega
    have HNO := Lib.hid hno
    clear hf hno
    obtain ⟨x0, x1⟩ := HV.out.1
    go_wp2_with fail
    go_loopw [6] (fun iv wr => iv = .int .i64 0 ∧ Hid (TBX wr T0 cc (.slice au ll.length cu) ll) ∧ Hid (ReadI wr (.slice ax X.length cx) X) ∧ Hid (Below w.heap.size w wr)) (fun _ _ => 0)
    case atStart => exact ⟨rfl, HV, HX, HB⟩
    case round =>
      clear HV HX HB x0 x1
      obtain ⟨rfl, HV, HX, HB⟩ := hrel
      obtain ⟨w10, hw⟩ : ∃ w', w' = wr := ⟨_, rfl⟩
      rw [← hw] at HV HX HB ⊢
      clear hw
      obtain ⟨x0, x1⟩ := HV.out.1
      have HIT := Lib.hid (KH.out.it _ HV.out.2)
      cases ht : isT cc ll with
      | false =>
        rw [ht] at HIT
        clear ht HNO
        go_wp2_with fail
        refine HIT.out.mono ?_
        rintro e w11 ⟨rfl, b11⟩
        replace HB := Lib.hid (HB.out.trans (b11.mono HB.out.size))
        clear b11
        clear KH HV HX HIT x0 x1 hxl
        go_wp2_with fail
        refine (HD2.out _ HB.out).mono ?_
        rintro e w30 ⟨c9, u9, l9, m9, s9, q0, q1, q2, q3, rfl, hll, hlr, oS, b30⟩
        obtain ⟨b9, kb⟩ := kb_of (c := c9) (m := m9) (s := s9) (u := u9) (ll := l9) (by omega) (few hlr) (by omega) (by omega)
        have KBH := Lib.hid kb
        replace HB := Lib.hid (HB.out.trans (b30.mono HB.out.size))
        have rS := oS.read
        obtain ⟨a9, e9, rfl, -⟩ := id rS
        clear kb b30 oS hll hlr q0 q1 q2 q3 HD2
        have HU := Lib.hid (TBX.new (c := c9) rS)
        have hal := (Below.refl w30.heap.size w30).alloc (Nat.le_refl _) (.cells #[.int .i64 c9, .slice a9 l9.length e9] 26)
        replace HB := Lib.hid (HB.out.trans (hal.mono HB.out.size))
        clear hal rS
        go_upto_region 18 with fail
        obtain ⟨T9, hT⟩ : ∃ T, T = w30.heap.size := ⟨_, rfl⟩
        obtain ⟨w31, hw⟩ : ∃ w', w' = w30.alloc (.cells #[.int .i64 c9, .slice a9 l9.length e9] 26) := ⟨_, rfl⟩
        rw [← hw] at HU HB ⊢
        rw [← hT] at HU ⊢
        clear hT hw
        have hbb : (b9 == b9) = true := by cases b9 <;> rfl
        refine wp_region_noPanic ?_
        refine wp_region_held_drew (S := (fun w' => (w'.cell? ⟨T9, 0, none⟩ = some (.int .i64 c9) ∧ w'.cell? ⟨T9, 1, none⟩ = some (.slice a9 l9.length e9)) ∧ Below w31.heap.size w31 w')) (by kernel_rfl) ?_ (fun hHeld => ?_)
        · ((try dsimp only); exact ⟨HU.out.1, (Below.refl _ _).drew⟩)
        refine wpAnyH_take (i := 0) (v := ?_) rfl (by kernel_rfl) (by kernel_rfl) (by kernel_rfl) (fun _ _ _ h => h) (Or.inl ⟨by rfl, ?_⟩) (by assumption) ?_
        rotate_left
        · (intro w hSw; (try dsimp only at hSw); go_simp; (try with_reducible rfl))
        (try simp only [Act.put, List.getElem_toArray, List.getElem_cons_zero, List.setIfInBounds_toArray, List.set_cons_zero, List.set_cons_succ])
        refine wpAnyH_take (i := 1) (v := ?_) rfl (by kernel_rfl) (by kernel_rfl) (by kernel_rfl) (fun _ _ _ h => h) (Or.inl ⟨by rfl, ?_⟩) (by assumption) ?_
        rotate_left
        · (intro w hSw; (try dsimp only at hSw); go_simp; (try with_reducible rfl))
        (try simp only [Act.put, List.getElem_toArray, List.getElem_cons_succ, List.getElem_cons_zero, List.setIfInBounds_toArray, List.set_cons_zero, List.set_cons_succ])
        refine wpAnyH_take (i := 2) (v := ?_) rfl (by kernel_rfl) (by kernel_rfl) (by kernel_rfl) (fun _ _ _ h => h) (Or.inl ⟨by rfl, ?_⟩) (by assumption) ?_
        rotate_left
        · (intro w hSw; (try dsimp only at hSw); go_simp; (try with_reducible rfl))
        (try simp only [Act.put, List.getElem_toArray, List.getElem_cons_succ, List.getElem_cons_zero, List.setIfInBounds_toArray, List.set_cons_zero, List.set_cons_succ])
        refine wpAnyH_take (i := 4) (v := ?_) rfl (by kernel_rfl) (by kernel_rfl) (by kernel_rfl) (fun _ _ _ h => h) (Or.inl ⟨by rfl, ?_⟩) (by assumption) ?_
        rotate_left
        · (intro w hSw; (try dsimp only at hSw); go_simp; (try with_reducible rfl))
        (try simp only [Act.put, List.getElem_toArray, List.getElem_cons_succ, List.getElem_cons_zero, List.setIfInBounds_toArray, List.set_cons_zero, List.set_cons_succ])
        refine wpAnyH_take (i := 5) (v := ?_) rfl (by kernel_rfl) (by kernel_rfl) (by kernel_rfl) (fun _ _ _ h => h) (Or.inl ⟨by rfl, ?_⟩) (by assumption) ?_
        rotate_left
        · (intro w hSw; (try dsimp only at hSw); go_simp; (try with_reducible rfl))
        (try simp only [Act.put, List.getElem_toArray, List.getElem_cons_succ, List.getElem_cons_zero, List.setIfInBounds_toArray, List.set_cons_zero, List.set_cons_succ])
        refine wpAnyH_take (i := 6) (v := ?_) rfl (by kernel_rfl) (by kernel_rfl) (by kernel_rfl) (fun _ _ _ h => h) (Or.inl ⟨by rfl, ?_⟩) (by assumption) ?_
        rotate_left
        · (intro w hSw; (try dsimp only at hSw); go_simp; (try with_reducible rfl))
        (try simp only [Act.put, List.getElem_toArray, List.getElem_cons_succ, List.getElem_cons_zero, List.setIfInBounds_toArray, List.set_cons_zero, List.set_cons_succ])
        refine wpAnyH_ready (rs := [3]) (by kernel_rfl) (by simp) (AllReadyH.cons rfl (fun K hK => ?_) AllReadyH.nil)
        (first | (go_at_call 11; refine (KBH.out.b1 _ (HU.out.2.kept hHeld.2)).mono ?_; rintro e w91 ⟨rfl, b91⟩) | (go_simp; go_at_call 11; refine (KBH.out.b1 _ (HU.out.2.kept hHeld.2)).mono ?_; rintro e w91 ⟨rfl, b91⟩))
        (try (go_wp2_with fail))
        refine hK.out _ _ ?_ (fun hHeld => ?_)
        · ((try dsimp only); exact ⟨⟨cell_inB hHeld.1.1 b91, cell_inB hHeld.1.2 b91⟩, hHeld.2.trans (b91.mono hHeld.2.size)⟩)
        clear hK K
        (try simp only [Act.put, List.getElem_toArray, List.getElem_cons_succ, List.getElem_cons_zero, List.setIfInBounds_toArray, List.set_cons_zero, List.set_cons_succ])
        refine wpAnyH_ready (rs := [7]) (by kernel_rfl) (by simp) (AllReadyH.cons rfl (fun K hK => ?_) AllReadyH.nil)
        (first | (go_at_call 13; refine (KBH.out.b2 _ (HU.out.2.kept hHeld.2)).mono ?_; rintro e w92 ⟨rfl, b92⟩) | (go_simp; go_at_call 13; refine (KBH.out.b2 _ (HU.out.2.kept hHeld.2)).mono ?_; rintro e w92 ⟨rfl, b92⟩))
        (try (go_wp2_with fail))
        refine hK.out _ _ ?_ (fun hHeld => ?_)
        · ((try dsimp only); exact ⟨⟨cell_inB hHeld.1.1 b92, cell_inB hHeld.1.2 b92⟩, hHeld.2.trans (b92.mono hHeld.2.size)⟩)
        clear hK K
        (try simp only [Act.put, List.getElem_toArray, List.getElem_cons_succ, List.getElem_cons_zero, List.setIfInBounds_toArray, List.set_cons_zero, List.set_cons_succ])
        refine wpAnyH_take (i := 8) (v := ?_) rfl (by kernel_rfl) (by kernel_rfl) (by kernel_rfl) (fun _ _ _ h => h) (Or.inl ⟨by rfl, ?_⟩) (by assumption) ?_
        rotate_left
        · (intro w hSw; (try dsimp only at hSw); go_simp; (try with_reducible rfl))
        (try simp only [Act.put, List.getElem_toArray, List.getElem_cons_succ, List.getElem_cons_zero, List.setIfInBounds_toArray, List.set_cons_zero, List.set_cons_succ])
        refine wpAnyH_take (i := 9) (v := ?_) rfl (by kernel_rfl) (by kernel_rfl) (by kernel_rfl) (fun _ _ _ h => h) (Or.inl ⟨by rfl, ?_⟩) (by assumption) ?_
        rotate_left
        · (intro w hSw; (try dsimp only at hSw); go_simp; (try with_reducible rfl))
        (try simp only [Act.put, List.getElem_toArray, List.getElem_cons_succ, List.getElem_cons_zero, List.setIfInBounds_toArray, List.set_cons_zero, List.set_cons_succ])
        refine wpAnyH_done (by kernel_rfl) ?_ _
        refine NoPanic.normal ?_
        go_wp2_with fail
        go_ret
        exact ⟨rfl, HB.out.trans (hHeld.2.mono HB.out.size)⟩
      | true =>
        rw [ht] at HIT
        have hm := HNO.out ht
        clear ht HNO
        by_cases hm0 : 0 ≤ m
        · have hm1 : ¬ (m ≤ 1) := by omega
          clear hm
          go_wp2_with fail
          refine HIT.out.mono ?_
          rintro e w11 ⟨rfl, b11⟩
          replace HB := Lib.hid (HB.out.trans (b11.mono HB.out.size))
          clear b11
          clear KH HV HX HIT x0 x1 hxl
          go_wp2_with fail
          refine (HD2.out _ HB.out).mono ?_
          rintro e w30 ⟨c9, u9, l9, m9, s9, q0, q1, q2, q3, rfl, hll, hlr, oS, b30⟩
          obtain ⟨b9, kb⟩ := kb_of (c := c9) (m := m9) (s := s9) (u := u9) (ll := l9) (by omega) (few hlr) (by omega) (by omega)
          have KBH := Lib.hid kb
          replace HB := Lib.hid (HB.out.trans (b30.mono HB.out.size))
          have rS := oS.read
          obtain ⟨a9, e9, rfl, -⟩ := id rS
          clear kb b30 oS hll hlr q0 q1 q2 q3 HD2
          have HU := Lib.hid (TBX.new (c := c9) rS)
          have hal := (Below.refl w30.heap.size w30).alloc (Nat.le_refl _) (.cells #[.int .i64 c9, .slice a9 l9.length e9] 26)
          replace HB := Lib.hid (HB.out.trans (hal.mono HB.out.size))
          clear hal rS
          go_upto_region 18 with fail
          obtain ⟨T9, hT⟩ : ∃ T, T = w30.heap.size := ⟨_, rfl⟩
          obtain ⟨w31, hw⟩ : ∃ w', w' = w30.alloc (.cells #[.int .i64 c9, .slice a9 l9.length e9] 26) := ⟨_, rfl⟩
          rw [← hw] at HU HB ⊢
          rw [← hT] at HU ⊢
          clear hT hw
          have hbb : (b9 == b9) = true := by cases b9 <;> rfl
          refine wp_region_noPanic ?_
          refine wp_region_held_drew (S := (fun w' => (w'.cell? ⟨T9, 0, none⟩ = some (.int .i64 c9) ∧ w'.cell? ⟨T9, 1, none⟩ = some (.slice a9 l9.length e9)) ∧ Below w31.heap.size w31 w')) (by kernel_rfl) ?_ (fun hHeld => ?_)
          · ((try dsimp only); exact ⟨HU.out.1, (Below.refl _ _).drew⟩)
          refine wpAnyH_take (i := 0) (v := ?_) rfl (by kernel_rfl) (by kernel_rfl) (by kernel_rfl) (fun _ _ _ h => h) (Or.inl ⟨by rfl, ?_⟩) (by assumption) ?_
          rotate_left
          · (intro w hSw; (try dsimp only at hSw); go_simp; (try with_reducible rfl))
          (try simp only [Act.put, List.getElem_toArray, List.getElem_cons_zero, List.setIfInBounds_toArray, List.set_cons_zero, List.set_cons_succ])
          refine wpAnyH_take (i := 1) (v := ?_) rfl (by kernel_rfl) (by kernel_rfl) (by kernel_rfl) (fun _ _ _ h => h) (Or.inl ⟨by rfl, ?_⟩) (by assumption) ?_
          rotate_left
          · (intro w hSw; (try dsimp only at hSw); go_simp; (try with_reducible rfl))
          (try simp only [Act.put, List.getElem_toArray, List.getElem_cons_succ, List.getElem_cons_zero, List.setIfInBounds_toArray, List.set_cons_zero, List.set_cons_succ])
          refine wpAnyH_take (i := 2) (v := ?_) rfl (by kernel_rfl) (by kernel_rfl) (by kernel_rfl) (fun _ _ _ h => h) (Or.inl ⟨by rfl, ?_⟩) (by assumption) ?_
          rotate_left
          · (intro w hSw; (try dsimp only at hSw); go_simp; (try with_reducible rfl))
          (try simp only [Act.put, List.getElem_toArray, List.getElem_cons_succ, List.getElem_cons_zero, List.setIfInBounds_toArray, List.set_cons_zero, List.set_cons_succ])
          refine wpAnyH_take (i := 4) (v := ?_) rfl (by kernel_rfl) (by kernel_rfl) (by kernel_rfl) (fun _ _ _ h => h) (Or.inl ⟨by rfl, ?_⟩) (by assumption) ?_
          rotate_left
          · (intro w hSw; (try dsimp only at hSw); go_simp; (try with_reducible rfl))
          (try simp only [Act.put, List.getElem_toArray, List.getElem_cons_succ, List.getElem_cons_zero, List.setIfInBounds_toArray, List.set_cons_zero, List.set_cons_succ])
          refine wpAnyH_take (i := 5) (v := ?_) rfl (by kernel_rfl) (by kernel_rfl) (by kernel_rfl) (fun _ _ _ h => h) (Or.inl ⟨by rfl, ?_⟩) (by assumption) ?_
          rotate_left
          · (intro w hSw; (try dsimp only at hSw); go_simp; (try with_reducible rfl))
          (try simp only [Act.put, List.getElem_toArray, List.getElem_cons_succ, List.getElem_cons_zero, List.setIfInBounds_toArray, List.set_cons_zero, List.set_cons_succ])
          refine wpAnyH_take (i := 6) (v := ?_) rfl (by kernel_rfl) (by kernel_rfl) (by kernel_rfl) (fun _ _ _ h => h) (Or.inl ⟨by rfl, ?_⟩) (by assumption) ?_
          rotate_left
          · (intro w hSw; (try dsimp only at hSw); go_simp; (try with_reducible rfl))
          (try simp only [Act.put, List.getElem_toArray, List.getElem_cons_succ, List.getElem_cons_zero, List.setIfInBounds_toArray, List.set_cons_zero, List.set_cons_succ])
          refine wpAnyH_ready (rs := [3]) (by kernel_rfl) (by simp) (AllReadyH.cons rfl (fun K hK => ?_) AllReadyH.nil)
          (first | (go_at_call 11; refine (KBH.out.b1 _ (HU.out.2.kept hHeld.2)).mono ?_; rintro e w91 ⟨rfl, b91⟩) | (go_simp; go_at_call 11; refine (KBH.out.b1 _ (HU.out.2.kept hHeld.2)).mono ?_; rintro e w91 ⟨rfl, b91⟩))
          (try (go_wp2_with fail))
          refine hK.out _ _ ?_ (fun hHeld => ?_)
          · ((try dsimp only); exact ⟨⟨cell_inB hHeld.1.1 b91, cell_inB hHeld.1.2 b91⟩, hHeld.2.trans (b91.mono hHeld.2.size)⟩)
          clear hK K
          (try simp only [Act.put, List.getElem_toArray, List.getElem_cons_succ, List.getElem_cons_zero, List.setIfInBounds_toArray, List.set_cons_zero, List.set_cons_succ])
          refine wpAnyH_ready (rs := [7]) (by kernel_rfl) (by simp) (AllReadyH.cons rfl (fun K hK => ?_) AllReadyH.nil)
          (first | (go_at_call 13; refine (KBH.out.b2 _ (HU.out.2.kept hHeld.2)).mono ?_; rintro e w92 ⟨rfl, b92⟩) | (go_simp; go_at_call 13; refine (KBH.out.b2 _ (HU.out.2.kept hHeld.2)).mono ?_; rintro e w92 ⟨rfl, b92⟩))
          (try (go_wp2_with fail))
          refine hK.out _ _ ?_ (fun hHeld => ?_)
          · ((try dsimp only); exact ⟨⟨cell_inB hHeld.1.1 b92, cell_inB hHeld.1.2 b92⟩, hHeld.2.trans (b92.mono hHeld.2.size)⟩)
          clear hK K
          (try simp only [Act.put, List.getElem_toArray, List.getElem_cons_succ, List.getElem_cons_zero, List.setIfInBounds_toArray, List.set_cons_zero, List.set_cons_succ])
          refine wpAnyH_take (i := 8) (v := ?_) rfl (by kernel_rfl) (by kernel_rfl) (by kernel_rfl) (fun _ _ _ h => h) (Or.inl ⟨by rfl, ?_⟩) (by assumption) ?_
          rotate_left
          · (intro w hSw; (try dsimp only at hSw); go_simp; (try with_reducible rfl))
          (try simp only [Act.put, List.getElem_toArray, List.getElem_cons_succ, List.getElem_cons_zero, List.setIfInBounds_toArray, List.set_cons_zero, List.set_cons_succ])
          refine wpAnyH_take (i := 9) (v := ?_) rfl (by kernel_rfl) (by kernel_rfl) (by kernel_rfl) (fun _ _ _ h => h) (Or.inl ⟨by rfl, ?_⟩) (by assumption) ?_
          rotate_left
          · (intro w hSw; (try dsimp only at hSw); go_simp; (try with_reducible rfl))
          (try simp only [Act.put, List.getElem_toArray, List.getElem_cons_succ, List.getElem_cons_zero, List.setIfInBounds_toArray, List.set_cons_zero, List.set_cons_succ])
          refine wpAnyH_done (by kernel_rfl) ?_ _
          refine NoPanic.normal ?_
          go_wp2_with fail
          go_ret
          exact ⟨rfl, HB.out.trans (hHeld.2.mono HB.out.size)⟩
        · clear hm
          go_wp2_with fail
          refine HIT.out.mono ?_
          rintro e w11 ⟨rfl, b11⟩
          replace HB := Lib.hid (HB.out.trans (b11.mono HB.out.size))
          clear b11
          clear KH HV HX HIT x0 x1 hxl
          go_wp2_with fail
          refine (HD2.out _ HB.out).mono ?_
          rintro e w30 ⟨c9, u9, l9, m9, s9, q0, q1, q2, q3, rfl, hll, hlr, oS, b30⟩
          obtain ⟨b9, kb⟩ := kb_of (c := c9) (m := m9) (s := s9) (u := u9) (ll := l9) (by omega) (few hlr) (by omega) (by omega)
          have KBH := Lib.hid kb
          replace HB := Lib.hid (HB.out.trans (b30.mono HB.out.size))
          have rS := oS.read
          obtain ⟨a9, e9, rfl, -⟩ := id rS
          clear kb b30 oS hll hlr q0 q1 q2 q3 HD2
          have HU := Lib.hid (TBX.new (c := c9) rS)
          have hal := (Below.refl w30.heap.size w30).alloc (Nat.le_refl _) (.cells #[.int .i64 c9, .slice a9 l9.length e9] 26)
          replace HB := Lib.hid (HB.out.trans (hal.mono HB.out.size))
          clear hal rS
          go_upto_region 18 with fail
          obtain ⟨T9, hT⟩ : ∃ T, T = w30.heap.size := ⟨_, rfl⟩
          obtain ⟨w31, hw⟩ : ∃ w', w' = w30.alloc (.cells #[.int .i64 c9, .slice a9 l9.length e9] 26) := ⟨_, rfl⟩
          rw [← hw] at HU HB ⊢
          rw [← hT] at HU ⊢
          clear hT hw
          have hbb : (b9 == b9) = true := by cases b9 <;> rfl
          refine wp_region_noPanic ?_
          refine wp_region_held_drew (S := (fun w' => (w'.cell? ⟨T9, 0, none⟩ = some (.int .i64 c9) ∧ w'.cell? ⟨T9, 1, none⟩ = some (.slice a9 l9.length e9)) ∧ Below w31.heap.size w31 w')) (by kernel_rfl) ?_ (fun hHeld => ?_)
          · ((try dsimp only); exact ⟨HU.out.1, (Below.refl _ _).drew⟩)
          refine wpAnyH_take (i := 0) (v := ?_) rfl (by kernel_rfl) (by kernel_rfl) (by kernel_rfl) (fun _ _ _ h => h) (Or.inl ⟨by rfl, ?_⟩) (by assumption) ?_
          rotate_left
          · (intro w hSw; (try dsimp only at hSw); go_simp; (try with_reducible rfl))
          (try simp only [Act.put, List.getElem_toArray, List.getElem_cons_zero, List.setIfInBounds_toArray, List.set_cons_zero, List.set_cons_succ])
          refine wpAnyH_take (i := 1) (v := ?_) rfl (by kernel_rfl) (by kernel_rfl) (by kernel_rfl) (fun _ _ _ h => h) (Or.inl ⟨by rfl, ?_⟩) (by assumption) ?_
          rotate_left
          · (intro w hSw; (try dsimp only at hSw); go_simp; (try with_reducible rfl))
          (try simp only [Act.put, List.getElem_toArray, List.getElem_cons_succ, List.getElem_cons_zero, List.setIfInBounds_toArray, List.set_cons_zero, List.set_cons_succ])
          refine wpAnyH_take (i := 2) (v := ?_) rfl (by kernel_rfl) (by kernel_rfl) (by kernel_rfl) (fun _ _ _ h => h) (Or.inl ⟨by rfl, ?_⟩) (by assumption) ?_
          rotate_left
          · (intro w hSw; (try dsimp only at hSw); go_simp; (try with_reducible rfl))
          (try simp only [Act.put, List.getElem_toArray, List.getElem_cons_succ, List.getElem_cons_zero, List.setIfInBounds_toArray, List.set_cons_zero, List.set_cons_succ])
          refine wpAnyH_take (i := 4) (v := ?_) rfl (by kernel_rfl) (by kernel_rfl) (by kernel_rfl) (fun _ _ _ h => h) (Or.inl ⟨by rfl, ?_⟩) (by assumption) ?_
          rotate_left
          · (intro w hSw; (try dsimp only at hSw); go_simp; (try with_reducible rfl))
          (try simp only [Act.put, List.getElem_toArray, List.getElem_cons_succ, List.getElem_cons_zero, List.setIfInBounds_toArray, List.set_cons_zero, List.set_cons_succ])
          refine wpAnyH_take (i := 5) (v := ?_) rfl (by kernel_rfl) (by kernel_rfl) (by kernel_rfl) (fun _ _ _ h => h) (Or.inl ⟨by rfl, ?_⟩) (by assumption) ?_
          rotate_left
          · (intro w hSw; (try dsimp only at hSw); go_simp; (try with_reducible rfl))
          (try simp only [Act.put, List.getElem_toArray, List.getElem_cons_succ, List.getElem_cons_zero, List.setIfInBounds_toArray, List.set_cons_zero, List.set_cons_succ])
          refine wpAnyH_take (i := 6) (v := ?_) rfl (by kernel_rfl) (by kernel_rfl) (by kernel_rfl) (fun _ _ _ h => h) (Or.inl ⟨by rfl, ?_⟩) (by assumption) ?_
          rotate_left
          · (intro w hSw; (try dsimp only at hSw); go_simp; (try with_reducible rfl))
          (try simp only [Act.put, List.getElem_toArray, List.getElem_cons_succ, List.getElem_cons_zero, List.setIfInBounds_toArray, List.set_cons_zero, List.set_cons_succ])
          refine wpAnyH_ready (rs := [3]) (by kernel_rfl) (by simp) (AllReadyH.cons rfl (fun K hK => ?_) AllReadyH.nil)
          (first | (go_at_call 11; refine (KBH.out.b1 _ (HU.out.2.kept hHeld.2)).mono ?_; rintro e w91 ⟨rfl, b91⟩) | (go_simp; go_at_call 11; refine (KBH.out.b1 _ (HU.out.2.kept hHeld.2)).mono ?_; rintro e w91 ⟨rfl, b91⟩))
          (try (go_wp2_with fail))
          refine hK.out _ _ ?_ (fun hHeld => ?_)
          · ((try dsimp only); exact ⟨⟨cell_inB hHeld.1.1 b91, cell_inB hHeld.1.2 b91⟩, hHeld.2.trans (b91.mono hHeld.2.size)⟩)
          clear hK K
          (try simp only [Act.put, List.getElem_toArray, List.getElem_cons_succ, List.getElem_cons_zero, List.setIfInBounds_toArray, List.set_cons_zero, List.set_cons_succ])
          refine wpAnyH_ready (rs := [7]) (by kernel_rfl) (by simp) (AllReadyH.cons rfl (fun K hK => ?_) AllReadyH.nil)
          (first | (go_at_call 13; refine (KBH.out.b2 _ (HU.out.2.kept hHeld.2)).mono ?_; rintro e w92 ⟨rfl, b92⟩) | (go_simp; go_at_call 13; refine (KBH.out.b2 _ (HU.out.2.kept hHeld.2)).mono ?_; rintro e w92 ⟨rfl, b92⟩))
          (try (go_wp2_with fail))
          refine hK.out _ _ ?_ (fun hHeld => ?_)
          · ((try dsimp only); exact ⟨⟨cell_inB hHeld.1.1 b92, cell_inB hHeld.1.2 b92⟩, hHeld.2.trans (b92.mono hHeld.2.size)⟩)
          clear hK K
          (try simp only [Act.put, List.getElem_toArray, List.getElem_cons_succ, List.getElem_cons_zero, List.setIfInBounds_toArray, List.set_cons_zero, List.set_cons_succ])
          refine wpAnyH_take (i := 8) (v := ?_) rfl (by kernel_rfl) (by kernel_rfl) (by kernel_rfl) (fun _ _ _ h => h) (Or.inl ⟨by rfl, ?_⟩) (by assumption) ?_
          rotate_left
          · (intro w hSw; (try dsimp only at hSw); go_simp; (try with_reducible rfl))
          (try simp only [Act.put, List.getElem_toArray, List.getElem_cons_succ, List.getElem_cons_zero, List.setIfInBounds_toArray, List.set_cons_zero, List.set_cons_succ])
          refine wpAnyH_take (i := 9) (v := ?_) rfl (by kernel_rfl) (by kernel_rfl) (by kernel_rfl) (fun _ _ _ h => h) (Or.inl ⟨by rfl, ?_⟩) (by assumption) ?_
          rotate_left
          · (intro w hSw; (try dsimp only at hSw); go_simp; (try with_reducible rfl))
          (try simp only [Act.put, List.getElem_toArray, List.getElem_cons_succ, List.getElem_cons_zero, List.setIfInBounds_toArray, List.set_cons_zero, List.set_cons_succ])
          refine wpAnyH_done (by kernel_rfl) ?_ _
          refine NoPanic.normal ?_
          go_wp2_with fail
          go_ret
          exact ⟨rfl, HB.out.trans (hHeld.2.mono HB.out.size)⟩
  | true =>
    have hb5 := isT_bd (fineT_isT hf)
    obtain ⟨C, rfl⟩ : ∃ C : Nat, cc = (C : Int) := ⟨cc.toNat, by omega⟩
    have hC5 : C ≤ 5 := by omega
    have h32 := two5 hC5
    have hm0 : 0 ≤ m ∧ m ≤ 1 := by
      unfold fineT modeOk at hf
      rw [Bool.and_eq_true, decide_eq_true_iff] at hf
      omega
    obtain ⟨hm0, hm1⟩ := hm0
    have hT := fineT_isT hf
    have HUQ := Lib.hid (KH.out.uq hf)
    obtain ⟨N, hN⟩ : ∃ N : Nat, N = 2 ^ C := ⟨_, rfl⟩
    have HUQ2 : Hid (∀ x : Nat, x < N → ∀ w', ReadSS w' (.slice au ll.length cu) ll → Calls Tryz.prog 11 #[.agg #[.int .i64 (C : Int), .slice au ll.length cu], .int .i64 m, .int .i64 (x : Int)] w' fun e w'' => e = .returned (.bool (cov9 X (x : Int) X.length)) ∧ Below w'.heap.size w' w'') := Lib.hid (fun x hx => HUQ.out x (by rw [hN] at hx; exact hx))
    have hz : ((2 ^ C : Nat) : Int) = (2 : Int) ^ C := by rw [Int.natCast_pow]; rfl
    have hsh1 : wrap64 ((2 : Int) ^ C) = (N : Int) := by rw [← hz, ← hN]; unfold wrap64; omega
    have hsh2 : IntKind.i64.wrap ((2 : Int) ^ C) = (N : Int) := by rw [← hz, ← hN, IntKind.wrap_i64]; omega
    rw [← hN] at h32
    clear hf hb5 HUQ hz hN
    obtain ⟨x0, x1⟩ := HV.out.1
    go_wp2_with fail
    go_loopw [6] (fun iv wr => ∃ i : Nat, i ≤ N ∧ iv = .int .i64 (i : Int) ∧ Hid (TBX wr T0 (C : Int) (.slice au ll.length cu) ll) ∧ Hid (ReadI wr (.slice ax X.length cx) X) ∧ Hid (Below w.heap.size w wr)) (fun iv _ => N - (intOf iv).toNat)
    case atStart => exact ⟨0, by omega, rfl, HV, HX, HB⟩
    case round =>
      clear HV HX HB x0 x1
      obtain ⟨i, hi, rfl, HV, HX, HB⟩ := hrel
      obtain ⟨w10, hw⟩ : ∃ w', w' = wr := ⟨_, rfl⟩
      rw [← hw] at HV HX HB ⊢
      clear hw
      obtain ⟨x0, x1⟩ := HV.out.1
      have HIT := Lib.hid (KH.out.it _ HV.out.2)
      rw [hT] at HIT
      have z0 : (0 : Int) ≤ (i : Int) := by omega
      by_cases hlt : i < N
      · have z1 : (i : Int) < (N : Int) := by omega
        have hi9 : i ≤ 32 := by omega
        go_wp2_with fail
        refine HIT.out.mono ?_
        rintro e w11 ⟨rfl, b11⟩
        replace HB := Lib.hid (HB.out.trans (b11.mono HB.out.size))
        replace HV := Lib.hid (HV.out.kept b11)
        replace HX := Lib.hid (HX.out.kept b11)
        clear b11 x0 x1 HIT
        obtain ⟨w12, hw⟩ : ∃ w', w' = w11 := ⟨_, rfl⟩
        rw [← hw] at HV HX HB ⊢
        clear hw
        obtain ⟨x0, x1⟩ := HV.out.1
        have HUI := Lib.hid (HUQ2.out i hlt)
        go_wp2_with fail
        go_loopw [7, 8] (fun cv jv wr => ∃ j : Nat, j ≤ X.length ∧ jv = .int .i64 (j : Int) ∧ cv = .bool (cov9 X (i : Int) j) ∧ Hid (Below w12.heap.size w12 wr)) (fun _ jv _ => X.length - (intOf jv).toNat)
        case atStart => exact ⟨0, by omega, rfl, rfl, Lib.hid (Below.refl _ _)⟩
        case round =>
          clear x0 x1
          obtain ⟨j, hj, rfl, rfl, HBK⟩ := hrel
          obtain ⟨w13, hw⟩ : ∃ w', w' = wr := ⟨_, rfl⟩
          rw [← hw] at HBK ⊢
          clear hw
          have z2 : (0 : Int) ≤ (j : Int) := by omega
          by_cases hj5 : j < X.length
          · obtain ⟨b, rfl, hb⟩ := readI_at HX.out hj5
            have HYB : Hid (∀ w', Below w12.heap.size w12 w' → w'.cell? (b.add j) = some (.int .i64 (X.getD j 0))) := Lib.hid (fun w' h => cell_inB hb h)
            have z3 : (j : Int) < (X.length : Int) := by omega
            have hcs : cov9 X (i : Int) (j + 1) = (cov9 X (i : Int) j || (bits .and .i64 (X.getD j 0) (i : Int) == X.getD j 0)) := rfl
            obtain ⟨y, hy⟩ : ∃ y, y = X.getD j 0 := ⟨_, rfl⟩
            rw [← hy] at HYB hcs
            clear hy
            obtain ⟨bb, hbb⟩ : ∃ bb, bb = cov9 X (i : Int) j := ⟨_, rfl⟩
            rw [← hbb] at hcs ⊢
            have HCS := Lib.hid hcs
            clear hb hbb hcs
            cases bb with
            | true =>
              have hcv : cov9 X (i : Int) (j + 1) = true := by rw [HCS.out]; rfl
              have HCV := Lib.hid hcv
              clear hcv HCS
              go_upto_region 14 with fail
              refine wp_region_noPanic ?_
              refine wp_region_held_drew (S := (fun w' => w'.cell? (b.add j) = some (.int .i64 y) ∧ Below w12.heap.size w12 w')) (by kernel_rfl) ?_ (fun hHeld => ?_)
              · ((try dsimp only); exact ⟨HYB.out _ HBK.out.drew, HBK.out.drew⟩)
              refine wpAnyH_take (i := 0) (v := ?_) rfl (by kernel_rfl) (by kernel_rfl) (by kernel_rfl) (fun _ _ _ h => h) (Or.inl ⟨by rfl, ?_⟩) (by assumption) ?_
              rotate_left
              · (intro w hSw; (try dsimp only at hSw); go_simp; (try with_reducible rfl))
              (try simp only [Act.put, List.getElem_toArray, List.getElem_cons_zero, List.setIfInBounds_toArray, List.set_cons_zero, List.set_cons_succ])
              refine wpAnyH_take (i := 1) (v := ?_) rfl (by kernel_rfl) (by kernel_rfl) (by kernel_rfl) (fun _ _ _ h => h) (Or.inl ⟨by rfl, ?_⟩) (by assumption) ?_
              rotate_left
              · (intro w hSw; (try dsimp only at hSw); go_simp; (try with_reducible rfl))
              (try simp only [Act.put, List.getElem_toArray, List.getElem_cons_succ, List.getElem_cons_zero, List.setIfInBounds_toArray, List.set_cons_zero, List.set_cons_succ])
              refine wpAnyH_take (i := 2) (v := undef) rfl (by kernel_rfl) (by kernel_rfl) (by kernel_rfl) (fun _ _ _ h => h) (Or.inr ⟨by rfl, rfl⟩) (by assumption) ?_
              (try simp only [Act.put, List.getElem_toArray, List.getElem_cons_succ, List.getElem_cons_zero, List.setIfInBounds_toArray, List.set_cons_zero, List.set_cons_succ])
              refine wpAnyH_take (i := 3) (v := undef) rfl (by kernel_rfl) (by kernel_rfl) (by kernel_rfl) (fun _ _ _ h => h) (Or.inr ⟨by rfl, rfl⟩) (by assumption) ?_
              (try simp only [Act.put, List.getElem_toArray, List.getElem_cons_succ, List.getElem_cons_zero, List.setIfInBounds_toArray, List.set_cons_zero, List.set_cons_succ])
              refine wpAnyH_take (i := 4) (v := undef) rfl (by kernel_rfl) (by kernel_rfl) (by kernel_rfl) (fun _ _ _ h => h) (Or.inr ⟨by rfl, rfl⟩) (by assumption) ?_
              (try simp only [Act.put, List.getElem_toArray, List.getElem_cons_succ, List.getElem_cons_zero, List.setIfInBounds_toArray, List.set_cons_zero, List.set_cons_succ])
              refine wpAnyH_take (i := 5) (v := undef) rfl (by kernel_rfl) (by kernel_rfl) (by kernel_rfl) (fun _ _ _ h => h) (Or.inr ⟨by rfl, rfl⟩) (by assumption) ?_
              (try simp only [Act.put, List.getElem_toArray, List.getElem_cons_succ, List.getElem_cons_zero, List.setIfInBounds_toArray, List.set_cons_zero, List.set_cons_succ])
              refine wpAnyH_take (i := 6) (v := undef) rfl (by kernel_rfl) (by kernel_rfl) (by kernel_rfl) (fun _ _ _ h => h) (Or.inr ⟨by rfl, rfl⟩) (by assumption) ?_
              (try simp only [Act.put, List.getElem_toArray, List.getElem_cons_succ, List.getElem_cons_zero, List.setIfInBounds_toArray, List.set_cons_zero, List.set_cons_succ])
              refine wpAnyH_take (i := 7) (v := undef) rfl (by kernel_rfl) (by kernel_rfl) (by kernel_rfl) (fun _ _ _ h => h) (Or.inr ⟨by rfl, rfl⟩) (by assumption) ?_
              (try simp only [Act.put, List.getElem_toArray, List.getElem_cons_succ, List.getElem_cons_zero, List.setIfInBounds_toArray, List.set_cons_zero, List.set_cons_succ])
              refine wpAnyH_take (i := 8) (v := undef) rfl (by kernel_rfl) (by kernel_rfl) (by kernel_rfl) (fun _ _ _ h => h) (Or.inr ⟨by rfl, rfl⟩) (by assumption) ?_
              (try simp only [Act.put, List.getElem_toArray, List.getElem_cons_succ, List.getElem_cons_zero, List.setIfInBounds_toArray, List.set_cons_zero, List.set_cons_succ])
              refine wpAnyH_take (i := 9) (v := undef) rfl (by kernel_rfl) (by kernel_rfl) (by kernel_rfl) (fun _ _ _ h => h) (Or.inr ⟨by rfl, rfl⟩) (by assumption) ?_
              (try simp only [Act.put, List.getElem_toArray, List.getElem_cons_succ, List.getElem_cons_zero, List.setIfInBounds_toArray, List.set_cons_zero, List.set_cons_succ])
              refine wpAnyH_take (i := 10) (v := undef) rfl (by kernel_rfl) (by kernel_rfl) (by kernel_rfl) (fun _ _ _ h => h) (Or.inr ⟨by rfl, rfl⟩) (by assumption) ?_
              (try simp only [Act.put, List.getElem_toArray, List.getElem_cons_succ, List.getElem_cons_zero, List.setIfInBounds_toArray, List.set_cons_zero, List.set_cons_succ])
              refine wpAnyH_take (i := 11) (v := undef) rfl (by kernel_rfl) (by kernel_rfl) (by kernel_rfl) (fun _ _ _ h => h) (Or.inr ⟨by rfl, rfl⟩) (by assumption) ?_
              (try simp only [Act.put, List.getElem_toArray, List.getElem_cons_succ, List.getElem_cons_zero, List.setIfInBounds_toArray, List.set_cons_zero, List.set_cons_succ])
              refine wpAnyH_take (i := 12) (v := undef) rfl (by kernel_rfl) (by kernel_rfl) (by kernel_rfl) (fun _ _ _ h => h) (Or.inr ⟨by rfl, rfl⟩) (by assumption) ?_
              (try simp only [Act.put, List.getElem_toArray, List.getElem_cons_succ, List.getElem_cons_zero, List.setIfInBounds_toArray, List.set_cons_zero, List.set_cons_succ])
              refine wpAnyH_take (i := 13) (v := ?_) rfl (by kernel_rfl) (by kernel_rfl) (by kernel_rfl) (fun _ _ _ h => h) (Or.inl ⟨by rfl, ?_⟩) (by assumption) ?_
              rotate_left
              · (intro w hSw; (try dsimp only at hSw); go_simp; (try with_reducible rfl))
              (try simp only [Act.put, List.getElem_toArray, List.getElem_cons_succ, List.getElem_cons_zero, List.setIfInBounds_toArray, List.set_cons_zero, List.set_cons_succ])
              refine wpAnyH_take (i := 14) (v := ?_) rfl (by kernel_rfl) (by kernel_rfl) (by kernel_rfl) (fun _ _ _ h => h) (Or.inl ⟨by rfl, ?_⟩) (by assumption) ?_
              rotate_left
              · (intro w hSw; (try dsimp only at hSw); go_simp; (try with_reducible rfl))
              (try simp only [Act.put, List.getElem_toArray, List.getElem_cons_succ, List.getElem_cons_zero, List.setIfInBounds_toArray, List.set_cons_zero, List.set_cons_succ])
              refine wpAnyH_done (by kernel_rfl) ?_ _
              refine NoPanic.normal ?_
              have hcv := HCV.out
              have HB7 := Lib.hid hHeld.2
              clear hHeld
              go_wp2_with fail
              go_roundw
              case rel => exact ⟨j + 1, by omega, by go_num, by rw [hcv], HB7⟩
              case measure => simp [intOf]; omega
            | false =>
              obtain ⟨pb, hpb⟩ : ∃ pb, pb = (bits .and .i64 y (i : Int) == y) := ⟨_, rfl⟩
              have hcv : cov9 X (i : Int) (j + 1) = pb := by rw [HCS.out, ← hpb]; rfl
              have HCV := Lib.hid hcv
              have hpb2 := hpb.symm
              clear hcv HCS hpb
              go_upto_region 14 with fail
              refine wp_region_noPanic ?_
              refine wp_region_held_drew (S := (fun w' => w'.cell? (b.add j) = some (.int .i64 y) ∧ Below w12.heap.size w12 w')) (by kernel_rfl) ?_ (fun hHeld => ?_)
              · ((try dsimp only); exact ⟨HYB.out _ HBK.out.drew, HBK.out.drew⟩)
              refine wpAnyH_take (i := 0) (v := ?_) rfl (by kernel_rfl) (by kernel_rfl) (by kernel_rfl) (fun _ _ _ h => h) (Or.inl ⟨by rfl, ?_⟩) (by assumption) ?_
              rotate_left
              · (intro w hSw; (try dsimp only at hSw); go_simp; (try with_reducible rfl))
              (try simp only [Act.put, List.getElem_toArray, List.getElem_cons_zero, List.setIfInBounds_toArray, List.set_cons_zero, List.set_cons_succ])
              refine wpAnyH_take (i := 1) (v := ?_) rfl (by kernel_rfl) (by kernel_rfl) (by kernel_rfl) (fun _ _ _ h => h) (Or.inl ⟨by rfl, ?_⟩) (by assumption) ?_
              rotate_left
              · (intro w hSw; (try dsimp only at hSw); go_simp; (try with_reducible rfl))
              (try simp only [Act.put, List.getElem_toArray, List.getElem_cons_succ, List.getElem_cons_zero, List.setIfInBounds_toArray, List.set_cons_zero, List.set_cons_succ])
              refine wpAnyH_take (i := 2) (v := ?_) rfl (by kernel_rfl) (by kernel_rfl) (by kernel_rfl) (fun _ _ _ h => h) (Or.inl ⟨by rfl, ?_⟩) (by assumption) ?_
              rotate_left
              · (intro w hSw; (try dsimp only at hSw); go_simp; (try with_reducible rfl))
              (try simp only [Act.put, List.getElem_toArray, List.getElem_cons_succ, List.getElem_cons_zero, List.setIfInBounds_toArray, List.set_cons_zero, List.set_cons_succ])
              refine wpAnyH_take (i := 3) (v := ?_) rfl (by kernel_rfl) (by kernel_rfl) (by kernel_rfl) (fun _ _ _ h => h) (Or.inl ⟨by rfl, ?_⟩) (by assumption) ?_
              rotate_left
              · (intro w hSw; (try dsimp only at hSw); go_simp; (try with_reducible rfl))
              (try simp only [Act.put, List.getElem_toArray, List.getElem_cons_succ, List.getElem_cons_zero, List.setIfInBounds_toArray, List.set_cons_zero, List.set_cons_succ])
              refine wpAnyH_take (i := 4) (v := ?_) rfl (by kernel_rfl) (by kernel_rfl) (by kernel_rfl) (fun _ _ _ h => h) (Or.inl ⟨by rfl, ?_⟩) (by assumption) ?_
              rotate_left
              · (intro w hSw; (try dsimp only at hSw); go_simp; (try with_reducible rfl))
              (try simp only [Act.put, List.getElem_toArray, List.getElem_cons_succ, List.getElem_cons_zero, List.setIfInBounds_toArray, List.set_cons_zero, List.set_cons_succ])
              refine wpAnyH_take (i := 5) (v := ?_) rfl (by kernel_rfl) (by kernel_rfl) (by kernel_rfl) (fun _ _ _ h => h) (Or.inl ⟨by rfl, ?_⟩) (by assumption) ?_
              rotate_left
              · (intro w hSw; (try dsimp only at hSw); go_simp; (try with_reducible rfl))
              (try simp only [Act.put, List.getElem_toArray, List.getElem_cons_succ, List.getElem_cons_zero, List.setIfInBounds_toArray, List.set_cons_zero, List.set_cons_succ])
              refine wpAnyH_take (i := 6) (v := ?_) rfl (by kernel_rfl) (by kernel_rfl) (by kernel_rfl) (fun _ _ _ h => h) (Or.inl ⟨by rfl, ?_⟩) (by assumption) ?_
              rotate_left
              · (intro w hSw; (try dsimp only at hSw); go_simp; (try with_reducible rfl))
              (try simp only [Act.put, List.getElem_toArray, List.getElem_cons_succ, List.getElem_cons_zero, List.setIfInBounds_toArray, List.set_cons_zero, List.set_cons_succ])
              refine wpAnyH_take (i := 7) (v := ?_) rfl (by kernel_rfl) (by kernel_rfl) (by kernel_rfl) (fun _ _ _ h => h) (Or.inl ⟨by rfl, ?_⟩) (by assumption) ?_
              rotate_left
              · (intro w hSw; (try dsimp only at hSw); go_simp; (try with_reducible rfl))
              (try simp only [Act.put, List.getElem_toArray, List.getElem_cons_succ, List.getElem_cons_zero, List.setIfInBounds_toArray, List.set_cons_zero, List.set_cons_succ])
              refine wpAnyH_take (i := 8) (v := ?_) rfl (by kernel_rfl) (by kernel_rfl) (by kernel_rfl) (fun _ _ _ h => h) (Or.inl ⟨by rfl, ?_⟩) (by assumption) ?_
              rotate_left
              · (intro w hSw; (try dsimp only at hSw); go_simp; (try with_reducible rfl))
              (try simp only [Act.put, List.getElem_toArray, List.getElem_cons_succ, List.getElem_cons_zero, List.setIfInBounds_toArray, List.set_cons_zero, List.set_cons_succ])
              refine wpAnyH_take (i := 9) (v := ?_) rfl (by kernel_rfl) (by kernel_rfl) (by kernel_rfl) (fun _ _ _ h => h) (Or.inl ⟨by rfl, ?_⟩) (by assumption) ?_
              rotate_left
              · (intro w hSw; (try dsimp only at hSw); go_simp; (try with_reducible rfl))
              (try simp only [Act.put, List.getElem_toArray, List.getElem_cons_succ, List.getElem_cons_zero, List.setIfInBounds_toArray, List.set_cons_zero, List.set_cons_succ])
              refine wpAnyH_take (i := 10) (v := ?_) rfl (by kernel_rfl) (by kernel_rfl) (by kernel_rfl) (fun _ _ _ h => h) (Or.inl ⟨by rfl, ?_⟩) (by assumption) ?_
              rotate_left
              · (intro w hSw; (try dsimp only at hSw); go_simp; (try with_reducible rfl))
              (try simp only [Act.put, List.getElem_toArray, List.getElem_cons_succ, List.getElem_cons_zero, List.setIfInBounds_toArray, List.set_cons_zero, List.set_cons_succ])
              refine wpAnyH_take (i := 11) (v := ?_) rfl (by kernel_rfl) (by kernel_rfl) (by kernel_rfl) (fun _ _ _ h => h) (Or.inl ⟨by rfl, ?_⟩) (by assumption) ?_
              rotate_left
              · (intro w hSw; (try dsimp only at hSw); go_simp; (try with_reducible rfl))
              (try simp only [Act.put, List.getElem_toArray, List.getElem_cons_succ, List.getElem_cons_zero, List.setIfInBounds_toArray, List.set_cons_zero, List.set_cons_succ])
              refine wpAnyH_take (i := 12) (v := ?_) rfl (by kernel_rfl) (by kernel_rfl) (by kernel_rfl) (fun _ _ _ h => h) (Or.inl ⟨by rfl, ?_⟩) (by assumption) ?_
              rotate_left
              · (intro w hSw; (try dsimp only at hSw); go_simp; (try with_reducible rfl))
              (try simp only [Act.put, List.getElem_toArray, List.getElem_cons_succ, List.getElem_cons_zero, List.setIfInBounds_toArray, List.set_cons_zero, List.set_cons_succ])
              refine wpAnyH_take (i := 13) (v := ?_) rfl (by kernel_rfl) (by kernel_rfl) (by kernel_rfl) (fun _ _ _ h => h) (Or.inl ⟨by rfl, ?_⟩) (by assumption) ?_
              rotate_left
              · (intro w hSw; (try dsimp only at hSw); go_simp; (try with_reducible rfl))
              (try simp only [Act.put, List.getElem_toArray, List.getElem_cons_succ, List.getElem_cons_zero, List.setIfInBounds_toArray, List.set_cons_zero, List.set_cons_succ])
              refine wpAnyH_take (i := 14) (v := ?_) rfl (by kernel_rfl) (by kernel_rfl) (by kernel_rfl) (fun _ _ _ h => h) (Or.inl ⟨by rfl, ?_⟩) (by assumption) ?_
              rotate_left
              · (intro w hSw; (try dsimp only at hSw); go_simp; (try with_reducible rfl))
              (try simp only [Act.put, List.getElem_toArray, List.getElem_cons_succ, List.getElem_cons_zero, List.setIfInBounds_toArray, List.set_cons_zero, List.set_cons_succ])
              refine wpAnyH_done (by kernel_rfl) ?_ _
              refine NoPanic.normal ?_
              have hcv := HCV.out
              have HB7 := Lib.hid hHeld.2
              clear hHeld
              go_wp2_with fail
              go_roundw
              case rel => exact ⟨j + 1, by omega, by go_num, by rw [hcv], HB7⟩
              case measure => simp [intOf]; omega
          · obtain rfl : j = X.length := by omega
            obtain ⟨p, hp⟩ : ∃ p, p = cov9 X (i : Int) X.length := ⟨_, rfl⟩
            rw [← hp] at HUI ⊢
            have hpp : (p != p) = false := by cases p <;> rfl
            have HV2 := Lib.hid (HV.out.kept HBK.out)
            have HX2 := Lib.hid (HX.out.kept HBK.out)
            have HB2 := Lib.hid (HB.out.trans (HBK.out.mono HB.out.size))
            clear hp HV HX HB HBK
            obtain ⟨x0, x1⟩ := HV2.out.1
            go_wp2_with fail
            refine (HUI.out _ HV2.out.2).mono ?_
            rintro e w14 ⟨rfl, b14⟩
            have HV := Lib.hid (HV2.out.kept b14)
            have HX := Lib.hid (HX2.out.kept b14)
            have HB := Lib.hid (HB2.out.trans (b14.mono HB2.out.size))
            clear b14 x0 x1 HV2 HX2 HB2
            go_wp2_with fail
            go_roundw
            case rel => exact ⟨i + 1, by omega, by go_num, HV, HX, HB⟩
            case measure => simp [intOf]; omega
      · obtain rfl : i = N := by omega
        go_wp2_with fail
        refine HIT.out.mono ?_
        rintro e w11 ⟨rfl, b11⟩
        replace HB := Lib.hid (HB.out.trans (b11.mono HB.out.size))
        replace HV := Lib.hid (HV.out.kept b11)
        clear b11 x0 x1
        obtain ⟨x0, x1⟩ := HV.out.1
        clear KH HX HIT HUQ2
        go_wp2_with fail
        refine (HD2.out _ HB.out).mono ?_
        rintro e w30 ⟨c9, u9, l9, m9, s9, q0, q1, q2, q3, rfl, hll, hlr, oS, b30⟩
        obtain ⟨b9, kb⟩ := kb_of (c := c9) (m := m9) (s := s9) (u := u9) (ll := l9) (by omega) (few hlr) (by omega) (by omega)
        have KBH := Lib.hid kb
        replace HB := Lib.hid (HB.out.trans (b30.mono HB.out.size))
        have rS := oS.read
        obtain ⟨a9, e9, rfl, -⟩ := id rS
        clear kb b30 oS hll hlr q0 q1 q2 q3 HD2
        have HU := Lib.hid (TBX.new (c := c9) rS)
        have hal := (Below.refl w30.heap.size w30).alloc (Nat.le_refl _) (.cells #[.int .i64 c9, .slice a9 l9.length e9] 26)
        replace HB := Lib.hid (HB.out.trans (hal.mono HB.out.size))
        clear hal rS
        go_upto_region 18 with fail
        obtain ⟨T9, hT⟩ : ∃ T, T = w30.heap.size := ⟨_, rfl⟩
        obtain ⟨w31, hw⟩ : ∃ w', w' = w30.alloc (.cells #[.int .i64 c9, .slice a9 l9.length e9] 26) := ⟨_, rfl⟩
        rw [← hw] at HU HB ⊢
        rw [← hT] at HU ⊢
        clear hT hw
        have hbb : (b9 == b9) = true := by cases b9 <;> rfl
        refine wp_region_noPanic ?_
        refine wp_region_held_drew (S := (fun w' => (w'.cell? ⟨T9, 0, none⟩ = some (.int .i64 c9) ∧ w'.cell? ⟨T9, 1, none⟩ = some (.slice a9 l9.length e9)) ∧ Below w31.heap.size w31 w')) (by kernel_rfl) ?_ (fun hHeld => ?_)
        · ((try dsimp only); exact ⟨HU.out.1, (Below.refl _ _).drew⟩)
        refine wpAnyH_take (i := 0) (v := ?_) rfl (by kernel_rfl) (by kernel_rfl) (by kernel_rfl) (fun _ _ _ h => h) (Or.inl ⟨by rfl, ?_⟩) (by assumption) ?_
        rotate_left
        · (intro w hSw; (try dsimp only at hSw); go_simp; (try with_reducible rfl))
        (try simp only [Act.put, List.getElem_toArray, List.getElem_cons_zero, List.setIfInBounds_toArray, List.set_cons_zero, List.set_cons_succ])
        refine wpAnyH_take (i := 1) (v := ?_) rfl (by kernel_rfl) (by kernel_rfl) (by kernel_rfl) (fun _ _ _ h => h) (Or.inl ⟨by rfl, ?_⟩) (by assumption) ?_
        rotate_left
        · (intro w hSw; (try dsimp only at hSw); go_simp; (try with_reducible rfl))
        (try simp only [Act.put, List.getElem_toArray, List.getElem_cons_succ, List.getElem_cons_zero, List.setIfInBounds_toArray, List.set_cons_zero, List.set_cons_succ])
        refine wpAnyH_take (i := 2) (v := ?_) rfl (by kernel_rfl) (by kernel_rfl) (by kernel_rfl) (fun _ _ _ h => h) (Or.inl ⟨by rfl, ?_⟩) (by assumption) ?_
        rotate_left
        · (intro w hSw; (try dsimp only at hSw); go_simp; (try with_reducible rfl))
        (try simp only [Act.put, List.getElem_toArray, List.getElem_cons_succ, List.getElem_cons_zero, List.setIfInBounds_toArray, List.set_cons_zero, List.set_cons_succ])
        refine wpAnyH_take (i := 4) (v := ?_) rfl (by kernel_rfl) (by kernel_rfl) (by kernel_rfl) (fun _ _ _ h => h) (Or.inl ⟨by rfl, ?_⟩) (by assumption) ?_
        rotate_left
        · (intro w hSw; (try dsimp only at hSw); go_simp; (try with_reducible rfl))
        (try simp only [Act.put, List.getElem_toArray, List.getElem_cons_succ, List.getElem_cons_zero, List.setIfInBounds_toArray, List.set_cons_zero, List.set_cons_succ])
        refine wpAnyH_take (i := 5) (v := ?_) rfl (by kernel_rfl) (by kernel_rfl) (by kernel_rfl) (fun _ _ _ h => h) (Or.inl ⟨by rfl, ?_⟩) (by assumption) ?_
        rotate_left
        · (intro w hSw; (try dsimp only at hSw); go_simp; (try with_reducible rfl))
        (try simp only [Act.put, List.getElem_toArray, List.getElem_cons_succ, List.getElem_cons_zero, List.setIfInBounds_toArray, List.set_cons_zero, List.set_cons_succ])
        refine wpAnyH_take (i := 6) (v := ?_) rfl (by kernel_rfl) (by kernel_rfl) (by kernel_rfl) (fun _ _ _ h => h) (Or.inl ⟨by rfl, ?_⟩) (by assumption) ?_
        rotate_left
        · (intro w hSw; (try dsimp only at hSw); go_simp; (try with_reducible rfl))
        (try simp only [Act.put, List.getElem_toArray, List.getElem_cons_succ, List.getElem_cons_zero, List.setIfInBounds_toArray, List.set_cons_zero, List.set_cons_succ])
        refine wpAnyH_ready (rs := [3]) (by kernel_rfl) (by simp) (AllReadyH.cons rfl (fun K hK => ?_) AllReadyH.nil)
        (first | (go_at_call 11; refine (KBH.out.b1 _ (HU.out.2.kept hHeld.2)).mono ?_; rintro e w91 ⟨rfl, b91⟩) | (go_simp; go_at_call 11; refine (KBH.out.b1 _ (HU.out.2.kept hHeld.2)).mono ?_; rintro e w91 ⟨rfl, b91⟩))
        (try (go_wp2_with fail))
        refine hK.out _ _ ?_ (fun hHeld => ?_)
        · ((try dsimp only); exact ⟨⟨cell_inB hHeld.1.1 b91, cell_inB hHeld.1.2 b91⟩, hHeld.2.trans (b91.mono hHeld.2.size)⟩)
        clear hK K
        (try simp only [Act.put, List.getElem_toArray, List.getElem_cons_succ, List.getElem_cons_zero, List.setIfInBounds_toArray, List.set_cons_zero, List.set_cons_succ])
        refine wpAnyH_ready (rs := [7]) (by kernel_rfl) (by simp) (AllReadyH.cons rfl (fun K hK => ?_) AllReadyH.nil)
        (first | (go_at_call 13; refine (KBH.out.b2 _ (HU.out.2.kept hHeld.2)).mono ?_; rintro e w92 ⟨rfl, b92⟩) | (go_simp; go_at_call 13; refine (KBH.out.b2 _ (HU.out.2.kept hHeld.2)).mono ?_; rintro e w92 ⟨rfl, b92⟩))
        (try (go_wp2_with fail))
        refine hK.out _ _ ?_ (fun hHeld => ?_)
        · ((try dsimp only); exact ⟨⟨cell_inB hHeld.1.1 b92, cell_inB hHeld.1.2 b92⟩, hHeld.2.trans (b92.mono hHeld.2.size)⟩)
        clear hK K
        (try simp only [Act.put, List.getElem_toArray, List.getElem_cons_succ, List.getElem_cons_zero, List.setIfInBounds_toArray, List.set_cons_zero, List.set_cons_succ])
        refine wpAnyH_take (i := 8) (v := ?_) rfl (by kernel_rfl) (by kernel_rfl) (by kernel_rfl) (fun _ _ _ h => h) (Or.inl ⟨by rfl, ?_⟩) (by assumption) ?_
        rotate_left
        · (intro w hSw; (try dsimp only at hSw); go_simp; (try with_reducible rfl))
        (try simp only [Act.put, List.getElem_toArray, List.getElem_cons_succ, List.getElem_cons_zero, List.setIfInBounds_toArray, List.set_cons_zero, List.set_cons_succ])
        refine wpAnyH_take (i := 9) (v := ?_) rfl (by kernel_rfl) (by kernel_rfl) (by kernel_rfl) (fun _ _ _ h => h) (Or.inl ⟨by rfl, ?_⟩) (by assumption) ?_
        rotate_left
        · (intro w hSw; (try dsimp only at hSw); go_simp; (try with_reducible rfl))
        (try simp only [Act.put, List.getElem_toArray, List.getElem_cons_succ, List.getElem_cons_zero, List.setIfInBounds_toArray, List.set_cons_zero, List.set_cons_succ])
        refine wpAnyH_done (by kernel_rfl) ?_ _
        refine NoPanic.normal ?_
        go_wp2_with fail
        go_ret
        exact ⟨rfl, HB.out.trans (hHeld.2.mono HB.out.size)⟩
end Go.Proofs.YtnbjcelfdppkcaaGreat
