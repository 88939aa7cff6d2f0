/- The program's chapter 13: SynthesizeThird, by contract. Conditions: as stated. -/
import Derived.Test.YtcgkfbjdlhapkaaPnIm
import Derived.Test.YtcgkfbjdlhapkaaPnEm
namespace Go.Proofs.Ytcgkfbjdlhapkaa
open Go.RowKit

theorem sy_get {n : Int} {l : List (Int × Int)} (ha : arD n l = true) : ∃ k0 r, koL n l = k0 :: r := by
  have h := koL_pos ha
  cases hk : koL n l with
  | nil => rw [hk] at h; simp at h
  | cons a r => exact ⟨a, r, rfl⟩
section
set_option maxRecDepth 20000
set_option maxHeartbeats 3200000
theorem implSynthesizeThird_any (v : Value) (n : Int) (l : List (Int × Int)) (_w0 : (Lit.int .i64 n).wf = true) (bd : ∀ d ∈ l, (Lit.int .i64 d.1).wf = true ∧ (Lit.int .i64 d.2).wf = true) (w : World) (hr : ReadD w v l) (hl : l.length ≤ 1048576) :
    Calls Try.prog 33 #[.int .i64 n, v] w (RetI (syL n l) w) := by
  cases ha : arD n l with
  | false =>
    have HE : Hid (syL n l = []) := Lib.hid (by unfold syL; rw [ha]; rfl)
    rw [HE.out]
    have HM := Lib.hid (meaning_no v n l _w0 bd ha w hr hl)
    obtain ⟨a, cap, rfl, -⟩ := hr
    clear ha bd
    go_enter Try.func33, Try.ntmps33
    go_wp2_with fail
    refine HM.out.mono ?_
    rintro e w2 ⟨rfl, b2⟩
    have HB2 := Lib.hid (b2.alloc b2.size (.cells #[.nilFunc, .nilFunc, .nilFunc] 67))
    clear b2
    go_wp2_with fail
    go_ret
    exact ⟨_, rfl, OwnI.none _ _, HB2.out⟩
  | true =>
    obtain ⟨i0, hi, hz0, hz1, hz2⟩ := info_parts info3i
    have HI : Hid (_ ∧ _ ∧ _ ∧ _) := Lib.hid ⟨hi, hz0, hz1, hz2⟩
    clear hi hz0 hz1 hz2
    obtain ⟨C, rfl, ok⟩ := MnOk.of ha _w0 bd hl
    have h32 := two5 ok.h5
    have hp := Nat.pow_pos (n := C) (show 0 < 2 by decide)
    have HM := Lib.hid (meaning_yes C v l ok w hr)
    have HFC := Lib.hid (fun w' => full_any11 C ok.h5 w')
    have HCO := Lib.hid (fun w' (hb : Below w.heap.size w w') => implCoverOf_any v (C : Int) l _w0 bd w' (hr.kept hb) hl)
    obtain ⟨-, hcd, -, -⟩ := cov_facts ha
    have hcl := coL11_len (C : Int) l
    obtain ⟨-, -, -, -, hl20, -⟩ := arD_n ha
    have HGR := Lib.hid (fun v' w' (h : ReadD w' v' (coL11 (C : Int) l)) => groups_any C ok.h5 v' (coL11 (C : Int) l) hcd w' h (by omega))
    have hsm := sy_members ha
    have hsl : (syP (coL11 (C : Int) l)).length ≤ 20 := by unfold syP; rw [List.length_map]; omega
    have HCF := Lib.hid (fun p b v' w' (he : MnE w' b C v l) (hs : SBk w' p (2 ^ C - 1) b) (h : ReadI w' v' (syP (coL11 (C : Int) l))) => containsSy_any v' (.pointer (some ⟨p, 0, none⟩)) (syB C l) (syP (coL11 (C : Int) l)) w' h (by omega)
      (fun x hx w'' hb' => by
        obtain ⟨S, rfl, hS, hSC⟩ := hsm x hx
        exact syFun_any b C v l ok (2 ^ C - 1) S (by omega) hS p w'' (he.kept hb') (hs.kept hb')))
    have HKY := Lib.hid (fun b w' (he : MnE w' b C v l) => mnKey_any b C v l ok (2 ^ C - 1) (by omega) w' he)
    rw [kwL_full ok.h5 ha ok.dn] at HKY
    obtain ⟨hqb, hql⟩ := syQ_bd ha
    have HMX := Lib.hid (fun v' w' (h : ReadI w' v' (syQ (C : Int) C l)) => implMaximalM_any v' _ w' h (by omega) (i64_of hqb))
    rw [sy_max ha] at HMX
    have HQ : Hid (syQ (C : Int) C l = if (syP (coL11 (C : Int) l)).any (syB C l) = true then syP (coL11 (C : Int) l) else syP (coL11 (C : Int) l) ++ [(koL (C : Int) l).getD 0 0]) := Lib.hid rfl
    have hkp := koL_pos ha
    have hkl := koL_len (C : Int) l
    obtain ⟨KL, hk⟩ : ∃ q, q = koL (C : Int) l := ⟨_, rfl⟩
    rw [← hk] at HKY HQ hkp hkl
    obtain ⟨q, hq⟩ : ∃ q, q = (syP (coL11 (C : Int) l)).any (syB C l) := ⟨_, rfl⟩
    rw [← hq] at HCF HQ
    obtain ⟨PS, hPS⟩ : ∃ q, q = syP (coL11 (C : Int) l) := ⟨_, rfl⟩
    rw [← hPS] at HCF HQ hsl HGR
    obtain ⟨QS, hQS⟩ : ∃ q, q = syQ (C : Int) C l := ⟨_, rfl⟩
    rw [← hQS] at HMX HQ
    obtain ⟨CS, hCS⟩ : ∃ q, q = coL11 (C : Int) l := ⟨_, rfl⟩
    rw [← hCS] at HCO HGR
    obtain ⟨F, hF⟩ : ∃ F, F = 2 ^ C - 1 := ⟨_, rfl⟩
    rw [← hF] at HFC HCF HKY
    obtain ⟨a, cap, rfl, -⟩ := hr
    clear ha bd ok h32 hp hF hq hPS hQS hCS hqb hql hcd hcl hsm hk
    go_enter Try.func33, Try.ntmps33
    go_wp2_with fail
    refine HM.out.mono ?_
    rintro e w2 ⟨b, rfl, he, b2, -⟩
    have hb3 := (Below.refl w2.heap.size w2).alloc (Nat.le_refl _) (.cells #[.func (.func 99) #[] #[.pointer (some ⟨b + 1, 0, none⟩)], .func (.func 100) #[] #[.pointer (some ⟨b, 0, none⟩), .pointer (some ⟨b + 1, 0, none⟩)], .func (.func 102) #[] #[.pointer (some ⟨b, 0, none⟩), .pointer (some ⟨b + 1, 0, none⟩)]] 67)
    have HB2 := Lib.hid (b2.alloc b2.size (.cells #[.func (.func 99) #[] #[.pointer (some ⟨b + 1, 0, none⟩)], .func (.func 100) #[] #[.pointer (some ⟨b, 0, none⟩), .pointer (some ⟨b + 1, 0, none⟩)], .func (.func 102) #[] #[.pointer (some ⟨b, 0, none⟩), .pointer (some ⟨b + 1, 0, none⟩)]] 67))
    have HEN := Lib.hid (he.kept hb3)
    obtain ⟨m0, m1, m2⟩ := three_at w2 67 (.func (.func 99) #[] #[.pointer (some ⟨b + 1, 0, none⟩)]) (.func (.func 100) #[] #[.pointer (some ⟨b, 0, none⟩), .pointer (some ⟨b + 1, 0, none⟩)]) (.func (.func 102) #[] #[.pointer (some ⟨b, 0, none⟩), .pointer (some ⟨b + 1, 0, none⟩)])
    clear b2 hb3 he
    go_upto_region 11 with fail
    obtain ⟨W2, hW⟩ : ∃ W2, W2 = (w2.alloc (.cells #[.func (.func 99) #[] #[.pointer (some ⟨b + 1, 0, none⟩)], .func (.func 100) #[] #[.pointer (some ⟨b, 0, none⟩), .pointer (some ⟨b + 1, 0, none⟩)], .func (.func 102) #[] #[.pointer (some ⟨b, 0, none⟩), .pointer (some ⟨b + 1, 0, none⟩)]] 67)) := ⟨_, rfl⟩
    have HW2 : Hid ((w2.alloc (.cells #[.func (.func 99) #[] #[.pointer (some ⟨b + 1, 0, none⟩)], .func (.func 100) #[] #[.pointer (some ⟨b, 0, none⟩), .pointer (some ⟨b + 1, 0, none⟩)], .func (.func 102) #[] #[.pointer (some ⟨b, 0, none⟩), .pointer (some ⟨b + 1, 0, none⟩)]] 67)).heap.size = w2.heap.size + 1) := Lib.hid (by simp)
    rw [← hW] at m0 m1 m2 HB2 HEN HW2 ⊢
    clear hW
    go_cut [7] (fun s7 wx => ∃ p, s7 = .pointer (some ⟨p, 0, none⟩) ∧ Hid (SBk wx p F b) ∧ Hid (Below W2.heap.size W2 wx))
    case first =>
      refine wp_region_noPanic ?_
      refine wp_region_held_drew (S := (fun w' => (w'.cell? ⟨w2.heap.size, 0, none⟩ = some (.func (.func 99) #[] #[.pointer (some ⟨b + 1, 0, none⟩)]) ∧ w'.cell? ⟨w2.heap.size, 1, none⟩ = some (.func (.func 100) #[] #[.pointer (some ⟨b, 0, none⟩), .pointer (some ⟨b + 1, 0, none⟩)]) ∧ w'.cell? ⟨w2.heap.size, 2, none⟩ = some (.func (.func 102) #[] #[.pointer (some ⟨b, 0, none⟩), .pointer (some ⟨b + 1, 0, none⟩)])) ∧ Below W2.heap.size W2 w')) (by kernel_rfl) ?_ (fun hHeld => ?_)
      · ((try dsimp only); exact ⟨⟨m0, m1, m2⟩, (Below.refl _ _).drew⟩)
      refine wpAnyH_take (i := 0) (v := ?_) rfl (by kernel_rfl) (by kernel_rfl) (by kernel_rfl) (fun _ _ _ h => h) (Or.inl ⟨by rfl, ?_⟩) (by assumption) ?_
      rotate_left
      · (intro w hSw; (try dsimp only at hSw); go_simp; (try with_reducible rfl))
      (try simp only [Act.put, List.getElem_toArray, List.getElem_cons_zero, List.setIfInBounds_toArray, List.set_cons_zero, List.set_cons_succ])
      refine wpAnyH_take (i := 2) (v := ?_) rfl (by kernel_rfl) (by kernel_rfl) (by kernel_rfl) (fun _ _ _ h => h) (Or.inl ⟨by rfl, ?_⟩) (by assumption) ?_
      rotate_left
      · (intro w hSw; (try dsimp only at hSw); go_simp; (try with_reducible rfl))
      (try simp only [Act.put, List.getElem_toArray, List.getElem_cons_succ, List.getElem_cons_zero, List.setIfInBounds_toArray, List.set_cons_zero, List.set_cons_succ])
      refine wpAnyH_ready (rs := [1, 4]) (by kernel_rfl) (by simp) (AllReadyH.cons rfl (fun K hK => ?_) (AllReadyH.cons rfl (fun K hK => ?_) AllReadyH.nil))
      · (first | (go_at_call 43; refine (HFC.out _).mono ?_; rintro e w91 ⟨rfl, b91⟩) | (go_simp; go_at_call 43; refine (HFC.out _).mono ?_; rintro e w91 ⟨rfl, b91⟩))
        (try (go_wp2_with fail))
        refine hK.out _ _ ?_ (fun hHeld => ?_)
        · ((try dsimp only); exact ⟨⟨keep_in hHeld.1.1 b91, keep_in hHeld.1.2.1 b91, keep_in hHeld.1.2.2 b91⟩, hHeld.2.trans (b91.mono hHeld.2.size)⟩)
        clear hK K
        (try simp only [Act.put, List.getElem_toArray, List.getElem_cons_succ, List.getElem_cons_zero, List.setIfInBounds_toArray, List.set_cons_zero, List.set_cons_succ])
        refine wpAnyH_take (i := 3) (v := ?_) rfl (by kernel_rfl) (by kernel_rfl) (by kernel_rfl) (fun _ _ _ h => h) (Or.inl ⟨by rfl, ?_⟩) (by assumption) ?_
        rotate_left
        · (intro w hSw; (try dsimp only at hSw); go_simp; (try with_reducible rfl))
        (try simp only [Act.put, List.getElem_toArray, List.getElem_cons_succ, List.getElem_cons_zero, List.setIfInBounds_toArray, List.set_cons_zero, List.set_cons_succ])
        refine wpAnyH_ready (rs := [4]) (by kernel_rfl) (by simp) (AllReadyH.cons rfl (fun K hK => ?_) AllReadyH.nil)
        go_simp
        refine hK.out _ _ ?_ (fun hHeld => ?_)
        · ((try dsimp only); exact ⟨⟨keep_in hHeld.1.1 ((Below.refl _ _).alloc (Nat.le_refl _) _), keep_in hHeld.1.2.1 ((Below.refl _ _).alloc (Nat.le_refl _) _), keep_in hHeld.1.2.2 ((Below.refl _ _).alloc (Nat.le_refl _) _)⟩, hHeld.2.trans (((Below.refl _ _).alloc (Nat.le_refl _) _).mono hHeld.2.size)⟩)
        clear hK K
        (try simp only [Act.put, List.getElem_toArray, List.getElem_cons_succ, List.getElem_cons_zero, List.setIfInBounds_toArray, List.set_cons_zero, List.set_cons_succ])
        obtain ⟨w94, hw94⟩ : ∃ w', w' = w91.alloc (.cells #[.int .i64 0, .nilFunc, .nilFunc, .nilFunc] 69) := ⟨_, rfl⟩
        have hx := BV.new w91 69 #[.int .i64 0, .nilFunc, .nilFunc, .nilFunc]
        rw [← hw94] at hx hHeld ⊢
        clear hw94
        have HX := Lib.hid hx
        have HGE : Hid (W2.heap.size ≤ w91.heap.size) := Lib.hid (show W2.heap.size ≤ _ from b91.size)
        have HNE : Hid (w91.heap.size ≠ w2.heap.size) := Lib.hid (by have := HGE.out; have := HW2.out; omega)
        clear hx
        have e0 := HX.out.fro 0
        have e1 := HX.out.fro 1
        have e2 := HX.out.fro 2
        have e3 := HX.out.fro 3
        have f0 : w94.cell? ⟨w91.heap.size, 0, none⟩ = some (.int .i64 0) := HX.out.cell 0 rfl
        have f1 : w94.cell? ⟨w91.heap.size, 1, none⟩ = some .nilFunc := HX.out.cell 1 rfl
        have f2 : w94.cell? ⟨w91.heap.size, 2, none⟩ = some .nilFunc := HX.out.cell 2 rfl
        have f3 : w94.cell? ⟨w91.heap.size, 3, none⟩ = some .nilFunc := HX.out.cell 3 rfl
        have hz := (((HX.out.set 0 (.int .i64 (F : Int))).set 1 (.func (.func 99) #[] #[.pointer (some ⟨b + 1, 0, none⟩)])).set 2 (.func (.func 100) #[] #[.pointer (some ⟨b, 0, none⟩), .pointer (some ⟨b + 1, 0, none⟩)])).set 3 (.func (.func 102) #[] #[.pointer (some ⟨b, 0, none⟩), .pointer (some ⟨b + 1, 0, none⟩)])
        have HSF : Hid (SBk _ w91.heap.size F b) := Lib.hid ⟨hz.cell 0 rfl, hz.cell 1 rfl, hz.cell 2 rfl, hz.cell 3 rfl⟩
        have HS5 := Lib.hid hHeld
        clear hz
        refine wpAnyH_ready (rs := [5]) (by kernel_rfl) (by simp) (AllReadyH.cons rfl (fun K hK => ?_) AllReadyH.nil)
        go_simp
        refine hK.out _ _ ?_ (fun hHeld => ?_)
        · ((try dsimp only); exact ⟨⟨(far4 _ w91.heap.size _ _ _ _ _ HNE.out).trans HS5.out.1.1, (far4 _ w91.heap.size _ _ _ _ _ HNE.out).trans HS5.out.1.2.1, (far4 _ w91.heap.size _ _ _ _ _ HNE.out).trans HS5.out.1.2.2⟩, bel4s HS5.out.2 HGE.out _ _ _ _⟩)
        clear hK K
        (try simp only [Act.put, List.getElem_toArray, List.getElem_cons_succ, List.getElem_cons_zero, List.setIfInBounds_toArray, List.set_cons_zero, List.set_cons_succ])
        refine wpAnyH_done (by kernel_rfl) ?_ _
        refine NoPanic.normal ?_
        have HH := Lib.hid hHeld.2
        clear hHeld e0 e1 e2 e3 f0 f1 f2 f3
        go_wp2_with fail
        go_meet
        exact ⟨w91.heap.size, rfl, HSF, HH⟩
      · go_simp
        refine hK.out _ _ ?_ (fun hHeld => ?_)
        · ((try dsimp only); exact ⟨⟨keep_in hHeld.1.1 ((Below.refl _ _).alloc (Nat.le_refl _) _), keep_in hHeld.1.2.1 ((Below.refl _ _).alloc (Nat.le_refl _) _), keep_in hHeld.1.2.2 ((Below.refl _ _).alloc (Nat.le_refl _) _)⟩, hHeld.2.trans (((Below.refl _ _).alloc (Nat.le_refl _) _).mono hHeld.2.size)⟩)
        clear hK K
        (try simp only [Act.put, List.getElem_toArray, List.getElem_cons_succ, List.getElem_cons_zero, List.setIfInBounds_toArray, List.set_cons_zero, List.set_cons_succ])
        have HX0 := Lib.hid (BV.new W2.drew 69 #[.int .i64 0, .nilFunc, .nilFunc, .nilFunc])
        refine wpAnyH_ready (rs := [1]) (by kernel_rfl) (by simp) (AllReadyH.cons rfl (fun K hK => ?_) AllReadyH.nil)
        (first | (go_at_call 43; refine (HFC.out _).mono ?_; rintro e w91 ⟨rfl, b91⟩) | (go_simp; go_at_call 43; refine (HFC.out _).mono ?_; rintro e w91 ⟨rfl, b91⟩))
        (try (go_wp2_with fail))
        refine hK.out _ _ ?_ (fun hHeld => ?_)
        · ((try dsimp only); exact ⟨⟨keep_in hHeld.1.1 b91, keep_in hHeld.1.2.1 b91, keep_in hHeld.1.2.2 b91⟩, hHeld.2.trans (b91.mono hHeld.2.size)⟩)
        clear hK K
        (try simp only [Act.put, List.getElem_toArray, List.getElem_cons_succ, List.getElem_cons_zero, List.setIfInBounds_toArray, List.set_cons_zero, List.set_cons_succ])
        refine wpAnyH_take (i := 3) (v := ?_) rfl (by kernel_rfl) (by kernel_rfl) (by kernel_rfl) (fun _ _ _ h => h) (Or.inl ⟨by rfl, ?_⟩) (by assumption) ?_
        rotate_left
        · (intro w hSw; (try dsimp only at hSw); go_simp; (try with_reducible rfl))
        (try simp only [Act.put, List.getElem_toArray, List.getElem_cons_succ, List.getElem_cons_zero, List.setIfInBounds_toArray, List.set_cons_zero, List.set_cons_succ])
        have HX1 : Hid (BV _ W2.heap.size 69 #[.int .i64 0, .nilFunc, .nilFunc, .nilFunc]) := Lib.hid HX0.out
        have HGE : Hid (W2.heap.size ≤ W2.heap.size) := Lib.hid (Nat.le_refl _)
        have HNE : Hid (W2.heap.size ≠ w2.heap.size) := Lib.hid (by have := HW2.out; omega)
        have HX := Lib.hid (HX1.out.keep b91)
        have e0 := HX.out.fro 0
        have e1 := HX.out.fro 1
        have e2 := HX.out.fro 2
        have e3 := HX.out.fro 3
        have f0 : w91.cell? ⟨W2.heap.size, 0, none⟩ = some (.int .i64 0) := HX.out.cell 0 rfl
        have f1 : w91.cell? ⟨W2.heap.size, 1, none⟩ = some .nilFunc := HX.out.cell 1 rfl
        have f2 : w91.cell? ⟨W2.heap.size, 2, none⟩ = some .nilFunc := HX.out.cell 2 rfl
        have f3 : w91.cell? ⟨W2.heap.size, 3, none⟩ = some .nilFunc := HX.out.cell 3 rfl
        have hz := (((HX.out.set 0 (.int .i64 (F : Int))).set 1 (.func (.func 99) #[] #[.pointer (some ⟨b + 1, 0, none⟩)])).set 2 (.func (.func 100) #[] #[.pointer (some ⟨b, 0, none⟩), .pointer (some ⟨b + 1, 0, none⟩)])).set 3 (.func (.func 102) #[] #[.pointer (some ⟨b, 0, none⟩), .pointer (some ⟨b + 1, 0, none⟩)])
        have HSF : Hid (SBk _ W2.heap.size F b) := Lib.hid ⟨hz.cell 0 rfl, hz.cell 1 rfl, hz.cell 2 rfl, hz.cell 3 rfl⟩
        have HS5 := Lib.hid hHeld
        clear hz
        refine wpAnyH_ready (rs := [5]) (by kernel_rfl) (by simp) (AllReadyH.cons rfl (fun K hK => ?_) AllReadyH.nil)
        go_simp
        refine hK.out _ _ ?_ (fun hHeld => ?_)
        · ((try dsimp only); exact ⟨⟨(far4 _ W2.heap.size _ _ _ _ _ HNE.out).trans HS5.out.1.1, (far4 _ W2.heap.size _ _ _ _ _ HNE.out).trans HS5.out.1.2.1, (far4 _ W2.heap.size _ _ _ _ _ HNE.out).trans HS5.out.1.2.2⟩, bel4s HS5.out.2 HGE.out _ _ _ _⟩)
        clear hK K
        (try simp only [Act.put, List.getElem_toArray, List.getElem_cons_succ, List.getElem_cons_zero, List.setIfInBounds_toArray, List.set_cons_zero, List.set_cons_succ])
        refine wpAnyH_done (by kernel_rfl) ?_ _
        refine NoPanic.normal ?_
        have HH := Lib.hid hHeld.2
        clear hHeld e0 e1 e2 e3 f0 f1 f2 f3
        go_wp2_with fail
        go_meet
        exact ⟨W2.heap.size, rfl, HSF, HH⟩
    case rest =>
      obtain ⟨p, rfl, HS, HB⟩ := hcut
      obtain ⟨w4, hw4⟩ : ∃ w', w' = wc := ⟨_, rfl⟩
      rw [← hw4] at HS HB ⊢
      clear hw4 m0 m1 m2 HFC
      have HB4 := Lib.hid (HB2.out.trans (HB.out.mono HB2.out.size))
      have HE4 := Lib.hid (HEN.out.kept HB.out)
      clear HB HB2 HEN
      go_wp2_with fail
      refine (HCO.out _ HB4.out).mono ?_
      rintro e w5 ⟨v5, rfl, o5, b5⟩
      have HB5 := Lib.hid (HB4.out.trans (b5.mono HB4.out.size))
      have HE5 := Lib.hid (HE4.out.kept b5)
      have HS5 := Lib.hid (HS.out.kept b5)
      have HG5 := Lib.hid (HGR.out v5 w5 o5.read)
      clear b5 o5 HE4 HS HB4
      go_wp2_with fail
      refine HG5.out.mono ?_
      rintro e w6 ⟨v6, rfl, o6, b6⟩
      have HB6 := Lib.hid (HB5.out.trans (b6.mono HB5.out.size))
      have HE6 := Lib.hid (HE5.out.kept b6)
      have HS6 := Lib.hid (HS5.out.kept b6)
      have HO6 := Lib.hid (o6.base HB5.out.size)
      have HC6 := Lib.hid (HCF.out p b v6 w6 HE6.out HS6.out o6.read)
      clear b6 o6 HE5 HS5 HB5 HG5
      cases q with
      | true =>
        rw [if_pos rfl] at HQ
        go_wp2_with fail
        refine HC6.out.mono ?_
        rintro e w7 ⟨rfl, b7⟩
        have HB7 := Lib.hid (HB6.out.trans (b7.mono HB6.out.size))
        have HO7 := Lib.hid (HO6.out.kept b7 (fun k hk => (HO6.out.lt k hk).2))
        have HM7 := Lib.hid (HMX.out v6 w7 (by rw [HQ.out]; exact HO7.out.read))
        clear b7
        go_wp2_with fail
        refine HM7.out.mono ?_
        rintro e w8 ⟨v8, rfl, o8, b8⟩
        have HB8 := Lib.hid (HB7.out.trans (b8.mono HB7.out.size))
        have HO8 := Lib.hid (o8.base HB7.out.size)
        clear b8 o8
        go_wp2_with fail
        go_ret
        exact ⟨_, rfl, HO8.out, HB8.out⟩
      | false =>
        rw [if_neg (by decide)] at HQ
        go_wp2_with fail
        refine HC6.out.mono ?_
        rintro e w7 ⟨rfl, b7⟩
        have HB7 := Lib.hid (HB6.out.trans (b7.mono HB6.out.size))
        have HO7 := Lib.hid (HO6.out.kept b7 (fun k hk => (HO6.out.lt k hk).2))
        have HS7 := Lib.hid (HS6.out.kept b7)
        have HE7 := Lib.hid (HE6.out.kept b7)
        have HK7 := Lib.hid (HKY.out b w7 HE7.out)
        have c0 := HS7.out.c0
        have c3 := HS7.out.c3
        clear b7
        go_wp2_with fail
        refine HK7.out.mono ?_
        rintro e w8 ⟨v8, rfl, o8, b8⟩
        have HB8 := Lib.hid (HB7.out.trans (b8.mono HB7.out.size))
        have HO8 := Lib.hid (HO7.out.kept b8 (fun k hk => (HO7.out.lt k hk).2))
        obtain ⟨a8, k8, hv8⟩ := ownI_shape o8
        subst hv8
        obtain ⟨x8, hxa, hx8⟩ := readI_at13 o8.read hkp
        subst hxa
        rw [show x8.add 0 = x8 from by simp [Addr.add]] at hx8
        have z0 : (0 : Int) < (KL.length : Int) := by omega
        obtain ⟨K0, hK0⟩ : ∃ x, x = KL.getD 0 0 := ⟨_, rfl⟩
        rw [← hK0] at hx8 HQ
        clear b8 o8 c0 c3 hK0
        go_wp2_with (at_builtin; refine wpList_append_own _ rfl _ _ 24 rfl w.heap.size 3 i0 (.int .i64 0) 1 8 Try.underlying24 HI.out.1 HI.out.2.1 HI.out.2.2.1 HI.out.2.2.2 rfl (by decide) _ _ _ rfl (World.ownsRow.alloc HO8.out _) ⟨w8.heap.size, 0, none⟩ 1 1 [.int .i64 K0] rfl rfl (cell_one_new _ _ _) (one_i64 _) (by unfold maxLen; omega) (by omega) (le_alloc HB8.out (Nat.le_refl _) _) ?_; intro v9 w9 hown9 hgrow9 _; have HO9 := Lib.hid (OwnI.snoc hown9); have HB9 := Lib.hid ((HB8.out.alloc HB8.out.size (.cells #[.int .i64 K0] 3)).grown hgrow9 (by simp; have := HB8.out.size; omega) (fun k hk => (OwnI.lt HO8.out k hk).1)); have HM9 := Lib.hid (HMX.out v9 w9 (by rw [HQ.out]; exact HO9.out.read)); clear hown9 hgrow9)
        refine HM9.out.mono ?_
        rintro e w10 ⟨v10, rfl, o10, b10⟩
        have HB10 := Lib.hid (HB9.out.trans (b10.mono HB9.out.size))
        have HO10 := Lib.hid (o10.base HB9.out.size)
        clear b10 o10
        go_wp2_with fail
        go_ret
        exact ⟨_, rfl, HO10.out, HB10.out⟩
end
end Go.Proofs.Ytcgkfbjdlhapkaa
