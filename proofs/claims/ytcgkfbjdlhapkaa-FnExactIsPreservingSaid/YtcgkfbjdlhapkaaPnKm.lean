/- The program's chapter 13: IsPreserving as a whole, by contract. Conditions: as stated. -/
import Derived.Test.YtcgkfbjdlhapkaaPnIm
import Derived.Test.YtcgkfbjdlhapkaaPnGm
namespace Go.Proofs.Ytcgkfbjdlhapkaa
open Go.RowKit

section
set_option maxRecDepth 20000
set_option maxHeartbeats 3200000
theorem psFun_any (C : Nat) (hC : C ≤ 5) (vq : Value) (AL : List (Int × Int)) (hAL : DepsN C AL) (hlen : AL.length ≤ 1048576) (L R : Nat) (hL : L < 32) (hR : R < 5) (p : Nat) (w : World) (hr : ReadD w vq AL) (hp : w.cell? ⟨p, 0, none⟩ = some vq) :
    Calls Try.prog 75 #[.agg #[.int .i64 (L : Int), .int .i64 (R : Int)], .pointer (some ⟨p, 0, none⟩)] w fun e w' => e = .returned (.bool (!bitB (clo AL L) R)) ∧ Below w.heap.size w w' := by
  have hb1 := (Below.refl w.heap.size w).alloc (Nat.le_refl _) (.cells #[.int .i64 (L : Int), .int .i64 (R : Int)] 44)
  have HB1 := Lib.hid hb1
  have HX1 := Lib.hid (bx_new w L R)
  have p0 := keep_in hp hb1
  have HS := Lib.hid (fun w' (hb : Below w.heap.size w w') => settled10_any C hC vq AL hAL L hL w' (hr.kept hb) hlen)
  have hc32 := (clo_spec hC hAL hL).1
  have HH := Lib.hid (fun w' => (has_any (clo AL L) R (by omega) w').mono (fun e w'' h => show e = .returned (.bool (bitB (clo AL L) R)) ∧ Below w'.heap.size w' w'' from ⟨h.1, h.2 ▸ Below.refl _ _⟩))
  obtain ⟨Z, hZ⟩ : ∃ Z, Z = clo AL L := ⟨_, rfl⟩
  rw [← hZ] at HS HH ⊢
  obtain ⟨q, hq⟩ : ∃ q, q = bitB Z R := ⟨_, rfl⟩
  rw [← hq] at HH ⊢
  have c0 := HX1.out.c0
  have c1 := HX1.out.c1
  obtain ⟨aq, kq, rfl, -⟩ := hr
  clear hb1 hp hZ hc32 hq HX1
  go_enter Try.func75, Try.ntmps75
  go_upto_region 1 with fail
  obtain ⟨W1, hW⟩ : ∃ W1, W1 = (w.alloc (.cells #[.int .i64 (L : Int), .int .i64 (R : Int)] 44)) := ⟨_, rfl⟩
  rw [← hW] at c0 c1 p0 HB1 ⊢
  clear hW
  refine wp_region_noPanic ?_
  refine wp_region_held_drew (S := (fun w' => (w'.cell? ⟨w.heap.size, 0, none⟩ = some (.int .i64 (L : Int)) ∧ w'.cell? ⟨w.heap.size, 1, none⟩ = some (.int .i64 (R : Int)) ∧ w'.cell? ⟨p, 0, none⟩ = some (.slice aq AL.length kq)) ∧ Below W1.heap.size W1 w')) (by kernel_rfl) ?_ (fun hHeld => ?_)
  · ((try dsimp only); exact ⟨⟨c0, c1, p0⟩, (Below.refl _ _).drew⟩)
  refine wpAnyH_take (i := 0) (v := ?_) rfl (by kernel_rfl) (by kernel_rfl) (by kernel_rfl) (fun _ _ _ h => h) (Or.inl ⟨by rfl, ?_⟩) (by assumption) ?_
  rotate_left
  · (intro w hSw; (try dsimp only at hSw); go_simp; (try with_reducible rfl))
  (try simp only [Act.put, List.getElem_toArray, List.getElem_cons_zero, List.setIfInBounds_toArray, List.set_cons_zero, List.set_cons_succ])
  refine wpAnyH_take (i := 1) (v := ?_) rfl (by kernel_rfl) (by kernel_rfl) (by kernel_rfl) (fun _ _ _ h => h) (Or.inl ⟨by rfl, ?_⟩) (by assumption) ?_
  rotate_left
  · (intro w hSw; (try dsimp only at hSw); go_simp; (try with_reducible rfl))
  (try simp only [Act.put, List.getElem_toArray, List.getElem_cons_succ, List.getElem_cons_zero, List.setIfInBounds_toArray, List.set_cons_zero, List.set_cons_succ])
  refine wpAnyH_take (i := 2) (v := ?_) rfl (by kernel_rfl) (by kernel_rfl) (by kernel_rfl) (fun _ _ _ h => h) (Or.inl ⟨by rfl, ?_⟩) (by assumption) ?_
  rotate_left
  · (intro w hSw; (try dsimp only at hSw); go_simp; (try with_reducible rfl))
  (try simp only [Act.put, List.getElem_toArray, List.getElem_cons_succ, List.getElem_cons_zero, List.setIfInBounds_toArray, List.set_cons_zero, List.set_cons_succ])
  refine wpAnyH_take (i := 3) (v := ?_) rfl (by kernel_rfl) (by kernel_rfl) (by kernel_rfl) (fun _ _ _ h => h) (Or.inl ⟨by rfl, ?_⟩) (by assumption) ?_
  rotate_left
  · (intro w hSw; (try dsimp only at hSw); go_simp; (try with_reducible rfl))
  (try simp only [Act.put, List.getElem_toArray, List.getElem_cons_succ, List.getElem_cons_zero, List.setIfInBounds_toArray, List.set_cons_zero, List.set_cons_succ])
  refine wpAnyH_take (i := 5) (v := ?_) rfl (by kernel_rfl) (by kernel_rfl) (by kernel_rfl) (fun _ _ _ h => h) (Or.inl ⟨by rfl, ?_⟩) (by assumption) ?_
  rotate_left
  · (intro w hSw; (try dsimp only at hSw); go_simp; (try with_reducible rfl))
  (try simp only [Act.put, List.getElem_toArray, List.getElem_cons_succ, List.getElem_cons_zero, List.setIfInBounds_toArray, List.set_cons_zero, List.set_cons_succ])
  refine wpAnyH_take (i := 6) (v := ?_) rfl (by kernel_rfl) (by kernel_rfl) (by kernel_rfl) (fun _ _ _ h => h) (Or.inl ⟨by rfl, ?_⟩) (by assumption) ?_
  rotate_left
  · (intro w hSw; (try dsimp only at hSw); go_simp; (try with_reducible rfl))
  (try simp only [Act.put, List.getElem_toArray, List.getElem_cons_succ, List.getElem_cons_zero, List.setIfInBounds_toArray, List.set_cons_zero, List.set_cons_succ])
  refine wpAnyH_ready (rs := [4]) (by kernel_rfl) (by simp) (AllReadyH.cons rfl (fun K hK => ?_) AllReadyH.nil)
  (first | (go_at_call 76; refine (HS.out _ (HB1.out.trans (hHeld.2.mono HB1.out.size))).mono ?_; rintro e w91 ⟨rfl, b91⟩) | (go_simp; go_at_call 76; refine (HS.out _ (HB1.out.trans (hHeld.2.mono HB1.out.size))).mono ?_; rintro e w91 ⟨rfl, b91⟩))
  (try (go_wp2_with fail))
  refine hK.out _ _ ?_ (fun hHeld => ?_)
  · ((try dsimp only); exact ⟨⟨keep_in hHeld.1.1 b91, keep_in hHeld.1.2.1 b91, keep_in hHeld.1.2.2 b91⟩, hHeld.2.trans (b91.mono hHeld.2.size)⟩)
  clear hK K
  (try simp only [Act.put, List.getElem_toArray, List.getElem_cons_succ, List.getElem_cons_zero, List.setIfInBounds_toArray, List.set_cons_zero, List.set_cons_succ])
  refine wpAnyH_ready (rs := [7]) (by kernel_rfl) (by simp) (AllReadyH.cons rfl (fun K hK => ?_) AllReadyH.nil)
  (first | (go_at_call 78; refine (HH.out _).mono ?_; rintro e w92 ⟨rfl, b92⟩) | (go_simp; go_at_call 78; refine (HH.out _).mono ?_; rintro e w92 ⟨rfl, b92⟩))
  (try (go_wp2_with fail))
  refine hK.out _ _ ?_ (fun hHeld => ?_)
  · ((try dsimp only); exact ⟨⟨keep_in hHeld.1.1 b92, keep_in hHeld.1.2.1 b92, keep_in hHeld.1.2.2 b92⟩, hHeld.2.trans (b92.mono hHeld.2.size)⟩)
  clear hK K
  (try simp only [Act.put, List.getElem_toArray, List.getElem_cons_succ, List.getElem_cons_zero, List.setIfInBounds_toArray, List.set_cons_zero, List.set_cons_succ])
  refine wpAnyH_take (i := 8) (v := ?_) rfl (by kernel_rfl) (by kernel_rfl) (by kernel_rfl) (fun _ _ _ h => h) (Or.inl ⟨by rfl, ?_⟩) (by assumption) ?_
  rotate_left
  · (intro w hSw; (try dsimp only at hSw); go_simp; (try with_reducible rfl))
  (try simp only [Act.put, List.getElem_toArray, List.getElem_cons_succ, List.getElem_cons_zero, List.setIfInBounds_toArray, List.set_cons_zero, List.set_cons_succ])
  refine wpAnyH_take (i := 9) (v := ?_) rfl (by kernel_rfl) (by kernel_rfl) (by kernel_rfl) (fun _ _ _ h => h) (Or.inl ⟨by rfl, ?_⟩) (by assumption) ?_
  rotate_left
  · (intro w hSw; (try dsimp only at hSw); go_simp; (try with_reducible rfl))
  (try simp only [Act.put, List.getElem_toArray, List.getElem_cons_succ, List.getElem_cons_zero, List.setIfInBounds_toArray, List.set_cons_zero, List.set_cons_succ])
  refine wpAnyH_done (by kernel_rfl) ?_ _
  refine NoPanic.normal ?_
  have HB3 := Lib.hid (HB1.out.trans (hHeld.2.mono HB1.out.size))
  clear hHeld c0 c1 p0
  go_wp2_with fail
  go_ret
  exact ⟨rfl, HB3.out⟩
theorem implIsPreserving_any (v vp : Value) (n : Int) (l : List (Int × Int)) (p : List Int) (_w0 : (Lit.int .i64 n).wf = true) (bdl : ∀ d ∈ l, (Lit.int .i64 d.1).wf = true ∧ (Lit.int .i64 d.2).wf = true) (hbd : I64s p) (w : World) (hr : ReadD w v l) (hl : l.length ≤ 1048576) (hrp : ReadI w vp p) (hlp : p.length ≤ 1048576) :
    Calls Try.prog 35 #[.int .i64 n, v, vp] w fun e w' => e = .returned (.bool (psB n l p)) ∧ Below w.heap.size w w' := by
  cases ha : arD n l with
  | false =>
    have HE : Hid (psB n l p = false) := Lib.hid (by unfold psB; rw [ha]; rfl)
    rw [HE.out]
    have HM := Lib.hid (meaning_no v n l _w0 bdl ha w hr hl)
    obtain ⟨a, cap, rfl, -⟩ := hr
    obtain ⟨ap, capp, rfl, -⟩ := hrp
    clear ha bdl hbd
    go_enter Try.func35, Try.ntmps35
    go_wp2_with fail
    refine HM.out.mono ?_
    rintro e w2 ⟨rfl, b2⟩
    have HB2 := Lib.hid (b2.alloc b2.size (.cells #[.nilFunc, .nilFunc, .nilFunc] 67))
    clear b2
    go_wp2_with fail
    go_ret
    exact ⟨rfl, HB2.out⟩
  | true =>
    obtain ⟨C, rfl, ok⟩ := MnOk.of ha _w0 bdl hl
    have hC := ok.h5
    have HM := Lib.hid (meaning_yes C v l ok w hr)
    have HAS := Lib.hid (fun w' (hb : Below w.heap.size w w') => areSets_any vp (C : Int) p hbd w' (hrp.kept hb) hlp)
    rw [decide_eq_true (show (0 : Int) ≤ (C : Int) ∧ (C : Int) ≤ 5 by omega), Bool.true_and] at HAS
    cases hps : p.all (isA (C : Int)) with
    | false =>
      rw [hps] at HAS
      have HE : Hid (psB (C : Int) l p = false) := Lib.hid (by unfold psB; rw [hps, Bool.false_and, Bool.and_false])
      rw [HE.out]
      obtain ⟨a, cap, rfl, -⟩ := hr
      obtain ⟨ap, capp, rfl, -⟩ := hrp
      clear ha bdl hbd hps ok
      go_enter Try.func35, Try.ntmps35
      go_wp2_with fail
      refine HM.out.mono ?_
      rintro e w2 ⟨b, rfl, he, b2, -⟩
      have HB2 := Lib.hid (b2.alloc b2.size (.cells #[.func (.func 99) #[] #[.pointer (some ⟨b + 1, 0, none⟩)], .func (.func 100) #[] #[.pointer (some ⟨b, 0, none⟩), .pointer (some ⟨b + 1, 0, none⟩)], .func (.func 102) #[] #[.pointer (some ⟨b, 0, none⟩), .pointer (some ⟨b + 1, 0, none⟩)]] 67))
      clear b2 he
      go_wp2_with fail
      refine (HAS.out _ HB2.out).mono ?_
      rintro e w3 ⟨rfl, b3⟩
      have HB3 := Lib.hid (HB2.out.trans (b3.mono HB2.out.size))
      clear b3
      go_wp2_with fail
      go_ret
      exact ⟨rfl, HB3.out⟩
    | true =>
      rw [hps] at HAS
      have HPO := Lib.hid (fun b w' (hb : Below w.heap.size w w') (he : MnE w' b C v l) => projOn_any b C v l ok vp p hps w' he (hrp.kept hb) hlp)
      have HE := Lib.hid (ps_df hC ha hps)
      rw [HE.out]
      have hDA : DepsN C (alTo (C : Int) l (dfP p) (dfP p).length) := alTo_deps _
      have hal := alTo_len (C : Int) l (dfP p) (dfP p).length
      have hdl := dfP_len p
      obtain ⟨AL, hAL⟩ : ∃ AL, AL = alTo (C : Int) l (dfP p) (dfP p).length := ⟨_, rfl⟩
      rw [← hAL] at HPO hDA hal ⊢
      have hdn := ok.dn
      have hlen := ok.len
      have h32 := two5 hC
      have HCT := Lib.hid (fun pb vq w' (hb : Below w.heap.size w w') (hq : ReadD w' vq AL) (hc : w'.cell? ⟨pb, 0, none⟩ = some vq) => containsPs_any v (.pointer (some ⟨pb, 0, none⟩)) (fun d => !bitB (clo AL d.1.toNat) d.2.toNat) l w' (hr.kept hb) hlen
        (fun x hx w'' hb' => by
          obtain ⟨L, R, rfl, hL, hR⟩ := hdn x hx
          exact psFun_any C hC vq AL hDA (by omega) L R (by omega) (by omega) pb w'' (hq.kept hb') (keep_in hc hb')))
      have HQE : Hid (l.all (fun d => bitB (clo AL d.1.toNat) d.2.toNat) = !l.any (fun d => !bitB (clo AL d.1.toNat) d.2.toNat)) := Lib.hid (by rw [List.all_eq_not_any_not])
      rw [HQE.out]
      obtain ⟨q, hq⟩ : ∃ q, q = l.any (fun d => !bitB (clo AL d.1.toNat) d.2.toNat) := ⟨_, rfl⟩
      rw [← hq] at HCT ⊢
      obtain ⟨a, cap, rfl, -⟩ := hr
      obtain ⟨ap, capp, rfl, -⟩ := hrp
      clear ha bdl hbd hps ok HE HQE hq hDA hdn hal hdl hAL h32 hlen hC
      go_enter Try.func35, Try.ntmps35
      go_wp2_with fail
      refine HM.out.mono ?_
      rintro e w2 ⟨b, rfl, he, b2, -⟩
      have hb3 := (Below.refl w2.heap.size w2).alloc (Nat.le_refl _) (.cells #[.func (.func 99) #[] #[.pointer (some ⟨b + 1, 0, none⟩)], .func (.func 100) #[] #[.pointer (some ⟨b, 0, none⟩), .pointer (some ⟨b + 1, 0, none⟩)], .func (.func 102) #[] #[.pointer (some ⟨b, 0, none⟩), .pointer (some ⟨b + 1, 0, none⟩)]] 67)
      have HB2 := Lib.hid (b2.alloc b2.size (.cells #[.func (.func 99) #[] #[.pointer (some ⟨b + 1, 0, none⟩)], .func (.func 100) #[] #[.pointer (some ⟨b, 0, none⟩), .pointer (some ⟨b + 1, 0, none⟩)], .func (.func 102) #[] #[.pointer (some ⟨b, 0, none⟩), .pointer (some ⟨b + 1, 0, none⟩)]] 67))
      have HEN := Lib.hid (he.kept hb3)
      obtain ⟨m0, m1, m2⟩ := three_at w2 67 (.func (.func 99) #[] #[.pointer (some ⟨b + 1, 0, none⟩)]) (.func (.func 100) #[] #[.pointer (some ⟨b, 0, none⟩), .pointer (some ⟨b + 1, 0, none⟩)]) (.func (.func 102) #[] #[.pointer (some ⟨b, 0, none⟩), .pointer (some ⟨b + 1, 0, none⟩)])
      have HM2 := Lib.hid (And.intro m0 (And.intro m1 m2))
      clear b2 hb3 he
      go_wp2_with fail
      refine (HAS.out _ HB2.out).mono ?_
      rintro e w3 ⟨rfl, b3⟩
      have HB3 := Lib.hid (HB2.out.trans (b3.mono HB2.out.size))
      have HE3 := Lib.hid (HEN.out.kept b3)
      have k0 := keep_in HM2.out.1 b3
      have k1 := keep_in HM2.out.2.1 b3
      have k2 := keep_in HM2.out.2.2 b3
      have HP3 := Lib.hid (HPO.out b w3 HB3.out HE3.out)
      clear b3 m0 m1 m2 HM2
      go_wp2_with fail
      refine HP3.out.mono ?_
      rintro e w4 ⟨v4, rfl, o4, b4⟩
      obtain ⟨a4, k4, hv4⟩ := o4.shape
      subst hv4
      have hb4 := HB3.out.trans (b4.mono HB3.out.size)
      have HB4 := Lib.hid (hb4.alloc hb4.size (.cells #[.slice a4 AL.length k4] 81))
      have hb5 := (Below.refl w4.heap.size w4).alloc (Nat.le_refl _) (.cells #[.slice a4 AL.length k4] 81)
      have HC4 := Lib.hid (HCT.out w4.heap.size (.slice a4 AL.length k4) _ HB4.out (o4.read.kept hb5) (one_at w4 81 (.slice a4 AL.length k4)))
      clear b4 o4 k0 k1 k2 hb4 hb5 HP3
      go_wp2_with fail
      refine HC4.out.mono ?_
      rintro e w5 ⟨rfl, b5⟩
      have HB5 := Lib.hid (HB4.out.trans (b5.mono HB4.out.size))
      clear b5
      go_wp2_with fail
      go_ret
      exact ⟨rfl, HB5.out⟩
end
end Go.Proofs.Ytcgkfbjdlhapkaa
