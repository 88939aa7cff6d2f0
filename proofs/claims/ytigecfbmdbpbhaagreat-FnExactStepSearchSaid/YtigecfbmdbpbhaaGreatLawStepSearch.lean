/- StepSearch answers as its model at every argument; it writes into no argument; its answer owns its memory. Conditions: none beyond the row's own. -/
import Derived.Test.YtigecfbmdbpbhaaGreatSb23
import Derived.Test.YtigecfbmdbpbhaaGreatSb24
import Derived.Test.YtigecfbmdbpbhaaGreatSb30
namespace Go.Proofs.YtigecfbmdbpbhaaGreat.lawFnExactStepSearch
open Go.ChangeShapes Go.WideShapes Go.ChangeAt Go.RowKit
theorem laidOut : laidOutB Tryz.prog = true := by kernel_rfl

theorem own : ownKnob Tryz.prog.godebug = none := by kernel_rfl

set_option maxRecDepth 40000 in
set_option maxHeartbeats 6400000 in
theorem walk (c : Int) (v : Value) (m at_ : Int) (f : Value) (t : Int) (ll : List (List Int)) (F : List (Int × Int)) (w : World) (hr : ReadSS w v ll) (hs : Short ll) (hf : ReadD w f F) (hm : F.length ≤ maxLen) :
    Calls Tryz.prog 3 #[srcV c v m at_ f t] w fun e w' => e = .returned (.bool true) ∧ Below w.heap.size w w' := by
  unfold maxLen at hm
  have HZ := Lib.hid (fun w' (hb : Below w.heap.size w w') => szSearch_any c m at_ t v f ll F w' (hr.kept hb) hs (hf.kept hb) (by omega))
  have HB0 := Lib.hid ((Below.refl w.heap.size w).alloc (Nat.le_refl _) (.cells #[.int .i64 c, v, .int .i64 m, .int .i64 at_, f, .int .i64 t] 27))
  have HP0 := Lib.hid (SBx.mk' w 27 c v m at_ f t)
  by_cases hsz : ((szOf ll : Nat) : Int) + (F.length : Int) ≤ 1048576
  · have hsz2 := hsz
    rw [show szD2 (szOf ll) F.length = 1048576 - (szOf ll : Int) - (F.length : Int) by unfold szD2; rw [if_pos hsz]] at HZ
    have hneg : ¬ (1048576 - ((szOf ll : Nat) : Int) - (F.length : Int) < 0) := by omega
    have hl : ll.length ≤ 1048576 := by unfold szOf at hsz2; omega
    have ht : ∀ i, i < ll.length → (ll.getD i []).length ≤ 1048576 := fun i hi => by have := tot_get hi; unfold szOf at hsz2; omega
    have hF : F.length ≤ 1048576 := by omega
    have HTO := Lib.hid (fun w' (hb : Below w.heap.size w w') => toSearch_any c m at_ t v f ll F w' (hr.kept hb) hl ht (hf.kept hb) hF)
    have HEQ := Lib.hid (fun (u u' g g' : Value) w' (h1 : ReadSS w' u ll) (h2 : ReadSS w' u' ll) (h3 : ReadD w' g F) (h4 : ReadD w' g' F) => eqSearch_same c m at_ t u u' g g' ll F w' h1 h2 (by omega) (fun i hi => Nat.le_trans (ht i hi) (by decide)) h3 h4 hF)
    have htt : tot ll ≤ 1048576 := by unfold szOf at hsz2; omega
    have HS := Lib.hid (fun (u g : Value) w' (h1 : ReadSS w' u ll) (h2 : ReadD w' g F) => stepSearch8_any c m at_ t u g ll F w' h1 hl ht h2 hF)
    have HI := Lib.hid (fun (u g : Value) w' (h1 : ReadSS w' u ll) (h2 : ReadD w' g F) => implStepSearch_any c m at_ t u g ll F w' h1 hl ht h2 hF)
    have hFr : (ssF c ll m at_ F t).length ≤ 1048576 := ssF_len c ll m at_ F t hF
    obtain ⟨qA, hqA⟩ : ∃ x, x = (ssA c ll m at_ F t) := ⟨_, rfl⟩
    obtain ⟨qT, hqT⟩ : ∃ x, x = (ssT c ll m at_ F t) := ⟨_, rfl⟩
    obtain ⟨qF, hqF⟩ : ∃ x, x = (ssF c ll m at_ F t) := ⟨_, rfl⟩
    obtain ⟨qb, hqb⟩ : ∃ x, x = (nxB c ll m at_ F t) := ⟨_, rfl⟩
    rw [← hqA, ← hqT, ← hqF, ← hqb] at HS HI
    rw [← hqF] at hFr
    have hbn : (qb != qb) = false := bne_self_eq_false _
    clear hqA hqT hqF hqb
    have HER := Lib.hid (fun (u u' g g' : Value) w' (h1 : ReadSS w' u ll) (h2 : ReadSS w' u' ll) (h3 : ReadD w' g qF) (h4 : ReadD w' g' qF) => eqSearch_same c m qA qT u u' g g' ll qF w' h1 h2 (Nat.le_trans hl (by decide)) (fun i hi => Nat.le_trans (ht i hi) (by decide)) h3 h4 hFr)
    have hn0 : decide (1 + (tot ll : Int) + 2 * (qF.length : Int) < 0) = false := decide_eq_false (by omega)
    have hne : ((1 + (tot ll : Int) + 2 * (qF.length : Int)) != (1 + (tot ll : Int) + 2 * (qF.length : Int))) = false := bne_self_eq_false _
    have hnx : decide (1 + (tot ll : Int) + 2 * (F.length : Int) < 0) = false := decide_eq_false (by omega)
    have HM := Lib.hid (And.intro hl (And.intro htt hFr))
    have HMX := Lib.hid (And.intro hl (And.intro htt hF))
    obtain ⟨a, cap, rfl, -⟩ := hr
    obtain ⟨af, capf, rfl, -⟩ := hf
    unfold srcV at *
    clear ht htt hs hm hsz hsz2 hl hF hFr
    have N0 := Lib.hid (Below.refl (w.alloc (.cells #[.int .i64 c, .slice a ll.length cap, .int .i64 m, .int .i64 at_, .slice af F.length capf, .int .i64 t] 27)).heap.size (w.alloc (.cells #[.int .i64 c, .slice a ll.length cap, .int .i64 m, .int .i64 at_, .slice af F.length capf, .int .i64 t] 27)))
    obtain ⟨⟨p0, p1⟩, ⟨p2, p3⟩, p4, p5⟩ := HP0.out.kept N0.out
    go_enter Tryz.func3, Tryz.ntmps3
    go_wp2_with fail
    refine (HZ.out _ HB0.out).mono ?_
    rintro e w1 ⟨rfl, b1⟩
    replace N0 := Lib.hid (N0.out.trans (b1.mono N0.out.size))
    clear b1 HZ
    clear p0 p1 p2 p3 p4 p5
    obtain ⟨⟨p0, p1⟩, ⟨p2, p3⟩, p4, p5⟩ := HP0.out.kept N0.out
    go_wp2_with fail
    refine (HTO.out _ (HB0.out.trans (N0.out.mono HB0.out.size))).mono ?_
    rintro e w2 ⟨um, gm, Cm, rfl, ou, og, hc1, hc2, b2⟩
    have RU := Lib.hid (And.intro ou.read og.read)
    obtain ⟨am, km, rfl, -⟩ := ou.read
    obtain ⟨em, jm, rfl⟩ := og.shape
    replace N0 := Lib.hid (N0.out.trans (b2.mono N0.out.size))
    clear b2 ou og hc1 hc2 p0 p1 p2 p3 p4 p5
    unfold srcV
    go_wp2_with fail
    refine (HS.out _ _ _ RU.out.1 RU.out.2).mono ?_
    rintro e w3 ⟨uy, gy, rfl, oy, od, b3⟩
    obtain ⟨ay, ky, rfl, -⟩ := oy.read
    obtain ⟨ey, jy, rfl⟩ := od.shape
    have HY := Lib.hid (Fz.laid (c := c) (m := m) (at_ := qA) (t := qT) oy.read od.read)
    replace N0 := Lib.hid (N0.out.trans (b3.mono N0.out.size))
    have hal := (Below.refl w3.heap.size w3).alloc (Nat.le_refl _) (.cells #[.int .i64 c, .slice ay ll.length ky, .int .i64 m, .int .i64 qA, .slice ey qF.length jy, .int .i64 qT] 32)
    replace N0 := Lib.hid (N0.out.trans (hal.mono N0.out.size))
    have HN03 := Lib.hid N0.out.size
    have N3 := Lib.hid (Below.refl (w3.alloc (.cells #[.int .i64 c, .slice ay ll.length ky, .int .i64 m, .int .i64 qA, .slice ey qF.length jy, .int .i64 qT] 32)).heap.size (w3.alloc (.cells #[.int .i64 c, .slice ay ll.length ky, .int .i64 m, .int .i64 qA, .slice ey qF.length jy, .int .i64 qT] 32)))
    unfold srcV
    clear b3 hal oy od RU HS
    obtain ⟨⟨p0, p1⟩, ⟨p2, p3⟩, p4, p5⟩ := HP0.out.kept N0.out
    go_wp2_with fail
    refine (HTO.out _ (HB0.out.trans (N0.out.mono HB0.out.size))).mono ?_
    rintro e w4 ⟨ux, gx, Cx, rfl, ou, og, hc1, hc2, b4⟩
    obtain ⟨ax, kx, rfl, -⟩ := ou.read
    obtain ⟨ex, jx, rfl⟩ := og.shape
    have HX := Lib.hid (Ms.laid (c := c) (m := m) (at_ := at_) (t := t) ou og hc1 hc2)
    replace N0 := Lib.hid (N0.out.trans (b4.mono N0.out.size))
    replace N3 := Lib.hid (N3.out.trans (b4.mono N3.out.size))
    have hal := (Below.refl w4.heap.size w4).alloc (Nat.le_refl _) (.cells #[.int .i64 c, .slice ax ll.length kx, .int .i64 m, .int .i64 at_, .slice ex F.length jx, .int .i64 t] 32)
    replace N0 := Lib.hid (N0.out.trans (hal.mono N0.out.size))
    replace N3 := Lib.hid (N3.out.trans (hal.mono N3.out.size))
    unfold srcV
    clear b4 hal ou og hc1 hc2 p0 p1 p2 p3 p4 p5
    obtain ⟨⟨x0, x1⟩, ⟨x2, x3⟩, x4, x5⟩ := HX.out.bx
    go_wp2_with fail
    refine (HI.out _ _ _ HX.out.ss.read HX.out.dr.read).mono ?_
    rintro e w5 ⟨ug, gg, Cg, rfl, ou, og, hc1, hc2, b5⟩
    have N35 := Lib.hid N3.out.size
    have N05 := Lib.hid N0.out.size
    obtain ⟨ag, kg, rfl, -⟩ := ou.read
    obtain ⟨eg, jg, rfl⟩ := og.shape
    have HG1 := Lib.hid (Ms.laid (c := c) (m := m) (at_ := qA) (t := qT) ou og hc1 hc2)
    replace N0 := Lib.hid (N0.out.trans (b5.mono N0.out.size))
    replace N3 := Lib.hid (N3.out.trans (b5.mono N3.out.size))
    replace HX := Lib.hid (HX.out.kept b5)
    have hal := (Below.refl w5.heap.size w5).alloc (Nat.le_refl _) (.cells #[.int .i64 c, .slice ag ll.length kg, .int .i64 m, .int .i64 qA, .slice eg qF.length jg, .int .i64 qT] 32)
    replace N0 := Lib.hid (N0.out.trans (hal.mono N0.out.size))
    replace N3 := Lib.hid (N3.out.trans (hal.mono N3.out.size))
    replace HX := Lib.hid (HX.out.kept hal)
    unfold srcV
    clear b5 hal ou og hc1 hc2
    have HN35 := Lib.hid N35.out
    have HN05 := Lib.hid N05.out
    have HG := HG1
    clear HG1
    clear x0 x1 x2 x3 x4 x5
    obtain ⟨⟨g0, g1⟩, ⟨g2, g3⟩, g4, g5⟩ := HG.out.bx
    obtain ⟨⟨y0, y1⟩, ⟨y2, y3⟩, y4, y5⟩ := (HY.out.kept N3.out).bx
    go_wp2_with fail
    refine (HER.out _ _ _ _ _ HG.out.ss.read (HY.out.kept N3.out).rs HG.out.dr.read (HY.out.kept N3.out).rd).mono ?_
    rintro e w6 ⟨rfl, b6⟩
    replace N0 := Lib.hid (N0.out.trans (b6.mono N0.out.size))
    replace N3 := Lib.hid (N3.out.trans (b6.mono N3.out.size))
    replace HX := Lib.hid (HX.out.kept b6)
    replace HG := Lib.hid (HG.out.kept b6)
    clear b6
    clear g0 g1 g2 g3 g4 g5 y0 y1 y2 y3 y4 y5
    obtain ⟨⟨p0, p1⟩, ⟨p2, p3⟩, p4, p5⟩ := HP0.out.kept N0.out
    obtain ⟨⟨x0, x1⟩, ⟨x2, x3⟩, x4, x5⟩ := HX.out.bx
    go_wp2_with fail
    refine wp_region_noPanic ?_
    refine wp_region_held_drew (S := (fun w' => (((w'.cell? ⟨w.heap.size, 0, none⟩ = some (.int .i64 c) ∧ w'.cell? ⟨w.heap.size, 1, none⟩ = some (.slice a ll.length cap)) ∧ (w'.cell? ⟨w.heap.size, 2, none⟩ = some (.int .i64 m) ∧ w'.cell? ⟨w.heap.size, 3, none⟩ = some (.int .i64 at_)) ∧ w'.cell? ⟨w.heap.size, 4, none⟩ = some (.slice af F.length capf) ∧ w'.cell? ⟨w.heap.size, 5, none⟩ = some (.int .i64 t)) ∧ ((w'.cell? ⟨w4.heap.size, 0, none⟩ = some (.int .i64 c) ∧ w'.cell? ⟨w4.heap.size, 1, none⟩ = some (.slice ax ll.length kx)) ∧ (w'.cell? ⟨w4.heap.size, 2, none⟩ = some (.int .i64 m) ∧ w'.cell? ⟨w4.heap.size, 3, none⟩ = some (.int .i64 at_)) ∧ w'.cell? ⟨w4.heap.size, 4, none⟩ = some (.slice ex F.length jx) ∧ w'.cell? ⟨w4.heap.size, 5, none⟩ = some (.int .i64 t))) ∧ Below w6.heap.size w6 w')) (by kernel_rfl) ?_ (fun hHeld => ?_)
    · ((try dsimp only); (first | exact keepS2 hHeld b92 | exact keepS2 hHeld b91 | exact ⟨⟨⟨⟨p0, p1⟩, ⟨p2, p3⟩, p4, p5⟩, ⟨x0, x1⟩, ⟨x2, x3⟩, x4, x5⟩, (Below.refl _ _).drew⟩))
    refine wpAnyH_take (i := 0) (v := ?_) rfl (by kernel_rfl) (by kernel_rfl) (by kernel_rfl) (fun _ _ _ h => h) (Or.inl ⟨by rfl, ?_⟩) (by assumption) ?_
    rotate_left
    · (intro w hSw; (try dsimp only at hSw); go_simp; (try with_reducible rfl))
    (try simp only [Act.put, List.getElem_toArray, List.getElem_cons_zero, List.setIfInBounds_toArray, List.set_cons_zero, List.set_cons_succ])
    refine wpAnyH_take (i := 1) (v := ?_) rfl (by kernel_rfl) (by kernel_rfl) (by kernel_rfl) (fun _ _ _ h => h) (Or.inl ⟨by rfl, ?_⟩) (by assumption) ?_
    rotate_left
    · (intro w hSw; (try dsimp only at hSw); go_simp; (try with_reducible rfl))
    (try simp only [Act.put, List.getElem_toArray, List.getElem_cons_succ, List.getElem_cons_zero, List.setIfInBounds_toArray, List.set_cons_zero, List.set_cons_succ])
    refine wpAnyH_ready (rs := [2]) (by kernel_rfl) (by simp) (AllReadyH.cons rfl (fun K hK => ?_) AllReadyH.nil)
    (first | ((first | (go_at_call 6; refine (HTO.out _ ((HB0.out.trans (N0.out.mono HB0.out.size)).trans (hHeld.2.mono (HB0.out.trans (N0.out.mono HB0.out.size)).size))).mono ?_; rintro e w91 ⟨u9, g9, C9, rfl, ou9, og9, -, -, b91⟩; have HR9 := Lib.hid (And.intro ou9.read og9.read); clear ou9 og9; obtain ⟨au9, capu9, rfl, -⟩ := HR9.out.1; obtain ⟨ag9, capg9, rfl, -⟩ := HR9.out.2; unfold srcV) | (go_at_call 8; refine (HEQ.out _ _ _ _ _ (HX.out.ss.read.kept hHeld.2) HR9.out.1 (HX.out.dr.read.kept hHeld.2) HR9.out.2).mono ?_; rintro e w92 ⟨rfl, b92⟩))) | (go_simp; (first | (go_at_call 6; refine (HTO.out _ ((HB0.out.trans (N0.out.mono HB0.out.size)).trans (hHeld.2.mono (HB0.out.trans (N0.out.mono HB0.out.size)).size))).mono ?_; rintro e w91 ⟨u9, g9, C9, rfl, ou9, og9, -, -, b91⟩; have HR9 := Lib.hid (And.intro ou9.read og9.read); clear ou9 og9; obtain ⟨au9, capu9, rfl, -⟩ := HR9.out.1; obtain ⟨ag9, capg9, rfl, -⟩ := HR9.out.2; unfold srcV) | (go_at_call 8; refine (HEQ.out _ _ _ _ _ (HX.out.ss.read.kept hHeld.2) HR9.out.1 (HX.out.dr.read.kept hHeld.2) HR9.out.2).mono ?_; rintro e w92 ⟨rfl, b92⟩))))
    (try (go_wp2_with fail))
    refine hK.out _ _ ?_ (fun hHeld => ?_)
    · ((try dsimp only); (first | exact keepS2 hHeld b92 | exact keepS2 hHeld b91 | exact ⟨⟨⟨⟨p0, p1⟩, ⟨p2, p3⟩, p4, p5⟩, ⟨x0, x1⟩, ⟨x2, x3⟩, x4, x5⟩, (Below.refl _ _).drew⟩))
    clear hK K
    (try simp only [Act.put, List.getElem_toArray, List.getElem_cons_succ, List.getElem_cons_zero, List.setIfInBounds_toArray, List.set_cons_zero, List.set_cons_succ])
    refine wpAnyH_ready (rs := [3]) (by kernel_rfl) (by simp) (AllReadyH.cons rfl (fun K hK => ?_) AllReadyH.nil)
    (first | ((first | (go_at_call 6; refine (HTO.out _ ((HB0.out.trans (N0.out.mono HB0.out.size)).trans (hHeld.2.mono (HB0.out.trans (N0.out.mono HB0.out.size)).size))).mono ?_; rintro e w91 ⟨u9, g9, C9, rfl, ou9, og9, -, -, b91⟩; have HR9 := Lib.hid (And.intro ou9.read og9.read); clear ou9 og9; obtain ⟨au9, capu9, rfl, -⟩ := HR9.out.1; obtain ⟨ag9, capg9, rfl, -⟩ := HR9.out.2; unfold srcV) | (go_at_call 8; refine (HEQ.out _ _ _ _ _ (HX.out.ss.read.kept hHeld.2) HR9.out.1 (HX.out.dr.read.kept hHeld.2) HR9.out.2).mono ?_; rintro e w92 ⟨rfl, b92⟩))) | (go_simp; (first | (go_at_call 6; refine (HTO.out _ ((HB0.out.trans (N0.out.mono HB0.out.size)).trans (hHeld.2.mono (HB0.out.trans (N0.out.mono HB0.out.size)).size))).mono ?_; rintro e w91 ⟨u9, g9, C9, rfl, ou9, og9, -, -, b91⟩; have HR9 := Lib.hid (And.intro ou9.read og9.read); clear ou9 og9; obtain ⟨au9, capu9, rfl, -⟩ := HR9.out.1; obtain ⟨ag9, capg9, rfl, -⟩ := HR9.out.2; unfold srcV) | (go_at_call 8; refine (HEQ.out _ _ _ _ _ (HX.out.ss.read.kept hHeld.2) HR9.out.1 (HX.out.dr.read.kept hHeld.2) HR9.out.2).mono ?_; rintro e w92 ⟨rfl, b92⟩))))
    (try (go_wp2_with fail))
    refine hK.out _ _ ?_ (fun hHeld => ?_)
    · ((try dsimp only); (first | exact keepS2 hHeld b92 | exact keepS2 hHeld b91 | exact ⟨⟨⟨⟨p0, p1⟩, ⟨p2, p3⟩, p4, p5⟩, ⟨x0, x1⟩, ⟨x2, x3⟩, x4, x5⟩, (Below.refl _ _).drew⟩))
    clear hK K
    (try simp only [Act.put, List.getElem_toArray, List.getElem_cons_succ, List.getElem_cons_zero, List.setIfInBounds_toArray, List.set_cons_zero, List.set_cons_succ])
    refine wpAnyH_take (i := 4) (v := ?_) rfl (by kernel_rfl) (by kernel_rfl) (by kernel_rfl) (fun _ _ _ h => h) (Or.inl ⟨by rfl, ?_⟩) (by assumption) ?_
    rotate_left
    · (intro w hSw; (try dsimp only at hSw); go_simp; (try with_reducible rfl))
    (try simp only [Act.put, List.getElem_toArray, List.getElem_cons_succ, List.getElem_cons_zero, List.setIfInBounds_toArray, List.set_cons_zero, List.set_cons_succ])
    refine wpAnyH_done (by kernel_rfl) ?_ _
    refine NoPanic.normal ?_
    have b7 := hHeld.2
    obtain ⟨w7, hw7⟩ : ∃ w7, w7 = w92 := ⟨_, rfl⟩
    rw [← hw7] at b7 ⊢
    replace N0 := Lib.hid (N0.out.trans (b7.mono N0.out.size))
    replace N3 := Lib.hid (N3.out.trans (b7.mono N3.out.size))
    replace HX := Lib.hid (HX.out.kept b7)
    replace HG := Lib.hid (HG.out.kept b7)
    clear b7 hHeld b92 hw7
    clear p0 p1 p2 p3 p4 p5 x0 x1 x2 x3 x4 x5
    obtain ⟨⟨x0, x1⟩, ⟨x2, x3⟩, x4, x5⟩ := HX.out.bx
    go_wp2_with fail
    refine (HX.out.mark HMX.out.1 HMX.out.2.1 HMX.out.2.2).mono ?_
    rintro e w8 ⟨rfl, m8, -⟩
    replace HG := Lib.hid (HG.out.mid m8 (.inl (Nat.le_trans HX.out.le.2.2.1 (Nat.le_of_lt (by simp)))))
    replace N3 := Lib.hid (N3.out.trans (m8.below (Nat.le_refl _) N3.out.size))
    replace N0 := Lib.hid (N0.out.trans (m8.below HN03.out N0.out.size))
    clear HX m8 x0 x1 x2 x3 x4 x5
    obtain ⟨⟨g0, g1⟩, ⟨g2, g3⟩, g4, g5⟩ := HG.out.bx
    obtain ⟨⟨y0, y1⟩, ⟨y2, y3⟩, y4, y5⟩ := (HY.out.kept N3.out).bx
    go_wp2_with fail
    refine (HER.out _ _ _ _ _ HG.out.ss.read (HY.out.kept N3.out).rs HG.out.dr.read (HY.out.kept N3.out).rd).mono ?_
    rintro e w9 ⟨rfl, b9⟩
    replace N0 := Lib.hid (N0.out.trans (b9.mono N0.out.size))
    replace N3 := Lib.hid (N3.out.trans (b9.mono N3.out.size))
    replace HG := Lib.hid (HG.out.kept b9)
    clear b9
    clear g0 g1 g2 g3 g4 g5 y0 y1 y2 y3 y4 y5
    obtain ⟨⟨g0, g1⟩, ⟨g2, g3⟩, g4, g5⟩ := HG.out.bx
    go_wp2_with fail
    refine (HG.out.mark HM.out.1 HM.out.2.1 HM.out.2.2).mono ?_
    rintro e w10 ⟨rfl, m10, hg10⟩
    have HGM := Lib.hid hg10
    replace N3 := Lib.hid (N3.out.trans (m10.below HN35.out N3.out.size))
    replace N0 := Lib.hid (N0.out.trans (m10.below HN05.out N0.out.size))
    clear HG m10 hg10
    have HG := HGM
    clear HGM
    clear g0 g1 g2 g3 g4 g5
    obtain ⟨⟨g0, g1⟩, ⟨g2, g3⟩, g4, g5⟩ := HG.out.bx
    go_wp2_with fail
    refine (HG.out.held HM.out.1 HM.out.2.1 HM.out.2.2).mono ?_
    rintro e w11 ⟨rfl, b11⟩
    replace N0 := Lib.hid (N0.out.trans (b11.mono N0.out.size))
    replace N3 := Lib.hid (N3.out.trans (b11.mono N3.out.size))
    replace HG := Lib.hid (HG.out.kept b11)
    clear b11
    clear g0 g1 g2 g3 g4 g5
    obtain ⟨⟨p0, p1⟩, ⟨p2, p3⟩, p4, p5⟩ := HP0.out.kept N0.out
    go_wp2_with fail
    refine (HTO.out _ (HB0.out.trans (N0.out.mono HB0.out.size))).mono ?_
    rintro e w12 ⟨un, gn, Cn, rfl, ou, og, hc1, hc2, b12⟩
    have RU := Lib.hid (And.intro ou.read og.read)
    obtain ⟨an, kn, rfl, -⟩ := ou.read
    obtain ⟨en, jn, rfl⟩ := og.shape
    replace N0 := Lib.hid (N0.out.trans (b12.mono N0.out.size))
    replace N3 := Lib.hid (N3.out.trans (b12.mono N3.out.size))
    replace HG := Lib.hid (HG.out.kept b12)
    clear b12 ou og hc1 hc2 p0 p1 p2 p3 p4 p5
    unfold srcV
    go_wp2_with fail
    refine (HI.out _ _ _ RU.out.1 RU.out.2).mono ?_
    rintro e w13 ⟨uh, gh, Ch, rfl, ou, og, hc1, hc2, b13⟩
    obtain ⟨ah, kh, rfl, -⟩ := ou.read
    obtain ⟨eh, jh, rfl⟩ := og.shape
    have HH := Lib.hid (Fz.laid (c := c) (m := m) (at_ := qA) (t := qT) ou.read og.read)
    replace N0 := Lib.hid (N0.out.trans (b13.mono N0.out.size))
    replace N3 := Lib.hid (N3.out.trans (b13.mono N3.out.size))
    replace HG := Lib.hid (HG.out.kept b13)
    have hal := (Below.refl w13.heap.size w13).alloc (Nat.le_refl _) (.cells #[.int .i64 c, .slice ah ll.length kh, .int .i64 m, .int .i64 qA, .slice eh qF.length jh, .int .i64 qT] 32)
    replace N0 := Lib.hid (N0.out.trans (hal.mono N0.out.size))
    replace N3 := Lib.hid (N3.out.trans (hal.mono N3.out.size))
    replace HG := Lib.hid (HG.out.kept hal)
    unfold srcV
    clear b13 hal ou og hc1 hc2
    clear RU
    obtain ⟨⟨h0, h1⟩, ⟨h2, h3⟩, h4, h5⟩ := HH.out.bx
    obtain ⟨⟨y0, y1⟩, ⟨y2, y3⟩, y4, y5⟩ := (HY.out.kept N3.out).bx
    go_wp2_with fail
    refine (HER.out _ _ _ _ _ HH.out.rs (HY.out.kept N3.out).rs HH.out.rd (HY.out.kept N3.out).rd).mono ?_
    rintro e w14 ⟨rfl, b14⟩
    replace N0 := Lib.hid (N0.out.trans (b14.mono N0.out.size))
    replace N3 := Lib.hid (N3.out.trans (b14.mono N3.out.size))
    replace HG := Lib.hid (HG.out.kept b14)
    clear b14
    clear h0 h1 h2 h3 h4 h5 y0 y1 y2 y3 y4 y5
    obtain ⟨⟨g0, g1⟩, ⟨g2, g3⟩, g4, g5⟩ := HG.out.bx
    go_wp2_with fail
    refine (HG.out.held HM.out.1 HM.out.2.1 HM.out.2.2).mono ?_
    rintro e w15 ⟨rfl, b15⟩
    replace N0 := Lib.hid (N0.out.trans (b15.mono N0.out.size))
    replace N3 := Lib.hid (N3.out.trans (b15.mono N3.out.size))
    replace HG := Lib.hid (HG.out.kept b15)
    clear b15
    clear g0 g1 g2 g3 g4 g5
    have hb9 := HB0.out.trans (N0.out.mono HB0.out.size)
    go_wp2_with fail
    go_ret
    exact ⟨rfl, hb9⟩
  · rw [show szD2 (szOf ll) F.length = -1 by unfold szD2; rw [if_neg hsz]] at HZ
    obtain ⟨a, cap, rfl, -⟩ := hr
    obtain ⟨af, capf, rfl, -⟩ := hf
    obtain ⟨⟨c0, c1⟩, ⟨c2, c3⟩, c4, c5⟩ := HP0.out
    unfold srcV at *
    go_enter Tryz.func3, Tryz.ntmps3
    go_wp2_with fail
    refine (HZ.out _ HB0.out).mono ?_
    rintro e w1 ⟨rfl, b1⟩
    have hb := HB0.out.trans (b1.mono HB0.out.size)
    go_wp2_with fail
    go_ret
    exact ⟨rfl, hb⟩

set_option linter.unusedVariables false
set_option maxRecDepth 100000 in
theorem lifted (os : Os) (started : os.Started) (H : Type) (enc : TypeId × Value → H) :
    ReturnsInHanded {} Tryz.checked os 3 .any (Rows.fnExactStepSearchSpec.pre6 enc Tryz.prog Tryz.f3 Rows.fnExactStepSearchRow.domain false) (Rows.fnExactStepSearchSpec.post enc Tryz.prog Tryz.f3 false true false false) := by
  refine returnsInHanded_of_change (C := Tryz.checked) own started (by kernel_rfl) Tryz.func3
    (ChangeSpec.witness6 (enc := enc) (C := Tryz.checked) false ⟨#[], #[.agg #[.int .i64 0, .slice none 0 0, .int .i64 0, .int .i64 0, .slice none 0 0, .int .i64 0]], []⟩ 8 (by kernel_rfl) (by kernel_rfl) (by kernel_rfl) (by kernel_rfl)) ?_
  intro W base args ds gs before hval0 hW hcnd _
  have hval : ∀ (j : Nat) t v, Tryz.f3.params[j]? = some t → args[j]? = some v → Value.okWide Tryz.prog W .any base t v := hval0
  have hW' := hW
  obtain ⟨p, q, hA0, hV, rfl, hfz, hnd⟩ := hW
  have hA : DataW.TrodAll enc Tryz.prog W 0 (fun _ => true) true Tryz.f3.params.toList args.toList ds p := hA0
  rw [Tryz.params3] at hA hval
  obtain ⟨v0, vs0, d0, ds0, p0, q0, hargs, rfl, rfl, h0, r0⟩ := trodAll_cons hA
  obtain ⟨rfl, rfl, rfl⟩ := trodAll_nil r0
  obtain rfl : args = #[v0] := by cases args; simp_all
  obtain ⟨rfl, rfl⟩ := trodVars_none hV
  have k0 := h0
  have lt0 : ∀ x ∈ p0, x.block < W.heap.size := by obtain ⟨m, hm⟩ := k0; exact DataW.trod_lt m _ _ _ hm
  obtain ⟨c0, u0, m0, t0, f0, n0, ll0, F0, rfl, w0, r0r, s0, f0r, b0⟩ := open_search (hval 0 27 v0 rfl rfl) k0
  clear hA0 hval0
  refine (walk c0 u0 m0 t0 f0 n0 ll0 F0  W r0r s0 f0r b0).mono fun e W' ⟨he, hg⟩ => ?_
  subst he
  exact ⟨_, rfl, ⟨_, _, _, [], _, [], hW', trodAll_cons_mk (shut_bool Tryz.underlying4 _) trodAll_mk0, (trodAll_cons_mk (Below.trod laidOut (by kernel_rfl) (of_decide_eq_true (by kernel_rfl)) k0 hg lt0) trodAll_mk0), rfl, hg.frame _, fun h => by cases h⟩⟩

theorem over : Rows.fnExactStepSearchRow.holds Tryz.pinned (OpenSpec.ofChange Rows.fnExactStepSearchSpec) :=
  OpenClaim.holds_of_wide 3 Tryz.f3 rfl rfl rfl rfl rfl rfl rfl ⟨rfl, rfl, rfl, rfl, rfl⟩ rfl rfl rfl rfl rfl (by kernel_rfl) Tryz.func3 (by kernel_rfl)
    (of_decide_eq_true (by kernel_rfl)) (by unfold Func.isWrapper; first | (rw [if_pos (by decide +kernel)]; kernel_rfl) | (rw [if_neg (by decide +kernel)]; exact ⟨rfl, rfl⟩))
    (fun os started H enc _ => lifted os started H enc)

theorem proved : Rows.FnExactStepSearchSaid := over
end Go.Proofs.YtigecfbmdbpbhaaGreat.lawFnExactStepSearch
