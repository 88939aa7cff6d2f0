/- NewSearch answers as its model at every argument; it writes into no argument; its answer owns its memory. Conditions: none beyond the row's own. -/
import Derived.Test.YtigecfbmdbpbhaaSa22
import Derived.Test.YtigecfbmdbpbhaaSmBm
import Derived.Test.YtigecfbmdbpbhaaSa30
import Derived.Test.YtigecfbmdbpbhaaSa13
namespace Go.Proofs.Ytigecfbmdbpbhaa.lawFnExactNewSearch
open Go.ChangeShapes Go.WideShapes Go.ChangeAt Go.RowKit
theorem laidOut : laidOutB Try.prog = true := by kernel_rfl

theorem own : ownKnob Try.prog.godebug = none := by kernel_rfl

set_option maxRecDepth 40000 in
set_option maxHeartbeats 6400000 in
theorem walk (c : Int) (v : Value) (ll : List (List Int)) (md : Int) (_w0 : (Lit.int .i64 c).wf = true) (_w1 : (Lit.int .i64 md).wf = true) (w : World) (hr : ReadSS w v ll) (hs : Short ll) :
    Calls Try.prog 3 #[.agg #[.int .i64 c, v], .int .i64 md] w fun e w' => e = .returned (.bool true) ∧ Below w.heap.size w w' := by
  have HZ := Lib.hid (fun w' (hb : Below w.heap.size w w') => szTable_any c v ll w' (hr.kept hb) hs 1048576 (by omega) (by omega))
  have HB0 := Lib.hid ((Below.refl w.heap.size w).alloc (Nat.le_refl _) (.cells #[.int .i64 c, v] 24))
  have HP0 := Lib.hid (zero2 w 24 (.int .i64 c) v)
  by_cases hsz : ((szOf ll : Nat) : Int) ≤ 1048576
  · have hsz2 := hsz
    rw [szD_ok hsz] at HZ
    have hneg : ¬ (1048576 - ((szOf ll : Nat) : Int) < 0) := by omega
    have hl : ll.length ≤ 1048576 := by unfold szOf at hsz2; omega
    have ht : ∀ i, i < ll.length → (ll.getD i []).length ≤ 1048576 := fun i hi => by have := tot_get hi; unfold szOf at hsz2; omega
    have htt : tot ll ≤ 1048576 := by unfold szOf at hsz2; omega
    have HTO := Lib.hid (fun w' (hb : Below w.heap.size w w') => toTable_any c v ll w' (hr.kept hb) hl ht)
    have HET := Lib.hid (fun (u u' : Value) w' (h1 : ReadSS w' u ll) (h2 : ReadSS w' u' ll) => (eqTb_self c ll ▸ eqTable_any c c u u' ll ll w' h1 h2 (by omega) (fun i hi => Nat.le_trans (ht i hi) (by decide)) :))
    have HS := Lib.hid (fun (u : Value) w' (h1 : ReadSS w' u ll) => newSearch8_any c md u ll w' h1 hl ht)
    have HI := Lib.hid (fun (u : Value) w' (h1 : ReadSS w' u ll) => implNewSearch_any c md u ll w' h1 hl ht)
    have hLr : (nsL c ll md).length ≤ 1048576 := by unfold nsL; split; exact hl; exact Nat.zero_le _
    have hLt : tot (nsL c ll md) ≤ 1048576 := by unfold nsL; split; exact htt; exact Nat.zero_le _
    have hLr2 : ∀ i, i < (nsL c ll md).length → ((nsL c ll md).getD i []).length ≤ 1048576 := by unfold nsL; split; exact ht; exact fun i hi => absurd hi (Nat.not_lt_zero _)
    obtain ⟨qC, hqC⟩ : ∃ x, x = (nsC c ll md) := ⟨_, rfl⟩
    obtain ⟨qM, hqM⟩ : ∃ x, x = (nsM c ll md) := ⟨_, rfl⟩
    obtain ⟨qL, hqL⟩ : ∃ x, x = (nsL c ll md) := ⟨_, rfl⟩
    obtain ⟨qb, hqb⟩ : ∃ x, x = (fineT c ll md) := ⟨_, rfl⟩
    rw [← hqC, ← hqM, ← hqL, ← hqb] at HS HI
    rw [← hqL] at hLr hLt hLr2
    have hbn : (qb != qb) = false := bne_self_eq_false _
    clear hqC hqM hqL hqb
    have HER := Lib.hid (fun (u u' g g' : Value) w' (h1 : ReadSS w' u qL) (h2 : ReadSS w' u' qL) (h3 : ReadD w' g ([] : List (Int × Int))) (h4 : ReadD w' g' ([] : List (Int × Int))) => eqSearch_same qC qM 0 0 u u' g g' qL ([] : List (Int × Int)) w' h1 h2 (Nat.le_trans hLr (by decide)) (fun i hi => Nat.le_trans (hLr2 i hi) (by decide)) h3 h4 (Nat.zero_le 1048576))
    have hn0 : decide (1 + (tot qL : Int) + 2 * (0 : Int) < 0) = false := decide_eq_false (by omega)
    have hne : ((1 + (tot qL : Int) + 2 * (0 : Int)) != (1 + (tot qL : Int) + 2 * (0 : Int))) = false := bne_self_eq_false _
    have hnx : decide (1 + (tot ll : Int) < 0) = false := decide_eq_false (by omega)
    have HM := Lib.hid (And.intro hLr (And.intro hLt (Nat.zero_le 1048576)))
    have HMX := Lib.hid (And.intro hl (And.intro htt trivial))
    obtain ⟨a, cap, rfl, -⟩ := hr
    unfold srcV at *
    clear ht htt hs hsz hsz2 hl hLr hLt hLr2
    have N0 := Lib.hid (Below.refl (w.alloc (.cells #[.int .i64 c, .slice a ll.length cap] 24)).heap.size (w.alloc (.cells #[.int .i64 c, .slice a ll.length cap] 24)))
    have p0 := cell_inB HP0.out.1 N0.out
    have p1 := cell_inB HP0.out.2 N0.out
    go_enter Try.func3, Try.ntmps3
    go_wp2_with fail
    refine (HZ.out _ HB0.out).mono ?_
    rintro e w1 ⟨rfl, b1⟩
    replace N0 := Lib.hid (N0.out.trans (b1.mono N0.out.size))
    clear b1 HZ
    clear p0 p1
    have p0 := cell_inB HP0.out.1 N0.out
    have p1 := cell_inB HP0.out.2 N0.out
    go_wp2_with fail
    refine (HTO.out _ (HB0.out.trans (N0.out.mono HB0.out.size))).mono ?_
    rintro e w2 ⟨um, rfl, ou, b2⟩
    have RU := Lib.hid ou.read
    obtain ⟨am, km, rfl, -⟩ := ou.read
    replace N0 := Lib.hid (N0.out.trans (b2.mono N0.out.size))
    clear b2 ou p0 p1
    go_wp2_with fail
    refine (HS.out _ _ RU.out).mono ?_
    rintro e w3 ⟨uy, gy, Cy, rfl, oy, od, hc1, hc2, b3⟩
    obtain ⟨ay, ky, rfl, -⟩ := oy.read
    obtain ⟨ey, jy, rfl⟩ := od.shape
    have HY := Lib.hid (Fz.laid (c := qC) (m := qM) (at_ := 0) (t := 0) oy.read od.read)
    replace N0 := Lib.hid (N0.out.trans (b3.mono N0.out.size))
    have hal := (Below.refl w3.heap.size w3).alloc (Nat.le_refl _) (.cells #[.int .i64 qC, .slice ay qL.length ky, .int .i64 qM, .int .i64 0, .slice ey 0 jy, .int .i64 0] 29)
    replace N0 := Lib.hid (N0.out.trans (hal.mono N0.out.size))
    have HN03 := Lib.hid N0.out.size
    have N3 := Lib.hid (Below.refl (w3.alloc (.cells #[.int .i64 qC, .slice ay qL.length ky, .int .i64 qM, .int .i64 0, .slice ey 0 jy, .int .i64 0] 29)).heap.size (w3.alloc (.cells #[.int .i64 qC, .slice ay qL.length ky, .int .i64 qM, .int .i64 0, .slice ey 0 jy, .int .i64 0] 29)))
    unfold srcV
    clear b3 hal oy od RU HS hc1 hc2
    have p0 := cell_inB HP0.out.1 N0.out
    have p1 := cell_inB HP0.out.2 N0.out
    go_wp2_with fail
    refine (HTO.out _ (HB0.out.trans (N0.out.mono HB0.out.size))).mono ?_
    rintro e w4 ⟨ux, rfl, ou, b4⟩
    obtain ⟨ax, kx, rfl, -⟩ := ou.read
    have hal := (Below.refl w4.heap.size w4).alloc (Nat.le_refl _) (.cells #[.int .i64 c, .slice ax ll.length kx] 26)
    have HX := Lib.hid (ou.same (Below.keeps hal (Nat.le_refl _)))
    have HXB := Lib.hid (zero2 w4 26 (.int .i64 c) (.slice ax ll.length kx))
    have HXS : Hid (w4.heap.size ≤ (w4.alloc (.cells #[.int .i64 c, .slice ax ll.length kx] 26)).heap.size) := Lib.hid (by simp)
    have HXL : Hid (w4.heap.size < (w4.alloc (.cells #[.int .i64 c, .slice ax ll.length kx] 26)).heap.size) := Lib.hid (by simp)
    replace N0 := Lib.hid (N0.out.trans (b4.mono N0.out.size))
    replace N3 := Lib.hid (N3.out.trans (b4.mono N3.out.size))
    replace N0 := Lib.hid (N0.out.trans (hal.mono N0.out.size))
    replace N3 := Lib.hid (N3.out.trans (hal.mono N3.out.size))
    clear b4 hal ou p0 p1
    obtain ⟨x0, x1⟩ := HXB.out
    go_wp2_with fail
    refine (HI.out _ _ HX.out.read).mono ?_
    rintro e w5 ⟨ug, gg, Cg, rfl, ou, og, hc1, hc2, b5⟩
    have N35 := Lib.hid N3.out.size
    have N05 := Lib.hid N0.out.size
    obtain ⟨ag, kg, rfl, -⟩ := ou.read
    obtain ⟨eg, jg, rfl⟩ := og.shape
    have HG1 := Lib.hid (Ms.laid (c := qC) (m := qM) (at_ := 0) (t := 0) ou og hc1 hc2)
    replace N0 := Lib.hid (N0.out.trans (b5.mono N0.out.size))
    replace N3 := Lib.hid (N3.out.trans (b5.mono N3.out.size))
    replace HX := Lib.hid (HX.out.same (Below.keeps b5 HXS.out))
    replace HXB := Lib.hid (And.intro (cell_inB HXB.out.1 b5) (cell_inB HXB.out.2 b5))
    replace HXS := Lib.hid (Nat.le_trans HXS.out b5.size)
    have hal := (Below.refl w5.heap.size w5).alloc (Nat.le_refl _) (.cells #[.int .i64 qC, .slice ag qL.length kg, .int .i64 qM, .int .i64 0, .slice eg 0 jg, .int .i64 0] 29)
    replace N0 := Lib.hid (N0.out.trans (hal.mono N0.out.size))
    replace N3 := Lib.hid (N3.out.trans (hal.mono N3.out.size))
    replace HX := Lib.hid (HX.out.same (Below.keeps hal HXS.out))
    replace HXB := Lib.hid (And.intro (cell_inB HXB.out.1 hal) (cell_inB HXB.out.2 hal))
    replace HXS := Lib.hid (Nat.le_trans HXS.out hal.size)
    unfold srcV
    clear b5 hal ou og hc1 hc2
    have HN35 := Lib.hid N35.out
    have HN05 := Lib.hid N05.out
    have HG := HG1
    clear HG1
    clear x0 x1
    obtain ⟨⟨g0, g1⟩, ⟨g2, g3⟩, g4, g5⟩ := HG.out.bx
    obtain ⟨⟨y0, y1⟩, ⟨y2, y3⟩, y4, y5⟩ := (HY.out.kept N3.out).bx
    go_wp2_with fail
    refine (HER.out _ _ _ _ _ HG.out.ss.read (HY.out.kept N3.out).rs HG.out.dr.read (HY.out.kept N3.out).rd).mono ?_
    rintro e w6 ⟨rfl, b6⟩
    replace N0 := Lib.hid (N0.out.trans (b6.mono N0.out.size))
    replace N3 := Lib.hid (N3.out.trans (b6.mono N3.out.size))
    replace HX := Lib.hid (HX.out.same (Below.keeps b6 HXS.out))
    replace HXB := Lib.hid (And.intro (cell_inB HXB.out.1 b6) (cell_inB HXB.out.2 b6))
    replace HXS := Lib.hid (Nat.le_trans HXS.out b6.size)
    replace HG := Lib.hid (HG.out.kept b6)
    clear b6
    clear g0 g1 g2 g3 g4 g5 y0 y1 y2 y3 y4 y5
    have p0 := cell_inB HP0.out.1 N0.out
    have p1 := cell_inB HP0.out.2 N0.out
    obtain ⟨x0, x1⟩ := HXB.out
    go_wp2_with fail
    refine wp_region_noPanic ?_
    refine wp_region_held_drew (S := (fun w' => ((w'.cell? ⟨w.heap.size, 0, none⟩ = some (.int .i64 c) ∧ w'.cell? ⟨w.heap.size, 1, none⟩ = some (.slice a ll.length cap)) ∧ w'.cell? ⟨w4.heap.size, 0, none⟩ = some (.int .i64 c) ∧ w'.cell? ⟨w4.heap.size, 1, none⟩ = some (.slice ax ll.length kx)) ∧ Below w6.heap.size w6 w')) (by kernel_rfl) ?_ (fun hHeld => ?_)
    · ((try dsimp only); (first | exact keepTD hHeld b92 | exact keepTD hHeld b91 | exact ⟨⟨⟨p0, p1⟩, x0, x1⟩, (Below.refl _ _).drew⟩))
    refine wpAnyH_take (i := 0) (v := ?_) rfl (by kernel_rfl) (by kernel_rfl) (by kernel_rfl) (fun _ _ _ h => h) (Or.inl ⟨by rfl, ?_⟩) (by assumption) ?_
    rotate_left
    · (intro w hSw; (try dsimp only at hSw); go_simp; (try with_reducible rfl))
    (try simp only [Act.put, List.getElem_toArray, List.getElem_cons_zero, List.setIfInBounds_toArray, List.set_cons_zero, List.set_cons_succ])
    refine wpAnyH_take (i := 1) (v := ?_) rfl (by kernel_rfl) (by kernel_rfl) (by kernel_rfl) (fun _ _ _ h => h) (Or.inl ⟨by rfl, ?_⟩) (by assumption) ?_
    rotate_left
    · (intro w hSw; (try dsimp only at hSw); go_simp; (try with_reducible rfl))
    (try simp only [Act.put, List.getElem_toArray, List.getElem_cons_succ, List.getElem_cons_zero, List.setIfInBounds_toArray, List.set_cons_zero, List.set_cons_succ])
    refine wpAnyH_ready (rs := [2]) (by kernel_rfl) (by simp) (AllReadyH.cons rfl (fun K hK => ?_) AllReadyH.nil)
    (first | ((first | (go_at_call 11; refine (HTO.out _ ((HB0.out.trans (N0.out.mono HB0.out.size)).trans (hHeld.2.mono (HB0.out.trans (N0.out.mono HB0.out.size)).size))).mono ?_; rintro e w91 ⟨u9, rfl, ou9, b91⟩; have HR9 := Lib.hid ou9.read; clear ou9; obtain ⟨au9, capu9, rfl, -⟩ := HR9.out) | (go_at_call 14; refine (HET.out _ _ _ (HX.out.read.kept hHeld.2) HR9.out).mono ?_; rintro e w92 ⟨rfl, b92⟩))) | (go_simp; (first | (go_at_call 11; refine (HTO.out _ ((HB0.out.trans (N0.out.mono HB0.out.size)).trans (hHeld.2.mono (HB0.out.trans (N0.out.mono HB0.out.size)).size))).mono ?_; rintro e w91 ⟨u9, rfl, ou9, b91⟩; have HR9 := Lib.hid ou9.read; clear ou9; obtain ⟨au9, capu9, rfl, -⟩ := HR9.out) | (go_at_call 14; refine (HET.out _ _ _ (HX.out.read.kept hHeld.2) HR9.out).mono ?_; rintro e w92 ⟨rfl, b92⟩))))
    (try (go_wp2_with fail))
    refine hK.out _ _ ?_ (fun hHeld => ?_)
    · ((try dsimp only); (first | exact keepTD hHeld b92 | exact keepTD hHeld b91 | exact ⟨⟨⟨p0, p1⟩, x0, x1⟩, (Below.refl _ _).drew⟩))
    clear hK K
    (try simp only [Act.put, List.getElem_toArray, List.getElem_cons_succ, List.getElem_cons_zero, List.setIfInBounds_toArray, List.set_cons_zero, List.set_cons_succ])
    refine wpAnyH_ready (rs := [3]) (by kernel_rfl) (by simp) (AllReadyH.cons rfl (fun K hK => ?_) AllReadyH.nil)
    (first | ((first | (go_at_call 11; refine (HTO.out _ ((HB0.out.trans (N0.out.mono HB0.out.size)).trans (hHeld.2.mono (HB0.out.trans (N0.out.mono HB0.out.size)).size))).mono ?_; rintro e w91 ⟨u9, rfl, ou9, b91⟩; have HR9 := Lib.hid ou9.read; clear ou9; obtain ⟨au9, capu9, rfl, -⟩ := HR9.out) | (go_at_call 14; refine (HET.out _ _ _ (HX.out.read.kept hHeld.2) HR9.out).mono ?_; rintro e w92 ⟨rfl, b92⟩))) | (go_simp; (first | (go_at_call 11; refine (HTO.out _ ((HB0.out.trans (N0.out.mono HB0.out.size)).trans (hHeld.2.mono (HB0.out.trans (N0.out.mono HB0.out.size)).size))).mono ?_; rintro e w91 ⟨u9, rfl, ou9, b91⟩; have HR9 := Lib.hid ou9.read; clear ou9; obtain ⟨au9, capu9, rfl, -⟩ := HR9.out) | (go_at_call 14; refine (HET.out _ _ _ (HX.out.read.kept hHeld.2) HR9.out).mono ?_; rintro e w92 ⟨rfl, b92⟩))))
    (try (go_wp2_with fail))
    refine hK.out _ _ ?_ (fun hHeld => ?_)
    · ((try dsimp only); (first | exact keepTD hHeld b92 | exact keepTD hHeld b91 | exact ⟨⟨⟨p0, p1⟩, x0, x1⟩, (Below.refl _ _).drew⟩))
    clear hK K
    (try simp only [Act.put, List.getElem_toArray, List.getElem_cons_succ, List.getElem_cons_zero, List.setIfInBounds_toArray, List.set_cons_zero, List.set_cons_succ])
    refine wpAnyH_take (i := 4) (v := ?_) rfl (by kernel_rfl) (by kernel_rfl) (by kernel_rfl) (fun _ _ _ h => h) (Or.inl ⟨by rfl, ?_⟩) (by assumption) ?_
    rotate_left
    · (intro w hSw; (try dsimp only at hSw); go_simp; (try with_reducible rfl))
    (try simp only [Act.put, List.getElem_toArray, List.getElem_cons_succ, List.getElem_cons_zero, List.setIfInBounds_toArray, List.set_cons_zero, List.set_cons_succ])
    refine wpAnyH_done (by kernel_rfl) ?_ _
    refine NoPanic.normal ?_
    have b7 := hHeld.2
    obtain ⟨w7, hw7⟩ : ∃ w7, w7 = w92 := ⟨_, rfl⟩
    rw [← hw7] at b7 ⊢
    replace N0 := Lib.hid (N0.out.trans (b7.mono N0.out.size))
    replace N3 := Lib.hid (N3.out.trans (b7.mono N3.out.size))
    replace HX := Lib.hid (HX.out.same (Below.keeps b7 HXS.out))
    replace HXB := Lib.hid (And.intro (cell_inB HXB.out.1 b7) (cell_inB HXB.out.2 b7))
    replace HXS := Lib.hid (Nat.le_trans HXS.out b7.size)
    replace HG := Lib.hid (HG.out.kept b7)
    clear b7 hHeld b92 hw7
    clear p0 p1 x0 x1
    obtain ⟨x0, x1⟩ := HXB.out
    go_wp2_with fail
    refine (markTable_any c _ ll 1 _ _ _ HX.out HXS.out HMX.out.1 HMX.out.2.1 (by omega) (by omega)).mono ?_
    rintro e w8 ⟨rfl, -, m8⟩
    replace HG := Lib.hid (HG.out.mid m8 (.inl (Nat.le_of_lt HXL.out)))
    replace N3 := Lib.hid (N3.out.trans (m8.below (Nat.le_refl _) N3.out.size))
    replace N0 := Lib.hid (N0.out.trans (m8.below HN03.out N0.out.size))
    clear HX HXB HXS m8 x0 x1
    obtain ⟨⟨g0, g1⟩, ⟨g2, g3⟩, g4, g5⟩ := HG.out.bx
    obtain ⟨⟨y0, y1⟩, ⟨y2, y3⟩, y4, y5⟩ := (HY.out.kept N3.out).bx
    go_wp2_with fail
    refine (HER.out _ _ _ _ _ HG.out.ss.read (HY.out.kept N3.out).rs HG.out.dr.read (HY.out.kept N3.out).rd).mono ?_
    rintro e w9 ⟨rfl, b9⟩
    replace N0 := Lib.hid (N0.out.trans (b9.mono N0.out.size))
    replace N3 := Lib.hid (N3.out.trans (b9.mono N3.out.size))
    replace HG := Lib.hid (HG.out.kept b9)
    clear b9
    clear g0 g1 g2 g3 g4 g5 y0 y1 y2 y3 y4 y5
    obtain ⟨⟨g0, g1⟩, ⟨g2, g3⟩, g4, g5⟩ := HG.out.bx
    go_wp2_with fail
    refine (HG.out.mark HM.out.1 HM.out.2.1 HM.out.2.2).mono ?_
    rintro e w10 ⟨rfl, m10, hg10⟩
    have HGM := Lib.hid hg10
    replace N3 := Lib.hid (N3.out.trans (m10.below HN35.out N3.out.size))
    replace N0 := Lib.hid (N0.out.trans (m10.below HN05.out N0.out.size))
    clear HG m10 hg10
    have HG := HGM
    clear HGM
    clear g0 g1 g2 g3 g4 g5
    obtain ⟨⟨g0, g1⟩, ⟨g2, g3⟩, g4, g5⟩ := HG.out.bx
    go_wp2_with fail
    refine (HG.out.held HM.out.1 HM.out.2.1 HM.out.2.2).mono ?_
    rintro e w11 ⟨rfl, b11⟩
    replace N0 := Lib.hid (N0.out.trans (b11.mono N0.out.size))
    replace N3 := Lib.hid (N3.out.trans (b11.mono N3.out.size))
    replace HG := Lib.hid (HG.out.kept b11)
    clear b11
    clear g0 g1 g2 g3 g4 g5
    have p0 := cell_inB HP0.out.1 N0.out
    have p1 := cell_inB HP0.out.2 N0.out
    go_wp2_with fail
    refine (HTO.out _ (HB0.out.trans (N0.out.mono HB0.out.size))).mono ?_
    rintro e w12 ⟨un, rfl, ou, b12⟩
    have RU := Lib.hid ou.read
    obtain ⟨an, kn, rfl, -⟩ := ou.read
    replace N0 := Lib.hid (N0.out.trans (b12.mono N0.out.size))
    replace N3 := Lib.hid (N3.out.trans (b12.mono N3.out.size))
    replace HG := Lib.hid (HG.out.kept b12)
    clear b12 ou p0 p1
    go_wp2_with fail
    refine (HI.out _ _ RU.out).mono ?_
    rintro e w13 ⟨uh, gh, Ch, rfl, ou, og, hc1, hc2, b13⟩
    obtain ⟨ah, kh, rfl, -⟩ := ou.read
    obtain ⟨eh, jh, rfl⟩ := og.shape
    have HH := Lib.hid (Fz.laid (c := qC) (m := qM) (at_ := 0) (t := 0) ou.read og.read)
    replace N0 := Lib.hid (N0.out.trans (b13.mono N0.out.size))
    replace N3 := Lib.hid (N3.out.trans (b13.mono N3.out.size))
    replace HG := Lib.hid (HG.out.kept b13)
    have hal := (Below.refl w13.heap.size w13).alloc (Nat.le_refl _) (.cells #[.int .i64 qC, .slice ah qL.length kh, .int .i64 qM, .int .i64 0, .slice eh 0 jh, .int .i64 0] 29)
    replace N0 := Lib.hid (N0.out.trans (hal.mono N0.out.size))
    replace N3 := Lib.hid (N3.out.trans (hal.mono N3.out.size))
    replace HG := Lib.hid (HG.out.kept hal)
    unfold srcV
    clear b13 hal ou og hc1 hc2
    clear RU
    obtain ⟨⟨h0, h1⟩, ⟨h2, h3⟩, h4, h5⟩ := HH.out.bx
    obtain ⟨⟨y0, y1⟩, ⟨y2, y3⟩, y4, y5⟩ := (HY.out.kept N3.out).bx
    go_wp2_with fail
    refine (HER.out _ _ _ _ _ HH.out.rs (HY.out.kept N3.out).rs HH.out.rd (HY.out.kept N3.out).rd).mono ?_
    rintro e w14 ⟨rfl, b14⟩
    replace N0 := Lib.hid (N0.out.trans (b14.mono N0.out.size))
    replace N3 := Lib.hid (N3.out.trans (b14.mono N3.out.size))
    replace HG := Lib.hid (HG.out.kept b14)
    clear b14
    clear h0 h1 h2 h3 h4 h5 y0 y1 y2 y3 y4 y5
    obtain ⟨⟨g0, g1⟩, ⟨g2, g3⟩, g4, g5⟩ := HG.out.bx
    go_wp2_with fail
    refine (HG.out.held HM.out.1 HM.out.2.1 HM.out.2.2).mono ?_
    rintro e w15 ⟨rfl, b15⟩
    replace N0 := Lib.hid (N0.out.trans (b15.mono N0.out.size))
    replace N3 := Lib.hid (N3.out.trans (b15.mono N3.out.size))
    replace HG := Lib.hid (HG.out.kept b15)
    clear b15
    clear g0 g1 g2 g3 g4 g5
    have hb9 := HB0.out.trans (N0.out.mono HB0.out.size)
    go_wp2_with fail
    go_ret
    exact ⟨rfl, hb9⟩
  · rw [szD_no (by omega)] at HZ
    obtain ⟨a, cap, rfl, -⟩ := hr
    obtain ⟨c0, c1⟩ := HP0.out
    go_enter Try.func3, Try.ntmps3
    go_wp2_with fail
    refine (HZ.out _ HB0.out).mono ?_
    rintro e w1 ⟨rfl, b1⟩
    have hb := HB0.out.trans (b1.mono HB0.out.size)
    go_wp2_with fail
    go_ret
    exact ⟨rfl, hb⟩

set_option linter.unusedVariables false
set_option maxRecDepth 100000 in
theorem lifted (os : Os) (started : os.Started) (H : Type) (enc : TypeId × Value → H) :
    ReturnsInHanded {} Try.checked os 3 .any (Rows.fnExactNewSearchSpec.pre6 enc Try.prog Try.f3 Rows.fnExactNewSearchRow.domain false) (Rows.fnExactNewSearchSpec.post enc Try.prog Try.f3 false true false false) := by
  refine returnsInHanded_of_change (C := Try.checked) own started (by kernel_rfl) Try.func3
    (ChangeSpec.witness6 (enc := enc) (C := Try.checked) false ⟨#[], #[.agg #[.int .i64 0, .slice none 0 0], .int .i64 0], []⟩ 8 (by kernel_rfl) (by kernel_rfl) (by kernel_rfl) (by kernel_rfl)) ?_
  intro W base args ds gs before hval0 hW hcnd _
  have hval : ∀ (j : Nat) t v, Try.f3.params[j]? = some t → args[j]? = some v → Value.okWide Try.prog W .any base t v := hval0
  have hW' := hW
  obtain ⟨p, q, hA0, hV, rfl, hfz, hnd⟩ := hW
  have hA : DataW.TrodAll enc Try.prog W 0 (fun _ => true) true Try.f3.params.toList args.toList ds p := hA0
  rw [Try.params3] at hA hval
  obtain ⟨v0, vs0, d0, ds0, p0, q0, hargs, rfl, rfl, h0, r0⟩ := trodAll_cons hA
  obtain ⟨v1, vs1, d1, ds1, p1, q1, rfl, rfl, rfl, h1, r1⟩ := trodAll_cons r0
  obtain ⟨rfl, rfl, rfl⟩ := trodAll_nil r1
  obtain rfl : args = #[v0, v1] := by cases args; simp_all
  obtain ⟨rfl, rfl⟩ := trodVars_none hV
  have k0 := h0
  have lt0 : ∀ x ∈ p0, x.block < W.heap.size := by obtain ⟨m, hm⟩ := k0; exact DataW.trod_lt m _ _ _ hm
  obtain ⟨c0, u0, ll0, rfl, w0, r0r, s0⟩ := open_table (hval 0 24 v0 rfl rfl) k0
  obtain ⟨a1, rfl, rfl, rfl, w1⟩ := open_int Try.underlying3 (hval 1 3 v1 rfl rfl) h1
  clear hA0 hval0
  refine (walk c0 u0 ll0 a1 w0 w1 W r0r s0).mono fun e W' ⟨he, hg⟩ => ?_
  subst he
  exact ⟨_, rfl, ⟨_, _, _, [], _, [], hW', trodAll_cons_mk (shut_bool Try.underlying4 _) trodAll_mk0, (trodAll_cons_mk (Below.trod laidOut (by kernel_rfl) (of_decide_eq_true (by kernel_rfl)) k0 hg lt0) (trodAll_cons_mk (shut_int Try.underlying3 w1) trodAll_mk0)), rfl, hg.frame _, fun h => by cases h⟩⟩

theorem over : Rows.fnExactNewSearchRow.holds Try.pinned (OpenSpec.ofChange Rows.fnExactNewSearchSpec) :=
  OpenClaim.holds_of_wide 3 Try.f3 rfl rfl rfl rfl rfl rfl rfl ⟨rfl, rfl, rfl, rfl, rfl⟩ rfl rfl rfl rfl rfl (by kernel_rfl) Try.func3 (by kernel_rfl)
    (of_decide_eq_true (by kernel_rfl)) (by unfold Func.isWrapper; first | (rw [if_pos (by decide +kernel)]; kernel_rfl) | (rw [if_neg (by decide +kernel)]; exact ⟨rfl, rfl⟩))
    (fun os started H enc _ => lifted os started H enc)

theorem proved : Rows.FnExactNewSearchSaid := over
end Go.Proofs.Ytigecfbmdbpbhaa.lawFnExactNewSearch
