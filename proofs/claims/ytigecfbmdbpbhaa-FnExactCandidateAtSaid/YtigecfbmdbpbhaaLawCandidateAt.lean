/- CandidateAt answers as its model at every argument; it writes into no argument; its answer owns its memory. Conditions: none beyond the row's own. -/
import Derived.Test.YtigecfbmdbpbhaaSa28
import Derived.Test.YtigecfbmdbpbhaaSa22
import Derived.Test.YtigecfbmdbpbhaaSa23
import Derived.Test.YtigecfbmdbpbhaaSmEm
namespace Go.Proofs.Ytigecfbmdbpbhaa.lawFnExactCandidateAt
open Go.ChangeShapes Go.WideShapes Go.ChangeAt Go.RowKit
theorem laidOut : laidOutB Try.prog = true := by kernel_rfl

theorem own : ownKnob Try.prog.godebug = none := by kernel_rfl

set_option maxRecDepth 40000 in
set_option maxHeartbeats 3200000 in
theorem walk (c : Int) (v : Value) (m at_ : Int) (f : Value) (t : Int) (ll : List (List Int)) (F : List (Int × Int)) (w : World) (hr : ReadSS w v ll) (hs : Short ll) (hf : ReadD w f F) (hm : F.length ≤ maxLen) :
    Calls Try.prog 5 #[srcV c v m at_ f t] w fun e w' => e = .returned (.bool true) ∧ Below w.heap.size w w' := by
  unfold maxLen at hm
  have HZ := Lib.hid (fun w' (hb : Below w.heap.size w w') => szSearch_any c m at_ t v f ll F w' (hr.kept hb) hs (hf.kept hb) (by omega))
  have HB0 := Lib.hid ((Below.refl w.heap.size w).alloc (Nat.le_refl _) (.cells #[.int .i64 c, v, .int .i64 m, .int .i64 at_, f, .int .i64 t] 40))
  have HP0 := Lib.hid (SBx.mk' w 40 c v m at_ f t)
  by_cases hsz : ((szOf ll : Nat) : Int) + (F.length : Int) ≤ 1048576
  · have hsz2 := hsz
    rw [show szD2 (szOf ll) F.length = 1048576 - (szOf ll : Int) - (F.length : Int) by unfold szD2; rw [if_pos hsz]] at HZ
    have hneg : ¬ (1048576 - ((szOf ll : Nat) : Int) - (F.length : Int) < 0) := by omega
    have hl : ll.length ≤ 1048576 := by unfold szOf at hsz2; omega
    have ht : ∀ i, i < ll.length → (ll.getD i []).length ≤ 1048576 := fun i hi => by have := tot_get hi; unfold szOf at hsz2; omega
    have hF : F.length ≤ 1048576 := by omega
    have HTO := Lib.hid (fun w' (hb : Below w.heap.size w w') => toSearch_any c m at_ t v f ll F w' (hr.kept hb) hl ht (hf.kept hb) hF)
    have HEQ := Lib.hid (fun (u u' g g' : Value) w' (h1 : ReadSS w' u ll) (h2 : ReadSS w' u' ll) (h3 : ReadD w' g F) (h4 : ReadD w' g' F) => eqSearch_same c m at_ t u u' g g' ll F w' h1 h2 (by omega) (fun i hi => Nat.le_trans (ht i hi) (by decide)) h3 h4 hF)
    have HS := Lib.hid (fun (u g : Value) w' (h1 : ReadSS w' u ll) (h2 : ReadD w' g F) => candidateAt8_any c m at_ t u g ll F w' h1 hl ht h2 hF)
    have HI := Lib.hid (fun (u g : Value) w' (h1 : ReadSS w' u ll) (h2 : ReadD w' g F) => implCandidateAt_any c m at_ t u g ll F w' h1 hl ht h2 hF)
    obtain ⟨bb, hbb⟩ : ∃ bb, bb = nxB c ll m at_ F t := ⟨_, rfl⟩
    obtain ⟨⟨q0, q1⟩, hq⟩ : ∃ q, q = nxD c ll m at_ F t := ⟨_, rfl⟩
    rw [← hbb, ← hq] at HS HI
    have hbn : (bb != bb) = false := bne_self_eq_false _
    have HED := Lib.hid (fun w' => eqDep_any q0 q1 q0 q1 w')
    rw [decide_eq_true rfl, decide_eq_true rfl] at HED
    clear hbb hq
    obtain ⟨a, cap, rfl, -⟩ := hr
    obtain ⟨af, capf, rfl, -⟩ := hf
    obtain ⟨⟨c0, c1⟩, ⟨c2, c3⟩, c4, c5⟩ := HP0.out
    unfold srcV at *
    clear ht hs hm hsz hsz2
    go_enter Try.func5, Try.ntmps5
    go_wp2_with fail
    refine (HZ.out _ HB0.out).mono ?_
    rintro e w1 ⟨rfl, b1⟩
    have HB1 := Lib.hid (HB0.out.trans (b1.mono HB0.out.size))
    have HP1 := Lib.hid (HP0.out.kept b1)
    clear b1 c0 c1 c2 c3 c4 c5 HP0 HZ
    obtain ⟨⟨c0, c1⟩, ⟨c2, c3⟩, c4, c5⟩ := HP1.out
    go_wp2_with fail
    refine (HTO.out _ HB1.out).mono ?_
    rintro e w2 ⟨u0, g0, C0, rfl, ou, og, -, -, b2⟩
    have HB2 := Lib.hid (HB1.out.trans (b2.mono HB1.out.size))
    have HP2 := Lib.hid (HP1.out.kept b2)
    have HR2 := Lib.hid (And.intro ou.read og.read)
    clear b2 c0 c1 c2 c3 c4 c5 HP1 ou og
    obtain ⟨ax, cx, rfl, -⟩ := HR2.out.1
    obtain ⟨ay, cy, rfl, -⟩ := HR2.out.2
    obtain ⟨⟨c0, c1⟩, ⟨c2, c3⟩, c4, c5⟩ := HP2.out
    unfold srcV
    go_wp2_with fail
    refine (HS.out _ _ _ HR2.out.1 HR2.out.2).mono ?_
    rintro e w3 ⟨rfl, b3⟩
    have HB3 := Lib.hid (HB2.out.trans (b3.mono HB2.out.size))
    have HP3 := Lib.hid (HP2.out.kept b3)
    clear b3 c0 c1 c2 c3 c4 c5 HP2 HR2
    have hal3 := (Below.refl w3.heap.size w3).alloc (Nat.le_refl _) (.cells #[.int .i64 q0, .int .i64 q1] 46)
    replace HB3 := Lib.hid (HB3.out.trans (hal3.mono HB3.out.size))
    replace HP3 := Lib.hid (HP3.out.kept hal3)
    obtain ⟨e0, e1⟩ := zero2 w3 46 (.int .i64 q0) (.int .i64 q1)
    have HE3 := Lib.hid (And.intro e0 e1)
    clear hal3 e0 e1
    obtain ⟨⟨c0, c1⟩, ⟨c2, c3⟩, c4, c5⟩ := HP3.out
    go_wp2_with fail
    refine (HTO.out _ HB3.out).mono ?_
    rintro e w4 ⟨u0, g0, C0, rfl, ou, og, -, -, b4⟩
    obtain ⟨au0, cu0, rfl, -⟩ := ou.read
    obtain ⟨ag0, cg0, rfl⟩ := og.shape
    have hal := (Below.refl w4.heap.size w4).alloc (Nat.le_refl _) (.cells #[.int .i64 c, .slice au0 ll.length cu0, .int .i64 m, .int .i64 at_, .slice ag0 F.length cg0, .int .i64 t] 29)
    have hb4 := HB3.out.trans (b4.mono HB3.out.size)
    have HB4 := Lib.hid (hb4.trans (hal.mono hb4.size))
    have HP4 := Lib.hid ((HP3.out.kept b4).kept hal)
    have HX4 := Lib.hid (SBx.mk' w4 29 c (.slice au0 ll.length cu0) m at_ (.slice ag0 F.length cg0) t)
    have HR4 := Lib.hid (And.intro (ou.read.kept hal) (og.read.kept hal))
    have HE4 := Lib.hid (And.intro (cell_in (cell_in HE3.out.1 b4) hal) (cell_in (cell_in HE3.out.2 b4) hal))
    clear HE3
    clear b4 hal hb4 c0 c1 c2 c3 c4 c5 HP3 ou og
    obtain ⟨⟨c0, c1⟩, ⟨c2, c3⟩, c4, c5⟩ := HP4.out
    obtain ⟨⟨d0, d1⟩, ⟨d2, d3⟩, d4, d5⟩ := HX4.out
    unfold srcV
    go_wp2_with fail
    refine (HI.out _ _ _ HR4.out.1 HR4.out.2).mono ?_
    rintro e w5 ⟨rfl, b5⟩
    have hal5 := (Below.refl w5.heap.size w5).alloc (Nat.le_refl _) (.cells #[.int .i64 q0, .int .i64 q1] 46)
    have hb5 := HB4.out.trans (b5.mono HB4.out.size)
    have HB5 := Lib.hid (hb5.trans (hal5.mono hb5.size))
    have HP5 := Lib.hid ((HP4.out.kept b5).kept hal5)
    have HX5 := Lib.hid ((HX4.out.kept b5).kept hal5)
    have HR5 := Lib.hid (And.intro ((HR4.out.1.kept b5).kept hal5) ((HR4.out.2.kept b5).kept hal5))
    have e0 := cell_in (cell_in HE4.out.1 b5) hal5
    have e1 := cell_in (cell_in HE4.out.2 b5) hal5
    obtain ⟨f0, f1⟩ := zero2 w5 46 (.int .i64 q0) (.int .i64 q1)
    clear b5 hal5 hb5 c0 c1 c2 c3 c4 c5 d0 d1 d2 d3 d4 d5 HP4 HX4 HR4
    obtain ⟨⟨c0, c1⟩, ⟨c2, c3⟩, c4, c5⟩ := HP5.out
    obtain ⟨⟨d0, d1⟩, ⟨d2, d3⟩, d4, d5⟩ := HX5.out
    go_wp2_with fail
    refine (HED.out _).mono ?_
    rintro e w6 ⟨rfl, b6⟩
    have HBN := Lib.hid (HB5.out.trans (b6.mono HB5.out.size))
    have HP6 := Lib.hid (HP5.out.kept b6)
    have HX6 := Lib.hid (HX5.out.kept b6)
    have RX := Lib.hid (And.intro (HR5.out.1.kept b6) (HR5.out.2.kept b6))
    clear b6 c0 c1 c2 c3 c4 c5 d0 d1 d2 d3 d4 d5 e0 e1 f0 f1
    obtain ⟨⟨c0, c1⟩, ⟨c2, c3⟩, c4, c5⟩ := HP6.out
    obtain ⟨⟨d0, d1⟩, ⟨d2, d3⟩, d4, d5⟩ := HX6.out
    go_wp2_with fail
    refine wp_region_noPanic ?_
    refine wp_region_held_drew (S := (fun w' => (((w'.cell? ⟨w.heap.size, 0, none⟩ = some (.int .i64 c) ∧ w'.cell? ⟨w.heap.size, 1, none⟩ = some (.slice a ll.length cap)) ∧ (w'.cell? ⟨w.heap.size, 2, none⟩ = some (.int .i64 m) ∧ w'.cell? ⟨w.heap.size, 3, none⟩ = some (.int .i64 at_)) ∧ w'.cell? ⟨w.heap.size, 4, none⟩ = some (.slice af F.length capf) ∧ w'.cell? ⟨w.heap.size, 5, none⟩ = some (.int .i64 t)) ∧ ((w'.cell? ⟨w4.heap.size, 0, none⟩ = some (.int .i64 c) ∧ w'.cell? ⟨w4.heap.size, 1, none⟩ = some (.slice au0 ll.length cu0)) ∧ (w'.cell? ⟨w4.heap.size, 2, none⟩ = some (.int .i64 m) ∧ w'.cell? ⟨w4.heap.size, 3, none⟩ = some (.int .i64 at_)) ∧ w'.cell? ⟨w4.heap.size, 4, none⟩ = some (.slice ag0 F.length cg0) ∧ w'.cell? ⟨w4.heap.size, 5, none⟩ = some (.int .i64 t))) ∧ Below w6.heap.size w6 w')) (by kernel_rfl) ?_ (fun hHeld => ?_)
    · ((try dsimp only); (first | exact keepS2 hHeld b92 | exact keepS2 hHeld b91 | exact ⟨⟨⟨⟨c0, c1⟩, ⟨c2, c3⟩, c4, c5⟩, ⟨d0, d1⟩, ⟨d2, d3⟩, d4, d5⟩, (Below.refl _ _).drew⟩))
    refine wpAnyH_take (i := 0) (v := ?_) rfl (by kernel_rfl) (by kernel_rfl) (by kernel_rfl) (fun _ _ _ h => h) (Or.inl ⟨by rfl, ?_⟩) (by assumption) ?_
    rotate_left
    · (intro w hSw; (try dsimp only at hSw); go_simp; (try with_reducible rfl))
    (try simp only [Act.put, List.getElem_toArray, List.getElem_cons_zero, List.setIfInBounds_toArray, List.set_cons_zero, List.set_cons_succ])
    refine wpAnyH_take (i := 1) (v := ?_) rfl (by kernel_rfl) (by kernel_rfl) (by kernel_rfl) (fun _ _ _ h => h) (Or.inl ⟨by rfl, ?_⟩) (by assumption) ?_
    rotate_left
    · (intro w hSw; (try dsimp only at hSw); go_simp; (try with_reducible rfl))
    (try simp only [Act.put, List.getElem_toArray, List.getElem_cons_succ, List.getElem_cons_zero, List.setIfInBounds_toArray, List.set_cons_zero, List.set_cons_succ])
    refine wpAnyH_ready (rs := [2]) (by kernel_rfl) (by simp) (AllReadyH.cons rfl (fun K hK => ?_) AllReadyH.nil)
    (first | ((first | (go_at_call 20; refine (HTO.out _ (HBN.out.trans (hHeld.2.mono HBN.out.size))).mono ?_; rintro e w91 ⟨u9, g9, C9, rfl, ou9, og9, -, -, b91⟩; have HR9 := Lib.hid (And.intro ou9.read og9.read); clear ou9 og9; obtain ⟨au9, capu9, rfl, -⟩ := HR9.out.1; obtain ⟨ag9, capg9, rfl, -⟩ := HR9.out.2; unfold srcV) | (go_at_call 13; refine (HEQ.out _ _ _ _ _ (RX.out.1.kept hHeld.2) HR9.out.1 (RX.out.2.kept hHeld.2) HR9.out.2).mono ?_; rintro e w92 ⟨rfl, b92⟩))) | (go_simp; (first | (go_at_call 20; refine (HTO.out _ (HBN.out.trans (hHeld.2.mono HBN.out.size))).mono ?_; rintro e w91 ⟨u9, g9, C9, rfl, ou9, og9, -, -, b91⟩; have HR9 := Lib.hid (And.intro ou9.read og9.read); clear ou9 og9; obtain ⟨au9, capu9, rfl, -⟩ := HR9.out.1; obtain ⟨ag9, capg9, rfl, -⟩ := HR9.out.2; unfold srcV) | (go_at_call 13; refine (HEQ.out _ _ _ _ _ (RX.out.1.kept hHeld.2) HR9.out.1 (RX.out.2.kept hHeld.2) HR9.out.2).mono ?_; rintro e w92 ⟨rfl, b92⟩))))
    (try (go_wp2_with fail))
    refine hK.out _ _ ?_ (fun hHeld => ?_)
    · ((try dsimp only); (first | exact keepS2 hHeld b92 | exact keepS2 hHeld b91 | exact ⟨⟨⟨⟨c0, c1⟩, ⟨c2, c3⟩, c4, c5⟩, ⟨d0, d1⟩, ⟨d2, d3⟩, d4, d5⟩, (Below.refl _ _).drew⟩))
    clear hK K
    (try simp only [Act.put, List.getElem_toArray, List.getElem_cons_succ, List.getElem_cons_zero, List.setIfInBounds_toArray, List.set_cons_zero, List.set_cons_succ])
    refine wpAnyH_ready (rs := [3]) (by kernel_rfl) (by simp) (AllReadyH.cons rfl (fun K hK => ?_) AllReadyH.nil)
    (first | ((first | (go_at_call 20; refine (HTO.out _ (HBN.out.trans (hHeld.2.mono HBN.out.size))).mono ?_; rintro e w91 ⟨u9, g9, C9, rfl, ou9, og9, -, -, b91⟩; have HR9 := Lib.hid (And.intro ou9.read og9.read); clear ou9 og9; obtain ⟨au9, capu9, rfl, -⟩ := HR9.out.1; obtain ⟨ag9, capg9, rfl, -⟩ := HR9.out.2; unfold srcV) | (go_at_call 13; refine (HEQ.out _ _ _ _ _ (RX.out.1.kept hHeld.2) HR9.out.1 (RX.out.2.kept hHeld.2) HR9.out.2).mono ?_; rintro e w92 ⟨rfl, b92⟩))) | (go_simp; (first | (go_at_call 20; refine (HTO.out _ (HBN.out.trans (hHeld.2.mono HBN.out.size))).mono ?_; rintro e w91 ⟨u9, g9, C9, rfl, ou9, og9, -, -, b91⟩; have HR9 := Lib.hid (And.intro ou9.read og9.read); clear ou9 og9; obtain ⟨au9, capu9, rfl, -⟩ := HR9.out.1; obtain ⟨ag9, capg9, rfl, -⟩ := HR9.out.2; unfold srcV) | (go_at_call 13; refine (HEQ.out _ _ _ _ _ (RX.out.1.kept hHeld.2) HR9.out.1 (RX.out.2.kept hHeld.2) HR9.out.2).mono ?_; rintro e w92 ⟨rfl, b92⟩))))
    (try (go_wp2_with fail))
    refine hK.out _ _ ?_ (fun hHeld => ?_)
    · ((try dsimp only); (first | exact keepS2 hHeld b92 | exact keepS2 hHeld b91 | exact ⟨⟨⟨⟨c0, c1⟩, ⟨c2, c3⟩, c4, c5⟩, ⟨d0, d1⟩, ⟨d2, d3⟩, d4, d5⟩, (Below.refl _ _).drew⟩))
    clear hK K
    (try simp only [Act.put, List.getElem_toArray, List.getElem_cons_succ, List.getElem_cons_zero, List.setIfInBounds_toArray, List.set_cons_zero, List.set_cons_succ])
    refine wpAnyH_take (i := 4) (v := ?_) rfl (by kernel_rfl) (by kernel_rfl) (by kernel_rfl) (fun _ _ _ h => h) (Or.inl ⟨by rfl, ?_⟩) (by assumption) ?_
    rotate_left
    · (intro w hSw; (try dsimp only at hSw); go_simp; (try with_reducible rfl))
    (try simp only [Act.put, List.getElem_toArray, List.getElem_cons_succ, List.getElem_cons_zero, List.setIfInBounds_toArray, List.set_cons_zero, List.set_cons_succ])
    refine wpAnyH_done (by kernel_rfl) ?_ _
    refine NoPanic.normal ?_
    have hb9 := HBN.out.trans (hHeld.2.mono HBN.out.size)
    go_wp2_with fail
    go_ret
    exact ⟨rfl, hb9⟩
  · rw [show szD2 (szOf ll) F.length = -1 by unfold szD2; rw [if_neg hsz]] at HZ
    obtain ⟨a, cap, rfl, -⟩ := hr
    obtain ⟨af, capf, rfl, -⟩ := hf
    obtain ⟨⟨c0, c1⟩, ⟨c2, c3⟩, c4, c5⟩ := HP0.out
    unfold srcV at *
    go_enter Try.func5, Try.ntmps5
    go_wp2_with fail
    refine (HZ.out _ HB0.out).mono ?_
    rintro e w1 ⟨rfl, b1⟩
    have hb := HB0.out.trans (b1.mono HB0.out.size)
    go_wp2_with fail
    go_ret
    exact ⟨rfl, hb⟩

set_option linter.unusedVariables false
set_option maxRecDepth 100000 in
theorem lifted (os : Os) (started : os.Started) (H : Type) (enc : TypeId × Value → H) :
    ReturnsInHanded {} Try.checked os 5 .any (Rows.fnExactCandidateAtSpec.pre6 enc Try.prog Try.f5 Rows.fnExactCandidateAtRow.domain false) (Rows.fnExactCandidateAtSpec.post enc Try.prog Try.f5 false true false false) := by
  refine returnsInHanded_of_change (C := Try.checked) own started (by kernel_rfl) Try.func5
    (ChangeSpec.witness6 (enc := enc) (C := Try.checked) false ⟨#[], #[.agg #[.int .i64 0, .slice none 0 0, .int .i64 0, .int .i64 0, .slice none 0 0, .int .i64 0]], []⟩ 8 (by kernel_rfl) (by kernel_rfl) (by kernel_rfl) (by kernel_rfl)) ?_
  intro W base args ds gs before hval0 hW hcnd _
  have hval : ∀ (j : Nat) t v, Try.f5.params[j]? = some t → args[j]? = some v → Value.okWide Try.prog W .any base t v := hval0
  have hW' := hW
  obtain ⟨p, q, hA0, hV, rfl, hfz, hnd⟩ := hW
  have hA : DataW.TrodAll enc Try.prog W 0 (fun _ => true) true Try.f5.params.toList args.toList ds p := hA0
  rw [Try.params5] at hA hval
  obtain ⟨v0, vs0, d0, ds0, p0, q0, hargs, rfl, rfl, h0, r0⟩ := trodAll_cons hA
  obtain ⟨rfl, rfl, rfl⟩ := trodAll_nil r0
  obtain rfl : args = #[v0] := by cases args; simp_all
  obtain ⟨rfl, rfl⟩ := trodVars_none hV
  have k0 := h0
  have lt0 : ∀ x ∈ p0, x.block < W.heap.size := by obtain ⟨m, hm⟩ := k0; exact DataW.trod_lt m _ _ _ hm
  obtain ⟨c0, u0, m0, t0, f0, n0, ll0, F0, rfl, w0, r0r, s0, f0r, b0⟩ := open_search (hval 0 40 v0 rfl rfl) k0
  clear hA0 hval0
  refine (walk c0 u0 m0 t0 f0 n0 ll0 F0  W r0r s0 f0r b0).mono fun e W' ⟨he, hg⟩ => ?_
  subst he
  exact ⟨_, rfl, ⟨_, _, _, [], _, [], hW', trodAll_cons_mk (shut_bool Try.underlying4 _) trodAll_mk0, (trodAll_cons_mk (Below.trod laidOut (by kernel_rfl) (of_decide_eq_true (by kernel_rfl)) k0 hg lt0) trodAll_mk0), rfl, hg.frame _, fun h => by cases h⟩⟩

theorem over : Rows.fnExactCandidateAtRow.holds Try.pinned (OpenSpec.ofChange Rows.fnExactCandidateAtSpec) :=
  OpenClaim.holds_of_wide 5 Try.f5 rfl rfl rfl rfl rfl rfl rfl ⟨rfl, rfl, rfl, rfl, rfl⟩ rfl rfl rfl rfl rfl (by kernel_rfl) Try.func5 (by kernel_rfl)
    (of_decide_eq_true (by kernel_rfl)) (by unfold Func.isWrapper; first | (rw [if_pos (by decide +kernel)]; kernel_rfl) | (rw [if_neg (by decide +kernel)]; exact ⟨rfl, rfl⟩))
    (fun os started H enc _ => lifted os started H enc)

theorem proved : Rows.FnExactCandidateAtSaid := over
end Go.Proofs.Ytigecfbmdbpbhaa.lawFnExactCandidateAt
