/- FormatTable answers as its model at every argument; it writes into no argument; its answer owns its memory. Conditions: none beyond the row's own; the library's listed tables are tied to the program's text by the given tie. -/
import Derived.Test.YtnelddlbpdpndaaDoorImF
import Derived.Test.YtnelddlbpdpndaaDoorTabOpen
import Derived.Test.YtnelddlbpdpndaaDoorDoor
namespace Go.Proofs.YtnelddlbpdpndaaDoor.lawFnExactFormatTable
open Go.ChangeShapes Go.WideShapes Go.ChangeAt Go.RowKit
theorem laidOut : laidOutB Tryd.prog = true := by kernel_rfl

theorem own : ownKnob Tryd.prog.godebug = none := by kernel_rfl

set_option maxRecDepth 20000 in
set_option maxHeartbeats 3200000 in
theorem walk (c : Int) (u : Value) (ll : List (List Int)) (_w0 : (Lit.int .i64 c).wf = true)  (w : World) (hr : ReadSS w u ll) (hs : Short ll) (hT : Tab w.heap.size w) :
    Calls Tryd.prog 3 #[.agg #[.int .i64 c, u]] w fun e w' => e = .returned (.bool true) ∧ Below w.heap.size w w' := by
  have HT := Lib.hid hT
  clear hT
  have HSZ := Lib.hid (fun w' (hb : Below w.heap.size w w') => szTable_any c u ll w' (hr.kept hb) hs 1048576 (by omega) (by omega))
  have hbx := (Below.refl w.heap.size w).alloc (Nat.le_refl _) (.cells #[.int .i64 c, u] 24)
  have HBX := Lib.hid (fun w' (hb : Below (w.alloc (.cells #[.int .i64 c, u] 24)).heap.size (w.alloc (.cells #[.int .i64 c, u] 24)) w') => And.intro (hbx.trans (hb.mono hbx.size)) (box2 hb))
  have HRF := Lib.hid (Below.refl (w.alloc (.cells #[.int .i64 c, u] 24)).heap.size (w.alloc (.cells #[.int .i64 c, u] 24)))
  clear hbx
  by_cases hsz : szOf ll ≤ 1048576
  · rw [szD_ok (by omega)] at HSZ
    obtain ⟨hl, ht⟩ := szOf_bd hsz
    have HTO := Lib.hid (fun w' (hb : Below w.heap.size w w') => toTable_any c u ll w' (hr.kept hb) hl ht)
    have HS := Lib.hid (fun v w' (hv : ReadSS w' v ll) => formatTable_any c v ll w' hv hl ht)
    have HI := Lib.hid (fun v w' (hb : Below w.heap.size w w') (hv : ReadSS w' v ll) => implFormatTable_any c  v ll w' hv hl ht (fun w'' h => HT.out w'' (hb.trans (h.mono hb.size))))
    have HEQ := Lib.hid (fun v v' w' (hv : ReadSS w' v ll) (hv' : ReadSS w' v' ll) => eqTable_any c c v v' ll ll w' hv hv' (by omega) (fun i hi => by have := ht i hi; omega))
    rw [eqTb_self] at HEQ
    have HMK := Lib.hid (fun v B C w' (ho : OwnSS w' B C v ll) (hC : C ≤ w'.heap.size) => markTable_any c v ll 1 B C w' ho hC hl (by unfold szOf at hsz; omega) (by omega) (by omega))
    obtain ⟨a, cap, rfl, -⟩ := hr
    have hneg : ¬ (1048576 - (szOf ll : Int) < 0) := by omega
    clear hs ht
    go_enter Tryd.func3, Tryd.ntmps3
    go_wp2_with fail
    refine (HSZ.out _ (HBX.out _ HRF.out).1).mono ?_
    rintro e w1 ⟨rfl, b1⟩
    have z1 := b1.size
    have hb := HRF.out.trans (b1.mono HRF.out.size)
    obtain ⟨kb, pb, qb⟩ := HBX.out _ hb
    clear b1
    go_wp2_with fail
    refine (HTO.out _ kb).mono ?_
    rintro e w2 ⟨v0, rfl, o0, b2⟩
    have z2 := b2.size
    replace hb := hb.trans (b2.mono hb.size)
    clear kb pb qb
    obtain ⟨kb, pb, qb⟩ := HBX.out _ hb
    clear b2
    go_wp2_with fail
    refine (HS.out _ _ o0.read).mono ?_
    rintro e w3 ⟨rfl, b3⟩
    have z3 := b3.size
    replace hb := hb.trans (b3.mono hb.size)
    clear kb pb qb
    obtain ⟨kb, pb, qb⟩ := HBX.out _ hb
    clear b3
    go_wp2_with fail
    refine (HTO.out _ kb).mono ?_
    rintro e w4 ⟨v1, rfl, o1, b4⟩
    have z4 := b4.size
    replace hb := hb.trans (b4.mono hb.size)
    clear kb pb qb
    obtain ⟨kb, pb, qb⟩ := HBX.out _ hb
    clear b4
    obtain ⟨a1, cap1, rfl, -⟩ := o1.read
    have hbX := (Below.refl w4.heap.size w4).alloc (Nat.le_refl _) (.cells #[.int .i64 c, .slice a1 ll.length cap1] 27)
    replace o1 := o1.same (Below.keeps hbX (by omega))
    replace hb := hb.trans (hbX.mono hb.size)
    clear kb pb qb
    obtain ⟨kb, pb, qb⟩ := HBX.out _ hb
    have zw4 : w4.heap.size + 1 ≤ (w4.alloc (.cells #[.int .i64 c, .slice a1 ll.length cap1] 27)).heap.size := by simp
    clear hbX
    go_wp2_with fail
    refine (HI.out _ _ kb o1.read).mono ?_
    rintro e w5 ⟨rfl, b5⟩
    obtain ⟨xbx, xby⟩ := box2 b5
    have z5 := b5.size
    replace hb := hb.trans (b5.mono hb.size)
    clear kb pb qb
    obtain ⟨kb, pb, qb⟩ := HBX.out _ hb
    replace o1 := o1.same (Below.keeps b5 (by omega))
    clear b5
    have r5 := o1.read
    have z5 : w4.heap.size ≤ w5.heap.size := by omega
    go_wp2_with fail
    refine wp_region_noPanic ?_
    refine wp_region_held_drew (S := (fun w' => (w'.cell? ⟨w.heap.size, 0, none⟩ = some (.int .i64 c) ∧ w'.cell? ⟨w.heap.size, 1, none⟩ = some (.slice a ll.length cap)) ∧ (w'.cell? ⟨w4.heap.size, 0, none⟩ = some (.int .i64 c) ∧ w'.cell? ⟨w4.heap.size, 1, none⟩ = some (.slice a1 ll.length cap1)) ∧ ReadSS w' (.slice a1 ll.length cap1) ll ∧ Below w5.heap.size w5 w')) (by kernel_rfl) ?_ (fun hHeld => ?_)
    · ((try dsimp only); (first | exact keepT hHeld b92 | exact keepT hHeld b91 | exact ⟨⟨pb, qb⟩, ⟨xbx, xby⟩, r5, (Below.refl _ _).drew⟩))
    refine wpAnyH_take (i := 0) (v := ?_) rfl (by kernel_rfl) (by kernel_rfl) (by kernel_rfl) (fun _ _ _ h => h) (Or.inl ⟨by rfl, ?_⟩) (by assumption) ?_
    rotate_left
    · (intro w hSw; (try dsimp only at hSw); go_simp; (try with_reducible rfl))
    (try simp only [Act.put, List.getElem_toArray, List.getElem_cons_zero, List.setIfInBounds_toArray, List.set_cons_zero, List.set_cons_succ])
    refine wpAnyH_take (i := 1) (v := ?_) rfl (by kernel_rfl) (by kernel_rfl) (by kernel_rfl) (fun _ _ _ h => h) (Or.inl ⟨by rfl, ?_⟩) (by assumption) ?_
    rotate_left
    · (intro w hSw; (try dsimp only at hSw); go_simp; (try with_reducible rfl))
    (try simp only [Act.put, List.getElem_toArray, List.getElem_cons_succ, List.getElem_cons_zero, List.setIfInBounds_toArray, List.set_cons_zero, List.set_cons_succ])
    refine wpAnyH_ready (rs := [2]) (by kernel_rfl) (by simp) (AllReadyH.cons rfl (fun K hK => ?_) AllReadyH.nil)
    (first | ((first | (go_at_call 7; refine (HTO.out _ (kb.trans (hHeld.2.2.2.mono kb.size))).mono ?_; rintro e w91 ⟨v91, rfl, o91, b91⟩; have r91 := o91.read) | (go_at_call 9; refine (HEQ.out _ _ _ hHeld.2.2.1 r91).mono ?_; rintro e w92 ⟨rfl, b92⟩))) | (go_simp; (first | (go_at_call 7; refine (HTO.out _ (kb.trans (hHeld.2.2.2.mono kb.size))).mono ?_; rintro e w91 ⟨v91, rfl, o91, b91⟩; have r91 := o91.read) | (go_at_call 9; refine (HEQ.out _ _ _ hHeld.2.2.1 r91).mono ?_; rintro e w92 ⟨rfl, b92⟩))))
    (try (go_wp2_with fail))
    refine hK.out _ _ ?_ (fun hHeld => ?_)
    · ((try dsimp only); (first | exact keepT hHeld b92 | exact keepT hHeld b91 | exact ⟨⟨pb, qb⟩, ⟨xbx, xby⟩, r5, (Below.refl _ _).drew⟩))
    clear hK K
    (try simp only [Act.put, List.getElem_toArray, List.getElem_cons_succ, List.getElem_cons_zero, List.setIfInBounds_toArray, List.set_cons_zero, List.set_cons_succ])
    refine wpAnyH_ready (rs := [3]) (by kernel_rfl) (by simp) (AllReadyH.cons rfl (fun K hK => ?_) AllReadyH.nil)
    (first | ((first | (go_at_call 7; refine (HTO.out _ (kb.trans (hHeld.2.2.2.mono kb.size))).mono ?_; rintro e w91 ⟨v91, rfl, o91, b91⟩; have r91 := o91.read) | (go_at_call 9; refine (HEQ.out _ _ _ hHeld.2.2.1 r91).mono ?_; rintro e w92 ⟨rfl, b92⟩))) | (go_simp; (first | (go_at_call 7; refine (HTO.out _ (kb.trans (hHeld.2.2.2.mono kb.size))).mono ?_; rintro e w91 ⟨v91, rfl, o91, b91⟩; have r91 := o91.read) | (go_at_call 9; refine (HEQ.out _ _ _ hHeld.2.2.1 r91).mono ?_; rintro e w92 ⟨rfl, b92⟩))))
    (try (go_wp2_with fail))
    refine hK.out _ _ ?_ (fun hHeld => ?_)
    · ((try dsimp only); (first | exact keepT hHeld b92 | exact keepT hHeld b91 | exact ⟨⟨pb, qb⟩, ⟨xbx, xby⟩, r5, (Below.refl _ _).drew⟩))
    clear hK K
    (try simp only [Act.put, List.getElem_toArray, List.getElem_cons_succ, List.getElem_cons_zero, List.setIfInBounds_toArray, List.set_cons_zero, List.set_cons_succ])
    refine wpAnyH_take (i := 4) (v := ?_) rfl (by kernel_rfl) (by kernel_rfl) (by kernel_rfl) (fun _ _ _ h => h) (Or.inl ⟨by rfl, ?_⟩) (by assumption) ?_
    rotate_left
    · (intro w hSw; (try dsimp only at hSw); go_simp; (try with_reducible rfl))
    (try simp only [Act.put, List.getElem_toArray, List.getElem_cons_succ, List.getElem_cons_zero, List.setIfInBounds_toArray, List.set_cons_zero, List.set_cons_succ])
    refine wpAnyH_done (by kernel_rfl) ?_ _
    refine NoPanic.normal ?_
    obtain ⟨w6, hw6⟩ : ∃ w', w' = w92 := ⟨_, rfl⟩
    rw [← hw6] at hHeld ⊢
    have b6 := hHeld.2.2.2
    clear hHeld b91 b92 r91 o91 r5 hw6
    have z6 := b6.size
    replace hb := hb.trans (b6.mono hb.size)
    clear kb pb qb
    obtain ⟨kb, pb, qb⟩ := HBX.out _ hb
    replace o1 := o1.same (Below.keeps b6 (by omega))
    replace xbx := (b6.cell (p := ⟨w4.heap.size, 0, none⟩) (show w4.heap.size < _ by omega)).trans xbx
    replace xby := (b6.cell (p := ⟨w4.heap.size, 1, none⟩) (show w4.heap.size < _ by omega)).trans xby
    clear b6
    go_wp2_with fail
    go_ret
    exact ⟨rfl, kb⟩
  · rw [szD_no (by omega)] at HSZ
    obtain ⟨a, cap, rfl, -⟩ := hr
    go_enter Tryd.func3, Tryd.ntmps3
    go_wp2_with fail
    refine (HSZ.out _ (HBX.out _ HRF.out).1).mono ?_
    rintro e w1 ⟨rfl, b1⟩
    go_wp2_with fail
    go_ret
    exact ⟨rfl, (HBX.out _ (HRF.out.trans (b1.mono HRF.out.size))).1⟩

set_option linter.unusedVariables false
set_option maxRecDepth 100000 in
theorem lifted (os : Os) (started : os.Started) (H : Type) (enc : TypeId × Value → H) :
    ReturnsInHanded {} Tryd.checked os 3 .any (fun w args => (Rows.fnExactFormatTableSpec.pre enc Tryd.prog Tryd.f3 [] false w args ∧ laidMetH Tryd.prog laidL w) ∧ sizedMet enc Tryd.prog Tryd.f3 (OpenSpec.ofChange Rows.fnExactFormatTableSpec) false w args)
      (Rows.fnExactFormatTableSpec.post enc Tryd.prog Tryd.f3 false true false false) := by
  refine returnsInHanded_of_change_and (C := Tryd.checked) (X := fun w _ => laidMetH Tryd.prog laidL w) (fun _ _ _ hh h => h.of_heap hh) own started (by kernel_rfl) Tryd.func3
    (ChangeSpec.witness_shaped (enc := enc) (C := Tryd.checked) (os := os) (X := fun w _ => laidMetH Tryd.prog laidL w) false (World.doorLaid Tryd.prog 24 os) #[.agg #[.int .i64 0, .slice none 0 0]] 8 rfl (World.shaped_of_RefB (by kernel_rfl) (by kernel_rfl)) (by kernel_rfl) (by kernel_rfl) (by kernel_rfl) (door_met os _)) ?_
  intro W base args ds gs before hval0 hW _ _ hL _
  have hval : ∀ (j : Nat) t v, Tryd.f3.params[j]? = some t → args[j]? = some v → Value.okWide Tryd.prog W .any base t v := hval0
  have hW' := hW
  obtain ⟨p, q, hA0, hV, rfl, hfz, hnd⟩ := hW
  have hA : DataW.TrodAll enc Tryd.prog W 0 (fun _ => true) true Tryd.f3.params.toList args.toList ds p := hA0
  rw [Tryd.params3] at hA hval
  obtain ⟨v0, vs0, d0, ds0, p0, q0, hargs, rfl, rfl, h0, r0⟩ := trodAll_cons hA
  obtain ⟨rfl, rfl, rfl⟩ := trodAll_nil r0
  obtain rfl : args = #[v0] := by cases args; simp_all
  obtain ⟨rfl, rfl⟩ := trodVars_none hV
  have k0 := h0
  have lt0 : ∀ x ∈ p0, x.block < W.heap.size := by obtain ⟨m, hm⟩ := k0; exact DataW.trod_lt m _ _ _ hm
  obtain ⟨c0, u0, ll0, rfl, w0, r0r, s0⟩ := open_table (hval 0 24 v0 rfl rfl) k0
  clear hA0 hval0
  refine (walk c0 u0 ll0 w0 W r0r s0 (of_laid hL)).mono fun e W' ⟨he, hg⟩ => ?_
  subst he
  exact ⟨_, rfl, ⟨_, _, _, [], _, [], hW', trodAll_cons_mk (shut_bool Tryd.underlying4 _) trodAll_mk0, (trodAll_cons_mk (Below.trod laidOut (by kernel_rfl) (of_decide_eq_true (by kernel_rfl)) k0 hg lt0) trodAll_mk0), rfl, hg.frame _, fun h => by cases h⟩⟩

theorem over : Rows.fnExactFormatTableRow.holds Tryd.pinned (OpenSpec.ofChange Rows.fnExactFormatTableSpec) :=
  OpenClaim.holds_of_wide 3 Tryd.f3 rfl rfl rfl rfl rfl rfl rfl ⟨rfl, rfl, rfl, rfl, rfl⟩ rfl rfl rfl rfl rfl (by kernel_rfl) Tryd.func3 (by kernel_rfl)
    (of_decide_eq_true (by kernel_rfl)) (by unfold Func.isWrapper; first | (rw [if_pos (by decide +kernel)]; kernel_rfl) | (rw [if_neg (by decide +kernel)]; exact ⟨rfl, rfl⟩))
    (fun os started H enc _ => lifted os started H enc)

theorem proved : Rows.FnExactFormatTableCardSaid :=
  Claim7.holds_tied_plain_at .later [] [.data, .data, .data] true Rows.fnExactFormatTableCard.stood.harness false
    over (fun _ h => by cases h) (by kernel_rfl) (fun _ h => by cases h) fnExactFormatTable_row_tie rfl ⟨rfl, rfl⟩ (by kernel_rfl) rfl
    (fun f fn hf hfn => by
      obtain rfl : f = 3 := Option.some.inj ((show Tryd.prog.funcNamed "loop.example/g01988/laws.FnExactFormatTable" = some 3 by kernel_rfl).symm.trans hf) |>.symm
      obtain rfl : fn = Tryd.f3 := (Option.some.inj (Tryd.func3.symm.trans hfn)).symm
      exact ⟨by kernel_rfl, fun j t ht => by
        rw [Tryd.params3] at ht
        have hm : t ∈ [24] := by simpa using Array.mem_of_getElem? ht
        have hall : ([24].all fun u => !Tryd.prog.wantsStandIn u) = true := by kernel_rfl
        exact (show Tryd.prog.wantsStandIn t = false by simpa using List.all_eq_true.1 hall t hm)⟩)
    (by kernel_rfl)
end Go.Proofs.YtnelddlbpdpndaaDoor.lawFnExactFormatTable
