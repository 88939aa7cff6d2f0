/- DepsByTransversals answers as its model at every argument; it writes into no argument; its answer owns its memory. Conditions: none beyond the row's own. -/
import Derived.Test.YtbbbdabmbiggkaaTpDm
import Derived.Test.YtbbbdabmbiggkaaTrGm
import Derived.Test.YtbbbdabmbiggkaaTq21
import Derived.Test.YtbbbdabmbiggkaaTq4
namespace Go.Proofs.Ytbbbdabmbiggkaa.lawFnExactDepsByTransversals
open Go.ChangeShapes Go.WideShapes Go.ChangeAt Go.RowKit
theorem laidOut : laidOutB Try.prog = true := by kernel_rfl

theorem own : ownKnob Try.prog.godebug = none := by kernel_rfl

set_option maxRecDepth 20000 in
set_option maxHeartbeats 3200000 in
theorem walk (c : Int) (u : Value) (ll : List (List Int)) (md : Int) (_w0 : (Lit.int .i64 c).wf = true) (_w1 : (Lit.int .i64 md).wf = true) (w : World) (hr : ReadSS w u ll) (hs : Short ll) :
    Calls Try.prog 4 #[.agg #[.int .i64 c, u], .int .i64 md] w fun e w' => e = .returned (.bool true) ∧ Below w.heap.size w w' := by
  have HSZ := Lib.hid (fun w' (hb : Below w.heap.size w w') => szTable_any c u ll w' (hr.kept hb) hs 1048576 (by omega) (by omega))
  have hbx := (Below.refl w.heap.size w).alloc (Nat.le_refl _) (.cells #[.int .i64 c, u] 30)
  have HBX := Lib.hid (fun w' (hb : Below (w.alloc (.cells #[.int .i64 c, u] 30)).heap.size (w.alloc (.cells #[.int .i64 c, u] 30)) w') => And.intro (hbx.trans (hb.mono hbx.size)) (box2 hb))
  have HRF := Lib.hid (Below.refl (w.alloc (.cells #[.int .i64 c, u] 30)).heap.size (w.alloc (.cells #[.int .i64 c, u] 30)))
  clear hbx
  by_cases hsz : szOf ll ≤ 1048576
  · rw [szD_ok (by omega)] at HSZ
    obtain ⟨hl, ht⟩ := szOf_bd hsz
    have HTO := Lib.hid (fun w' (hb : Below w.heap.size w w') => toTable_any c u ll w' (hr.kept hb) hl ht)
    have HS := Lib.hid (fun v w' (hv : ReadSS w' v ll) => depsT9_any c md v ll w' hv hl ht)
    have HI := Lib.hid (fun v w' (hv : ReadSS w' v ll) (hcp : CapOk v) => implDepsT_any c md v ll w' hv hl ht hcp)
    have HEQ := Lib.hid (fun v v' w' (hv : ReadSS w' v ll) (hv' : ReadSS w' v' ll) => eqTable_any c c v v' ll ll w' hv hv' (by omega) (fun i hi => by have := ht i hi; omega))
    rw [eqTb_self] at HEQ
    have HMK := Lib.hid (fun v B C w' (ho : OwnSS w' B C v ll) (hC : C ≤ w'.heap.size) => markTable_any c v ll 1 B C w' ho hC hl (by unfold szOf at hsz; omega) (by omega) (by omega))
    obtain ⟨d, hd, hdl⟩ : ∃ d, d = dtL c ll md ∧ d.length ≤ 1048576 := ⟨_, rfl, by have := dtL_len c ll md; omega⟩
    rw [← hd] at HS HI
    clear hd
    obtain ⟨a, cap, rfl, -⟩ := hr
    have hneg : ¬ (1048576 - (szOf ll : Int) < 0) := by omega
    clear hs ht
    go_enter Try.func4, Try.ntmps4
    go_wp2_with fail
    refine (HSZ.out _ (HBX.out _ HRF.out).1).mono ?_
    rintro e w1 ⟨rfl, b1⟩
    have z1 := b1.size
    have hb := HRF.out.trans (b1.mono HRF.out.size)
    obtain ⟨kb, pb, qb⟩ := HBX.out _ hb
    clear b1
    go_wp2_with fail
    refine (HTO.out _ kb).mono ?_
    rintro e w2 ⟨v0, rfl, o0, b2⟩
    have z2 := b2.size
    replace hb := hb.trans (b2.mono hb.size)
    clear kb pb qb
    obtain ⟨kb, pb, qb⟩ := HBX.out _ hb
    clear b2
    go_wp2_with fail
    refine (HS.out _ _ o0.read).mono ?_
    rintro e w3 ⟨y0, rfl, oy, b3⟩
    replace oy := oy.range
    have z3 := b3.size
    replace hb := hb.trans (b3.mono hb.size)
    clear kb pb qb
    obtain ⟨kb, pb, qb⟩ := HBX.out _ hb
    clear b3
    go_wp2_with fail
    refine (HTO.out _ kb).mono ?_
    rintro e w4 ⟨v1, rfl, o1, b4⟩
    have z4 := b4.size
    replace hb := hb.trans (b4.mono hb.size)
    clear kb pb qb
    obtain ⟨kb, pb, qb⟩ := HBX.out _ hb
    replace oy := oy.same (Below.keeps b4 (by omega))
    clear b4
    obtain ⟨a1, cap1, rfl, -⟩ := o1.read
    have hbX := (Below.refl w4.heap.size w4).alloc (Nat.le_refl _) (.cells #[.int .i64 c, .slice a1 ll.length cap1] 34)
    replace oy := oy.same (Below.keeps hbX (by omega))
    replace o1 := o1.same (Below.keeps hbX (by omega))
    replace hb := hb.trans (hbX.mono hb.size)
    clear kb pb qb
    obtain ⟨kb, pb, qb⟩ := HBX.out _ hb
    have zw4 : w4.heap.size + 1 ≤ (w4.alloc (.cells #[.int .i64 c, .slice a1 ll.length cap1] 34)).heap.size := by simp
    clear hbX
    go_wp2_with fail
    refine (HI.out _ _ o1.read o1.capOk).mono ?_
    rintro e w5 ⟨g0, rfl, og, b5⟩
    replace og := og.range
    obtain ⟨xbx, xby⟩ := box2 b5
    have z5 := b5.size
    replace hb := hb.trans (b5.mono hb.size)
    clear kb pb qb
    obtain ⟨kb, pb, qb⟩ := HBX.out _ hb
    replace oy := oy.same (Below.keeps b5 (by omega))
    replace o1 := o1.same (Below.keeps b5 (by omega))
    clear b5
    go_wp2_with fail
    refine (eqDepS_same _ _ _ _ og.read oy.read (by omega)).mono ?_
    rintro e w6 ⟨rfl, b6⟩
    have z6 := b6.size
    replace hb := hb.trans (b6.mono hb.size)
    clear kb pb qb
    obtain ⟨kb, pb, qb⟩ := HBX.out _ hb
    replace oy := oy.same (Below.keeps b6 (by omega))
    replace o1 := o1.same (Below.keeps b6 (by omega))
    replace og := og.same (Below.keeps b6 (by omega))
    replace xbx := (b6.cell (p := ⟨w4.heap.size, 0, none⟩) (show w4.heap.size < _ by omega)).trans xbx
    replace xby := (b6.cell (p := ⟨w4.heap.size, 1, none⟩) (show w4.heap.size < _ by omega)).trans xby
    clear b6
    have r5 := o1.read
    have z5 : w4.heap.size ≤ w6.heap.size := by omega
    go_wp2_with fail
    refine wp_region_noPanic ?_
    refine wp_region_held_drew (S := (fun w' => (w'.cell? ⟨w.heap.size, 0, none⟩ = some (.int .i64 c) ∧ w'.cell? ⟨w.heap.size, 1, none⟩ = some (.slice a ll.length cap)) ∧ (w'.cell? ⟨w4.heap.size, 0, none⟩ = some (.int .i64 c) ∧ w'.cell? ⟨w4.heap.size, 1, none⟩ = some (.slice a1 ll.length cap1)) ∧ ReadSS w' (.slice a1 ll.length cap1) ll ∧ Below w6.heap.size w6 w')) (by kernel_rfl) ?_ (fun hHeld => ?_)
    · ((try dsimp only); (first | exact keepT hHeld b92 | exact keepT hHeld b91 | exact ⟨⟨pb, qb⟩, ⟨xbx, xby⟩, r5, (Below.refl _ _).drew⟩))
    refine wpAnyH_take (i := 0) (v := ?_) rfl (by kernel_rfl) (by kernel_rfl) (by kernel_rfl) (fun _ _ _ h => h) (Or.inl ⟨by rfl, ?_⟩) (by assumption) ?_
    rotate_left
    · (intro w hSw; (try dsimp only at hSw); go_simp; (try with_reducible rfl))
    (try simp only [Act.put, List.getElem_toArray, List.getElem_cons_zero, List.setIfInBounds_toArray, List.set_cons_zero, List.set_cons_succ])
    refine wpAnyH_take (i := 1) (v := ?_) rfl (by kernel_rfl) (by kernel_rfl) (by kernel_rfl) (fun _ _ _ h => h) (Or.inl ⟨by rfl, ?_⟩) (by assumption) ?_
    rotate_left
    · (intro w hSw; (try dsimp only at hSw); go_simp; (try with_reducible rfl))
    (try simp only [Act.put, List.getElem_toArray, List.getElem_cons_succ, List.getElem_cons_zero, List.setIfInBounds_toArray, List.set_cons_zero, List.set_cons_succ])
    refine wpAnyH_ready (rs := [2]) (by kernel_rfl) (by simp) (AllReadyH.cons rfl (fun K hK => ?_) AllReadyH.nil)
    (first | ((first | (go_at_call 14; refine (HTO.out _ (kb.trans (hHeld.2.2.2.mono kb.size))).mono ?_; rintro e w91 ⟨v91, rfl, o91, b91⟩; have r91 := o91.read) | (go_at_call 17; refine (HEQ.out _ _ _ hHeld.2.2.1 r91).mono ?_; rintro e w92 ⟨rfl, b92⟩))) | (go_simp; (first | (go_at_call 14; refine (HTO.out _ (kb.trans (hHeld.2.2.2.mono kb.size))).mono ?_; rintro e w91 ⟨v91, rfl, o91, b91⟩; have r91 := o91.read) | (go_at_call 17; refine (HEQ.out _ _ _ hHeld.2.2.1 r91).mono ?_; rintro e w92 ⟨rfl, b92⟩))))
    (try (go_wp2_with fail))
    refine hK.out _ _ ?_ (fun hHeld => ?_)
    · ((try dsimp only); (first | exact keepT hHeld b92 | exact keepT hHeld b91 | exact ⟨⟨pb, qb⟩, ⟨xbx, xby⟩, r5, (Below.refl _ _).drew⟩))
    clear hK K
    (try simp only [Act.put, List.getElem_toArray, List.getElem_cons_succ, List.getElem_cons_zero, List.setIfInBounds_toArray, List.set_cons_zero, List.set_cons_succ])
    refine wpAnyH_ready (rs := [3]) (by kernel_rfl) (by simp) (AllReadyH.cons rfl (fun K hK => ?_) AllReadyH.nil)
    (first | ((first | (go_at_call 14; refine (HTO.out _ (kb.trans (hHeld.2.2.2.mono kb.size))).mono ?_; rintro e w91 ⟨v91, rfl, o91, b91⟩; have r91 := o91.read) | (go_at_call 17; refine (HEQ.out _ _ _ hHeld.2.2.1 r91).mono ?_; rintro e w92 ⟨rfl, b92⟩))) | (go_simp; (first | (go_at_call 14; refine (HTO.out _ (kb.trans (hHeld.2.2.2.mono kb.size))).mono ?_; rintro e w91 ⟨v91, rfl, o91, b91⟩; have r91 := o91.read) | (go_at_call 17; refine (HEQ.out _ _ _ hHeld.2.2.1 r91).mono ?_; rintro e w92 ⟨rfl, b92⟩))))
    (try (go_wp2_with fail))
    refine hK.out _ _ ?_ (fun hHeld => ?_)
    · ((try dsimp only); (first | exact keepT hHeld b92 | exact keepT hHeld b91 | exact ⟨⟨pb, qb⟩, ⟨xbx, xby⟩, r5, (Below.refl _ _).drew⟩))
    clear hK K
    (try simp only [Act.put, List.getElem_toArray, List.getElem_cons_succ, List.getElem_cons_zero, List.setIfInBounds_toArray, List.set_cons_zero, List.set_cons_succ])
    refine wpAnyH_take (i := 4) (v := ?_) rfl (by kernel_rfl) (by kernel_rfl) (by kernel_rfl) (fun _ _ _ h => h) (Or.inl ⟨by rfl, ?_⟩) (by assumption) ?_
    rotate_left
    · (intro w hSw; (try dsimp only at hSw); go_simp; (try with_reducible rfl))
    (try simp only [Act.put, List.getElem_toArray, List.getElem_cons_succ, List.getElem_cons_zero, List.setIfInBounds_toArray, List.set_cons_zero, List.set_cons_succ])
    refine wpAnyH_done (by kernel_rfl) ?_ _
    refine NoPanic.normal ?_
    obtain ⟨w7, hw7⟩ : ∃ w', w' = w92 := ⟨_, rfl⟩
    rw [← hw7] at hHeld ⊢
    have b7 := hHeld.2.2.2
    clear hHeld b91 b92 r91 o91 r5 hw7
    have z7 := b7.size
    replace hb := hb.trans (b7.mono hb.size)
    clear kb pb qb
    obtain ⟨kb, pb, qb⟩ := HBX.out _ hb
    replace oy := oy.same (Below.keeps b7 (by omega))
    replace o1 := o1.same (Below.keeps b7 (by omega))
    replace og := og.same (Below.keeps b7 (by omega))
    replace xbx := (b7.cell (p := ⟨w4.heap.size, 0, none⟩) (show w4.heap.size < _ by omega)).trans xbx
    replace xby := (b7.cell (p := ⟨w4.heap.size, 1, none⟩) (show w4.heap.size < _ by omega)).trans xby
    clear b7
    go_wp2_with fail
    refine (HMK.out _ _ _ _ o1 (by omega)).mono ?_
    rintro e w8 ⟨rfl, o1m, m8⟩
    have z8 := m8.size
    replace hb := hb.trans (m8.below (by omega) (by omega))
    clear kb pb qb
    obtain ⟨kb, pb, qb⟩ := HBX.out _ hb
    replace oy := oy.same (m8.same (by omega) (by omega))
    replace og := og.same (m8.same (by omega) (by omega))
    replace xbx := (World.cell?_of_block (a := ⟨w4.heap.size, 0, none⟩) (m8.block w4.heap.size (by omega) (by omega))).trans xbx
    replace xby := (World.cell?_of_block (a := ⟨w4.heap.size, 1, none⟩) (m8.block w4.heap.size (by omega) (by omega))).trans xby
    clear m8
    clear o1
    have hk : ¬ (1 + (tot ll : Int) < 0) := by omega
    go_wp2_with fail
    refine (eqDepS_same _ _ _ _ og.read oy.read (by omega)).mono ?_
    rintro e w9 ⟨rfl, b9⟩
    have z9 := b9.size
    replace hb := hb.trans (b9.mono hb.size)
    clear kb pb qb
    obtain ⟨kb, pb, qb⟩ := HBX.out _ hb
    replace oy := oy.same (Below.keeps b9 (by omega))
    replace og := og.same (Below.keeps b9 (by omega))
    replace xbx := (b9.cell (p := ⟨w4.heap.size, 0, none⟩) (show w4.heap.size < _ by omega)).trans xbx
    replace xby := (b9.cell (p := ⟨w4.heap.size, 1, none⟩) (show w4.heap.size < _ by omega)).trans xby
    clear b9
    go_wp2_with fail
    refine (markDepR_any _ _ 1 _ _ _ og (by omega) (by omega) (by omega)).mono ?_
    rintro e w10 ⟨rfl, og', m10⟩
    have z10 := m10.size
    replace hb := hb.trans (m10.below (by omega) (by omega))
    clear kb pb qb
    obtain ⟨kb, pb, qb⟩ := HBX.out _ hb
    replace oy := oy.same (m10.same (by omega) (by omega))
    replace xbx := (World.cell?_of_block (a := ⟨w4.heap.size, 0, none⟩) (m10.block w4.heap.size (by omega) (by omega))).trans xbx
    replace xby := (World.cell?_of_block (a := ⟨w4.heap.size, 1, none⟩) (m10.block w4.heap.size (by omega) (by omega))).trans xby
    clear m10
    clear og
    have og := og'
    clear og'
    have hk1 : ¬ (1 + 2 * (d.length : Int) < 0) := by omega
    have hk2 : (1 + 2 * (d.length : Int) != 1 + 2 * (d.length : Int)) = false := by simp
    go_wp2_with fail
    refine (heldDepR_any _ _ 1 _ og.read (by omega) (by omega) (by omega)).mono ?_
    rintro e w11 ⟨rfl, b11⟩
    have z11 := b11.size
    replace hb := hb.trans (b11.mono hb.size)
    clear kb pb qb
    obtain ⟨kb, pb, qb⟩ := HBX.out _ hb
    replace oy := oy.same (Below.keeps b11 (by omega))
    replace og := og.same (Below.keeps b11 (by omega))
    replace xbx := (b11.cell (p := ⟨w4.heap.size, 0, none⟩) (show w4.heap.size < _ by omega)).trans xbx
    replace xby := (b11.cell (p := ⟨w4.heap.size, 1, none⟩) (show w4.heap.size < _ by omega)).trans xby
    clear b11
    go_wp2_with fail
    refine (HTO.out _ kb).mono ?_
    rintro e w12 ⟨v3, rfl, o3, b12⟩
    have z12 := b12.size
    replace hb := hb.trans (b12.mono hb.size)
    clear kb pb qb
    obtain ⟨kb, pb, qb⟩ := HBX.out _ hb
    replace oy := oy.same (Below.keeps b12 (by omega))
    replace og := og.same (Below.keeps b12 (by omega))
    replace xbx := (b12.cell (p := ⟨w4.heap.size, 0, none⟩) (show w4.heap.size < _ by omega)).trans xbx
    replace xby := (b12.cell (p := ⟨w4.heap.size, 1, none⟩) (show w4.heap.size < _ by omega)).trans xby
    clear b12
    go_wp2_with fail
    refine (HI.out _ _ o3.read o3.capOk).mono ?_
    rintro e w13 ⟨g3, rfl, oh, b13⟩
    replace oh := oh.range
    have z13 := b13.size
    replace hb := hb.trans (b13.mono hb.size)
    clear kb pb qb
    obtain ⟨kb, pb, qb⟩ := HBX.out _ hb
    replace oy := oy.same (Below.keeps b13 (by omega))
    replace og := og.same (Below.keeps b13 (by omega))
    replace xbx := (b13.cell (p := ⟨w4.heap.size, 0, none⟩) (show w4.heap.size < _ by omega)).trans xbx
    replace xby := (b13.cell (p := ⟨w4.heap.size, 1, none⟩) (show w4.heap.size < _ by omega)).trans xby
    clear b13
    go_wp2_with fail
    refine (eqDepS_same _ _ _ _ oh.read oy.read (by omega)).mono ?_
    rintro e w14 ⟨rfl, b14⟩
    have z14 := b14.size
    replace hb := hb.trans (b14.mono hb.size)
    clear kb pb qb
    obtain ⟨kb, pb, qb⟩ := HBX.out _ hb
    replace oy := oy.same (Below.keeps b14 (by omega))
    replace og := og.same (Below.keeps b14 (by omega))
    replace oh := oh.same (Below.keeps b14 (by omega))
    replace xbx := (b14.cell (p := ⟨w4.heap.size, 0, none⟩) (show w4.heap.size < _ by omega)).trans xbx
    replace xby := (b14.cell (p := ⟨w4.heap.size, 1, none⟩) (show w4.heap.size < _ by omega)).trans xby
    clear b14
    go_wp2_with fail
    refine (heldDepR_any _ _ 1 _ og.read (by omega) (by omega) (by omega)).mono ?_
    rintro e w15 ⟨rfl, b15⟩
    have z15 := b15.size
    replace hb := hb.trans (b15.mono hb.size)
    clear kb pb qb
    obtain ⟨kb, pb, qb⟩ := HBX.out _ hb
    replace oy := oy.same (Below.keeps b15 (by omega))
    replace og := og.same (Below.keeps b15 (by omega))
    replace oh := oh.same (Below.keeps b15 (by omega))
    replace xbx := (b15.cell (p := ⟨w4.heap.size, 0, none⟩) (show w4.heap.size < _ by omega)).trans xbx
    replace xby := (b15.cell (p := ⟨w4.heap.size, 1, none⟩) (show w4.heap.size < _ by omega)).trans xby
    clear b15
    go_wp2_with fail
    go_ret
    exact ⟨rfl, kb⟩
  · rw [szD_no (by omega)] at HSZ
    obtain ⟨a, cap, rfl, -⟩ := hr
    go_enter Try.func4, Try.ntmps4
    go_wp2_with fail
    refine (HSZ.out _ (HBX.out _ HRF.out).1).mono ?_
    rintro e w1 ⟨rfl, b1⟩
    go_wp2_with fail
    go_ret
    exact ⟨rfl, (HBX.out _ (HRF.out.trans (b1.mono HRF.out.size))).1⟩

set_option linter.unusedVariables false
set_option maxRecDepth 100000 in
theorem lifted (os : Os) (started : os.Started) (H : Type) (enc : TypeId × Value → H) :
    ReturnsInHanded {} Try.checked os 4 .any (Rows.fnExactDepsByTransversalsSpec.pre6 enc Try.prog Try.f4 Rows.fnExactDepsByTransversalsRow.domain false) (Rows.fnExactDepsByTransversalsSpec.post enc Try.prog Try.f4 false true false false) := by
  refine returnsInHanded_of_change (C := Try.checked) own started (by kernel_rfl) Try.func4
    (ChangeSpec.witness6 (enc := enc) (C := Try.checked) false ⟨#[], #[.agg #[.int .i64 0, .slice none 0 0], .int .i64 0], []⟩ 8 (by kernel_rfl) (by kernel_rfl) (by kernel_rfl) (by kernel_rfl)) ?_
  intro W base args ds gs before hval0 hW hcnd _
  have hval : ∀ (j : Nat) t v, Try.f4.params[j]? = some t → args[j]? = some v → Value.okWide Try.prog W .any base t v := hval0
  have hW' := hW
  obtain ⟨p, q, hA0, hV, rfl, hfz, hnd⟩ := hW
  have hA : DataW.TrodAll enc Try.prog W 0 (fun _ => true) true Try.f4.params.toList args.toList ds p := hA0
  rw [Try.params4] at hA hval
  obtain ⟨v0, vs0, d0, ds0, p0, q0, hargs, rfl, rfl, h0, r0⟩ := trodAll_cons hA
  obtain ⟨v1, vs1, d1, ds1, p1, q1, rfl, rfl, rfl, h1, r1⟩ := trodAll_cons r0
  obtain ⟨rfl, rfl, rfl⟩ := trodAll_nil r1
  obtain rfl : args = #[v0, v1] := by cases args; simp_all
  obtain ⟨rfl, rfl⟩ := trodVars_none hV
  have k0 := h0
  have lt0 : ∀ x ∈ p0, x.block < W.heap.size := by obtain ⟨m, hm⟩ := k0; exact DataW.trod_lt m _ _ _ hm
  obtain ⟨c0, u0, ll0, rfl, w0, r0r, s0⟩ := open_table (hval 0 30 v0 rfl rfl) k0
  obtain ⟨a1, rfl, rfl, rfl, w1⟩ := open_int Try.underlying3 (hval 1 3 v1 rfl rfl) h1
  clear hA0 hval0
  refine (walk c0 u0 ll0 a1 w0 w1 W r0r s0).mono fun e W' ⟨he, hg⟩ => ?_
  subst he
  exact ⟨_, rfl, ⟨_, _, _, [], _, [], hW', trodAll_cons_mk (shut_bool Try.underlying4 _) trodAll_mk0, (trodAll_cons_mk (Below.trod laidOut (by kernel_rfl) (of_decide_eq_true (by kernel_rfl)) k0 hg lt0) (trodAll_cons_mk (shut_int Try.underlying3 w1) trodAll_mk0)), rfl, hg.frame _, fun h => by cases h⟩⟩

theorem over : Rows.fnExactDepsByTransversalsRow.holds Try.pinned (OpenSpec.ofChange Rows.fnExactDepsByTransversalsSpec) :=
  OpenClaim.holds_of_wide 4 Try.f4 rfl rfl rfl rfl rfl rfl rfl ⟨rfl, rfl, rfl, rfl, rfl⟩ rfl rfl rfl rfl rfl (by kernel_rfl) Try.func4 (by kernel_rfl)
    (of_decide_eq_true (by kernel_rfl)) (by unfold Func.isWrapper; first | (rw [if_pos (by decide +kernel)]; kernel_rfl) | (rw [if_neg (by decide +kernel)]; exact ⟨rfl, rfl⟩))
    (fun os started H enc _ => lifted os started H enc)

theorem proved : Rows.FnExactDepsByTransversalsSaid := over
end Go.Proofs.Ytbbbdabmbiggkaa.lawFnExactDepsByTransversals
