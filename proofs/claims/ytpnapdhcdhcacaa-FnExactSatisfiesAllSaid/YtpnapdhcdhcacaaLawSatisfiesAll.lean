/- SatisfiesAll answers as its model at every argument; it writes into no argument; its answer owns its memory. Conditions: none beyond the row's own. -/
import Derived.Test.YtpnapdhcdhcacaaXa38
import Derived.Test.YtpnapdhcdhcacaaXa22
import Derived.Test.YtpnapdhcdhcacaaXa36
import Derived.Test.YtpnapdhcdhcacaaXa13
import Derived.Test.YtpnapdhcdhcacaaXa33
import Derived.Test.YtpnapdhcdhcacaaXa2
namespace Go.Proofs.Ytpnapdhcdhcacaa.lawFnExactSatisfiesAll
open Go.ChangeShapes Go.WideShapes Go.ChangeAt Go.RowKit
theorem laidOut : laidOutB Try.prog = true := by kernel_rfl

theorem own : ownKnob Try.prog.godebug = none := by kernel_rfl

theorem cellb {w w' : World} {p : Addr} {v : Value} (h : w.cell? p = some v) (b : Below w.heap.size w w') : w'.cell? p = some v := (b.cell (World.block_lt_of_cell? w _ h)).trans h
set_option maxRecDepth 20000 in
set_option maxHeartbeats 3200000 in
theorem walk (c : Int) (u : Value) (ll : List (List Int)) (md : Int) (vl : Value) (l : List (Int × Int)) (_w0 : (Lit.int .i64 c).wf = true) (_w1 : (Lit.int .i64 md).wf = true) (w : World) (hrl : ReadD w vl l) (hml : l.length ≤ maxLen) (bdl : ∀ d ∈ l, (Lit.int .i64 d.1).wf = true ∧ (Lit.int .i64 d.2).wf = true) (hr : ReadSS w u ll) (hs : Short ll) :
    Calls Try.prog 5 #[.agg #[.int .i64 c, u], .int .i64 md, vl] w fun e w' => e = .returned (.bool true) ∧ Below w.heap.size w w' := by
  have HSZ := Lib.hid (fun w' (hb : Below w.heap.size w w') => szTable_any c u ll w' (hr.kept hb) hs 1048576 (by omega) (by omega))
  have hbx := (Below.refl w.heap.size w).alloc (Nat.le_refl _) (.cells #[.int .i64 c, u] 42)
  have HBX := Lib.hid (fun w' (hb : Below (w.alloc (.cells #[.int .i64 c, u] 42)).heap.size (w.alloc (.cells #[.int .i64 c, u] 42)) w') => And.intro (hbx.trans (hb.mono hbx.size)) (box2 hb))
  have HRF := Lib.hid (Below.refl (w.alloc (.cells #[.int .i64 c, u] 42)).heap.size (w.alloc (.cells #[.int .i64 c, u] 42)))
  clear hbx
  by_cases hsz : szOf ll ≤ 1048576
  · rw [szD_ok (by omega)] at HSZ
    obtain ⟨hl, ht⟩ := szOf_bd hsz
    have HTO := Lib.hid (fun w' (hb : Below w.heap.size w w') => toTable_any c u ll w' (hr.kept hb) hl ht)
    have HEQ := Lib.hid (fun v v' w' (hv : ReadSS w' v ll) (hv' : ReadSS w' v' ll) => eqTable_any c c v v' ll ll w' hv hv' (by omega) (fun i hi => by have := ht i hi; omega))
    rw [eqTb_self] at HEQ
    have HMK := Lib.hid (fun v B C w' (ho : OwnSS w' B C v ll) (hC : C ≤ w'.heap.size) => markTable_any c v ll 1 B C w' ho hC hl (by unfold szOf at hsz; omega) (by omega) (by omega))
    by_cases hszl : (l.length : Int) ≤ 1048576 - (szOf ll : Int)
    · have HZl := Lib.hid (fun w' (hb : Below w.heap.size w w') => szDepS_any vl l w' (hrl.kept hb) (1048576 - (szOf ll : Int)) (by omega) (by omega) (by unfold maxLen at hml; omega))
      rw [szD_ok hszl] at HZl
      have hneg2 : ¬ (1048576 - (szOf ll : Int) - (l.length : Int) < 0) := by omega
      have HTD := Lib.hid (fun w' (hb : Below w.heap.size w w') => toDepS_any vl l w' (hrl.kept hb) (by omega))
      have HS := Lib.hid (fun v ul w' (hv : ReadSS w' v ll) (h2 : ReadD w' ul l) => satisfiesAll12_any c md v ul ll l w' hv hl ht h2 (by omega))
      have HI := Lib.hid (fun v ul w' (hv : ReadSS w' v ll) (h2 : ReadD w' ul l) => implSat_any c md v ul ll l _w1 bdl w' hv hl ht h2 (by omega))
      obtain ⟨d, hd⟩ : ∃ d, d = satB c ll md l := ⟨_, rfl⟩
      rw [← hd] at HS HI
      clear hd bdl
      have hdd : (d != d) = false := by simp
      obtain ⟨a, cap, rfl, -⟩ := hr
      obtain ⟨al, capl, rfl, -⟩ := hrl
      have hneg : ¬ (1048576 - (szOf ll : Int) < 0) := by omega
      clear hs ht
      go_enter Try.func5, Try.ntmps5
      go_wp2_with fail
      refine (HSZ.out _ (HBX.out _ HRF.out).1).mono ?_
      rintro e w1 ⟨rfl, b1⟩
      have z1 := b1.size
      have hb := HRF.out.trans (b1.mono HRF.out.size)
      obtain ⟨kb, pb, qb⟩ := HBX.out _ hb
      clear b1
      go_wp2_with fail
      refine (HZl.out _ kb).mono ?_
      rintro e w2 ⟨rfl, rfl⟩
      go_wp2_with fail
      refine (HTO.out _ kb).mono ?_
      rintro e w3 ⟨v0, rfl, o0, b3⟩
      have z3 := b3.size
      replace hb := hb.trans (b3.mono hb.size)
      clear kb pb qb
      obtain ⟨kb, pb, qb⟩ := HBX.out _ hb
      clear b3
      go_wp2_with fail
      refine (HTD.out _ kb).mono ?_
      rintro e w4 ⟨v2, rfl, p0, b4⟩
      have z4 := b4.size
      replace hb := hb.trans (b4.mono hb.size)
      clear kb pb qb
      obtain ⟨kb, pb, qb⟩ := HBX.out _ hb
      replace o0 := o0.same (Below.keeps b4 (by omega))
      clear b4
      go_wp2_with fail
      refine (HS.out _ _ _ o0.read p0.read).mono ?_
      rintro e w5 ⟨rfl, b5⟩
      have z5 := b5.size
      replace hb := hb.trans (b5.mono hb.size)
      clear kb pb qb
      obtain ⟨kb, pb, qb⟩ := HBX.out _ hb
      clear b5
      clear o0 p0
      go_wp2_with fail
      refine (HTO.out _ kb).mono ?_
      rintro e w6 ⟨v1, rfl, o1, b6⟩
      have z6 := b6.size
      replace hb := hb.trans (b6.mono hb.size)
      clear kb pb qb
      obtain ⟨kb, pb, qb⟩ := HBX.out _ hb
      clear b6
      obtain ⟨a1, cap1, rfl, -⟩ := o1.read
      have hbX := (Below.refl w6.heap.size w6).alloc (Nat.le_refl _) (.cells #[.int .i64 c, .slice a1 ll.length cap1] 26)
      replace o1 := o1.same (Below.keeps hbX (by omega))
      replace hb := hb.trans (hbX.mono hb.size)
      clear kb pb qb
      obtain ⟨kb, pb, qb⟩ := HBX.out _ hb
      have zw6 : w6.heap.size + 1 ≤ (w6.alloc (.cells #[.int .i64 c, .slice a1 ll.length cap1] 26)).heap.size := by simp
      clear hbX
      go_wp2_with fail
      refine (HTD.out _ kb).mono ?_
      rintro e w7 ⟨v3, rfl, p1, b7⟩
      obtain ⟨xbx, xby⟩ := box2 b7
      replace p1 := p1.range
      have z7 := b7.size
      replace hb := hb.trans (b7.mono hb.size)
      clear kb pb qb
      obtain ⟨kb, pb, qb⟩ := HBX.out _ hb
      replace o1 := o1.same (Below.keeps b7 (by omega))
      clear b7
      go_wp2_with fail
      refine (HI.out _ _ _ o1.read p1.read).mono ?_
      rintro e w8 ⟨rfl, b8⟩
      have z8 := b8.size
      replace hb := hb.trans (b8.mono hb.size)
      clear kb pb qb
      obtain ⟨kb, pb, qb⟩ := HBX.out _ hb
      replace o1 := o1.same (Below.keeps b8 (by omega))
      replace p1 := p1.same (Below.keeps b8 (by omega))
      replace xbx := (b8.cell (p := ⟨w6.heap.size, 0, none⟩) (show w6.heap.size < _ by omega)).trans xbx
      replace xby := (b8.cell (p := ⟨w6.heap.size, 1, none⟩) (show w6.heap.size < _ by omega)).trans xby
      clear b8
      have r5 := o1.read
      have z58 : w6.heap.size ≤ w8.heap.size := by omega
      go_wp2_with fail
      refine wp_region_noPanic ?_
      refine wp_region_held_drew (S := (fun w' => (w'.cell? ⟨w.heap.size, 0, none⟩ = some (.int .i64 c) ∧ w'.cell? ⟨w.heap.size, 1, none⟩ = some (.slice a ll.length cap)) ∧ (w'.cell? ⟨w6.heap.size, 0, none⟩ = some (.int .i64 c) ∧ w'.cell? ⟨w6.heap.size, 1, none⟩ = some (.slice a1 ll.length cap1)) ∧ ReadSS w' (.slice a1 ll.length cap1) ll ∧ Below w8.heap.size w8 w')) (by kernel_rfl) ?_ (fun hHeld => ?_)
      · ((try dsimp only); (first | exact keepT hHeld b92 | exact keepT hHeld b91 | exact ⟨⟨pb, qb⟩, ⟨xbx, xby⟩, r5, (Below.refl _ _).drew⟩))
      refine wpAnyH_take (i := 0) (v := ?_) rfl (by kernel_rfl) (by kernel_rfl) (by kernel_rfl) (fun _ _ _ h => h) (Or.inl ⟨by rfl, ?_⟩) (by assumption) ?_
      rotate_left
      · (intro w hSw; (try dsimp only at hSw); go_simp; (try with_reducible rfl))
      (try simp only [Act.put, List.getElem_toArray, List.getElem_cons_zero, List.setIfInBounds_toArray, List.set_cons_zero, List.set_cons_succ])
      refine wpAnyH_take (i := 1) (v := ?_) rfl (by kernel_rfl) (by kernel_rfl) (by kernel_rfl) (fun _ _ _ h => h) (Or.inl ⟨by rfl, ?_⟩) (by assumption) ?_
      rotate_left
      · (intro w hSw; (try dsimp only at hSw); go_simp; (try with_reducible rfl))
      (try simp only [Act.put, List.getElem_toArray, List.getElem_cons_succ, List.getElem_cons_zero, List.setIfInBounds_toArray, List.set_cons_zero, List.set_cons_succ])
      refine wpAnyH_ready (rs := [2]) (by kernel_rfl) (by simp) (AllReadyH.cons rfl (fun K hK => ?_) AllReadyH.nil)
      (first | ((first | (go_at_call 21; refine (HTO.out _ (kb.trans (hHeld.2.2.2.mono kb.size))).mono ?_; rintro e w91 ⟨v91, rfl, o91, b91⟩; have r91 := o91.read) | (go_at_call 11; refine (HEQ.out _ _ _ hHeld.2.2.1 r91).mono ?_; rintro e w92 ⟨rfl, b92⟩))) | (go_simp; (first | (go_at_call 21; refine (HTO.out _ (kb.trans (hHeld.2.2.2.mono kb.size))).mono ?_; rintro e w91 ⟨v91, rfl, o91, b91⟩; have r91 := o91.read) | (go_at_call 11; refine (HEQ.out _ _ _ hHeld.2.2.1 r91).mono ?_; rintro e w92 ⟨rfl, b92⟩))))
      (try (go_wp2_with fail))
      refine hK.out _ _ ?_ (fun hHeld => ?_)
      · ((try dsimp only); (first | exact keepT hHeld b92 | exact keepT hHeld b91 | exact ⟨⟨pb, qb⟩, ⟨xbx, xby⟩, r5, (Below.refl _ _).drew⟩))
      clear hK K
      (try simp only [Act.put, List.getElem_toArray, List.getElem_cons_succ, List.getElem_cons_zero, List.setIfInBounds_toArray, List.set_cons_zero, List.set_cons_succ])
      refine wpAnyH_ready (rs := [3]) (by kernel_rfl) (by simp) (AllReadyH.cons rfl (fun K hK => ?_) AllReadyH.nil)
      (first | ((first | (go_at_call 21; refine (HTO.out _ (kb.trans (hHeld.2.2.2.mono kb.size))).mono ?_; rintro e w91 ⟨v91, rfl, o91, b91⟩; have r91 := o91.read) | (go_at_call 11; refine (HEQ.out _ _ _ hHeld.2.2.1 r91).mono ?_; rintro e w92 ⟨rfl, b92⟩))) | (go_simp; (first | (go_at_call 21; refine (HTO.out _ (kb.trans (hHeld.2.2.2.mono kb.size))).mono ?_; rintro e w91 ⟨v91, rfl, o91, b91⟩; have r91 := o91.read) | (go_at_call 11; refine (HEQ.out _ _ _ hHeld.2.2.1 r91).mono ?_; rintro e w92 ⟨rfl, b92⟩))))
      (try (go_wp2_with fail))
      refine hK.out _ _ ?_ (fun hHeld => ?_)
      · ((try dsimp only); (first | exact keepT hHeld b92 | exact keepT hHeld b91 | exact ⟨⟨pb, qb⟩, ⟨xbx, xby⟩, r5, (Below.refl _ _).drew⟩))
      clear hK K
      (try simp only [Act.put, List.getElem_toArray, List.getElem_cons_succ, List.getElem_cons_zero, List.setIfInBounds_toArray, List.set_cons_zero, List.set_cons_succ])
      refine wpAnyH_take (i := 4) (v := ?_) rfl (by kernel_rfl) (by kernel_rfl) (by kernel_rfl) (fun _ _ _ h => h) (Or.inl ⟨by rfl, ?_⟩) (by assumption) ?_
      rotate_left
      · (intro w hSw; (try dsimp only at hSw); go_simp; (try with_reducible rfl))
      (try simp only [Act.put, List.getElem_toArray, List.getElem_cons_succ, List.getElem_cons_zero, List.setIfInBounds_toArray, List.set_cons_zero, List.set_cons_succ])
      refine wpAnyH_done (by kernel_rfl) ?_ _
      refine NoPanic.normal ?_
      obtain ⟨w9, hw9⟩ : ∃ w', w' = w92 := ⟨_, rfl⟩
      rw [← hw9] at hHeld ⊢
      have b9 := hHeld.2.2.2
      clear hHeld b91 b92 r91 o91 r5 hw9
      have z9 := b9.size
      replace hb := hb.trans (b9.mono hb.size)
      clear kb pb qb
      obtain ⟨kb, pb, qb⟩ := HBX.out _ hb
      replace o1 := o1.same (Below.keeps b9 (by omega))
      replace p1 := p1.same (Below.keeps b9 (by omega))
      replace xbx := (b9.cell (p := ⟨w6.heap.size, 0, none⟩) (show w6.heap.size < _ by omega)).trans xbx
      replace xby := (b9.cell (p := ⟨w6.heap.size, 1, none⟩) (show w6.heap.size < _ by omega)).trans xby
      clear b9
      go_wp2_with fail
      refine (HTD.out _ kb).mono ?_
      rintro e w10 ⟨v4, rfl, p2, b10⟩
      replace p2 := p2.range
      have z10 := b10.size
      replace hb := hb.trans (b10.mono hb.size)
      clear kb pb qb
      obtain ⟨kb, pb, qb⟩ := HBX.out _ hb
      replace o1 := o1.same (Below.keeps b10 (by omega))
      replace p1 := p1.same (Below.keeps b10 (by omega))
      replace xbx := (b10.cell (p := ⟨w6.heap.size, 0, none⟩) (show w6.heap.size < _ by omega)).trans xbx
      replace xby := (b10.cell (p := ⟨w6.heap.size, 1, none⟩) (show w6.heap.size < _ by omega)).trans xby
      clear b10
      go_wp2_with fail
      refine (eqDepS_same _ _ _ _ p1.read p2.read (by omega)).mono ?_
      rintro e w11 ⟨rfl, b11⟩
      have z11 := b11.size
      replace hb := hb.trans (b11.mono hb.size)
      clear kb pb qb
      obtain ⟨kb, pb, qb⟩ := HBX.out _ hb
      replace o1 := o1.same (Below.keeps b11 (by omega))
      replace p1 := p1.same (Below.keeps b11 (by omega))
      replace p2 := p2.same (Below.keeps b11 (by omega))
      replace xbx := (b11.cell (p := ⟨w6.heap.size, 0, none⟩) (show w6.heap.size < _ by omega)).trans xbx
      replace xby := (b11.cell (p := ⟨w6.heap.size, 1, none⟩) (show w6.heap.size < _ by omega)).trans xby
      clear b11
      go_wp2_with fail
      go_ret
      exact ⟨rfl, kb⟩
    · have HZl := Lib.hid (fun w' (hb : Below w.heap.size w w') => szDepS_any vl l w' (hrl.kept hb) (1048576 - (szOf ll : Int)) (by omega) (by omega) (by unfold maxLen at hml; omega))
      rw [szD_no hszl] at HZl
      have hneg : ¬ (1048576 - (szOf ll : Int) < 0) := by omega
      obtain ⟨a, cap, rfl, -⟩ := hr
      obtain ⟨al, capl, rfl, -⟩ := hrl
      go_enter Try.func5, Try.ntmps5
      go_wp2_with fail
      refine (HSZ.out _ (HBX.out _ HRF.out).1).mono ?_
      rintro e w1 ⟨rfl, b1⟩
      have z1 := b1.size
      have hb := HRF.out.trans (b1.mono HRF.out.size)
      obtain ⟨kb, pb, qb⟩ := HBX.out _ hb
      clear b1
      go_wp2_with fail
      refine (HZl.out _ kb).mono ?_
      rintro e w2 ⟨rfl, rfl⟩
      go_wp2_with fail
      go_ret
      exact ⟨rfl, kb⟩
  · rw [szD_no (by omega)] at HSZ
    obtain ⟨a, cap, rfl, -⟩ := hr
    obtain ⟨al, capl, rfl, -⟩ := hrl
    go_enter Try.func5, Try.ntmps5
    go_wp2_with fail
    refine (HSZ.out _ (HBX.out _ HRF.out).1).mono ?_
    rintro e w1 ⟨rfl, b1⟩
    go_wp2_with fail
    go_ret
    exact ⟨rfl, (HBX.out _ (HRF.out.trans (b1.mono HRF.out.size))).1⟩

set_option linter.unusedVariables false
set_option maxRecDepth 100000 in
theorem lifted (os : Os) (started : os.Started) (H : Type) (enc : TypeId × Value → H) :
    ReturnsInHanded {} Try.checked os 5 .any (Rows.fnExactSatisfiesAllSpec.pre6 enc Try.prog Try.f5 Rows.fnExactSatisfiesAllRow.domain false) (Rows.fnExactSatisfiesAllSpec.post enc Try.prog Try.f5 false true false false) := by
  refine returnsInHanded_of_change (C := Try.checked) own started (by kernel_rfl) Try.func5
    (ChangeSpec.witness6 (enc := enc) (C := Try.checked) false ⟨#[], #[.agg #[.int .i64 0, .slice none 0 0], .int .i64 0, .slice none 0 0], []⟩ 8 (by kernel_rfl) (by kernel_rfl) (by kernel_rfl) (by kernel_rfl)) ?_
  intro W base args ds gs before hval0 hW hcnd _
  have hval : ∀ (j : Nat) t v, Try.f5.params[j]? = some t → args[j]? = some v → Value.okWide Try.prog W .any base t v := hval0
  have hW' := hW
  obtain ⟨p, q, hA0, hV, rfl, hfz, hnd⟩ := hW
  have hA : DataW.TrodAll enc Try.prog W 0 (fun _ => true) true Try.f5.params.toList args.toList ds p := hA0
  rw [Try.params5] at hA hval
  obtain ⟨v0, vs0, d0, ds0, p0, q0, hargs, rfl, rfl, h0, r0⟩ := trodAll_cons hA
  obtain ⟨v1, vs1, d1, ds1, p1, q1, rfl, rfl, rfl, h1, r1⟩ := trodAll_cons r0
  obtain ⟨v2, vs2, d2, ds2, p2, q2, rfl, rfl, rfl, h2, r2⟩ := trodAll_cons r1
  obtain ⟨rfl, rfl, rfl⟩ := trodAll_nil r2
  obtain rfl : args = #[v0, v1, v2] := by cases args; simp_all
  obtain ⟨rfl, rfl⟩ := trodVars_none hV
  have k0 := h0
  have lt0 : ∀ x ∈ p0, x.block < W.heap.size := by obtain ⟨m, hm⟩ := k0; exact DataW.trod_lt m _ _ _ hm
  obtain ⟨c0, u0, ll0, rfl, w0, r0r, s0⟩ := open_table (hval 0 42 v0 rfl rfl) k0
  obtain ⟨a1, rfl, rfl, rfl, w1⟩ := open_int Try.underlying3 (hval 1 3 v1 rfl rfl) h1
  obtain ⟨a2, len2, cap2, rfl⟩ := okWide_slice Try.underlying22 (hval 2 22 v2 rfl rfl)
  have k2 := h2
  have lt2 : ∀ x ∈ p2, x.block < W.heap.size := by obtain ⟨m, hm⟩ := k2; exact DataW.trod_lt m _ _ _ hm
  have w2 : ∃ l, ReadD W (.slice a2 len2 cap2) l ∧ l.length ≤ maxLen ∧ ∀ d ∈ l, (Lit.int .i64 d.1).wf = true ∧ (Lit.int .i64 d.2).wf = true := by
    obtain ⟨fuel, hf⟩ := h2
    exact open_deps (by simpa [Value.cells] using hf)
  obtain ⟨l2, rd2, m2, bd2⟩ := w2
  clear hA0 hval0
  refine (walk c0 u0 ll0 a1 (.slice a2 len2 cap2) l2 w0 w1 W rd2 m2 bd2 r0r s0).mono fun e W' ⟨he, hg⟩ => ?_
  subst he
  exact ⟨_, rfl, ⟨_, _, _, [], _, [], hW', trodAll_cons_mk (shut_bool Try.underlying4 _) trodAll_mk0, (trodAll_cons_mk (Below.trod laidOut (by kernel_rfl) (of_decide_eq_true (by kernel_rfl)) k0 hg lt0) (trodAll_cons_mk (shut_int Try.underlying3 w1) (trodAll_cons_mk (Below.trod laidOut (by kernel_rfl) (of_decide_eq_true (by kernel_rfl)) k2 hg lt2) trodAll_mk0))), rfl, hg.frame _, fun h => by cases h⟩⟩

theorem over : Rows.fnExactSatisfiesAllRow.holds Try.pinned (OpenSpec.ofChange Rows.fnExactSatisfiesAllSpec) :=
  OpenClaim.holds_of_wide 5 Try.f5 rfl rfl rfl rfl rfl rfl rfl ⟨rfl, rfl, rfl, rfl, rfl⟩ rfl rfl rfl rfl rfl (by kernel_rfl) Try.func5 (by kernel_rfl)
    (of_decide_eq_true (by kernel_rfl)) (by unfold Func.isWrapper; first | (rw [if_pos (by decide +kernel)]; kernel_rfl) | (rw [if_neg (by decide +kernel)]; exact ⟨rfl, rfl⟩))
    (fun os started H enc _ => lifted os started H enc)

theorem proved : Rows.FnExactSatisfiesAllSaid := over
end Go.Proofs.Ytpnapdhcdhcacaa.lawFnExactSatisfiesAll
