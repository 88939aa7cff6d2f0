/- ProductOf answers as its model at every argument; it writes into no argument; its answer owns its memory. Conditions: none beyond the row's own. -/
import Derived.Test.YtkaalgbcdcbgoaaPrtD
import Derived.Test.YtkaalgbcdcbgoaaSSLaw
import Derived.Test.YtkaalgbcdcbgoaaRowsOpen
namespace Go.Proofs.Ytkaalgbcdcbgoaa.lawFnExactProductOf
open Go.ChangeShapes Go.WideShapes Go.ChangeAt Go.RowKit
theorem laidOut : laidOutB Try.prog = true := by kernel_rfl

theorem own : ownKnob Try.prog.godebug = none := by kernel_rfl

set_option maxRecDepth 20000 in
set_option maxHeartbeats 3200000 in
theorem walk (v : Value) (p : List (List Int)) (v' : Value) (q : List (List Int)) (rows : Int) (_w0 : (Lit.int .i64 rows).wf = true) (w : World) (hr : ReadSS w v p) (hs : Short p) (hr' : ReadSS w v' q) (hs' : Short q) :
    Calls Try.prog 4 #[v, v', .int .i64 rows] w fun e w' => e = .returned (.bool true) ∧ Below w.heap.size w w' := by
  have HZ0 := Lib.hid (fun w' (hb : Below w.heap.size w w') => szSS_any v p w' (hr.kept hb) hs 1048576 (by omega) (by omega))
  have hb := Below.refl w.heap.size w
  by_cases hsz : szOf p ≤ 1048576
  · rw [szD_ok (by omega)] at HZ0
    have hneg : ¬ (1048576 - (szOf p : Int) < 0) := by omega
    have HZ1 := Lib.hid (fun w' (hb : Below w.heap.size w w') => szSS_any v' q w' (hr'.kept hb) hs' (1048576 - (szOf p : Int)) (by omega) (by omega))
    by_cases hsz' : (szOf q : Int) ≤ 1048576 - (szOf p : Int)
    · rw [szD_ok hsz'] at HZ1
      have hneg' : ¬ (1048576 - (szOf p : Int) - (szOf q : Int) < 0) := by omega
      obtain ⟨hl0, ht0⟩ := szOf_bd (m := 1048576) (ll := p) (by omega)
      have htt0 := szOf_tot (d := p) (by omega)
      have ht10 := tot_one (d := p) (by omega)
      have HTO0 := Lib.hid (fun w' (hb : Below w.heap.size w w') => toIntSS_any v p w' (hr.kept hb) hl0 ht0)
      have HEQ0 := Lib.hid (fun u u' w' (h : ReadSS w' u p) (h' : ReadSS w' u' p) => eqSS_any u u' p w' h h' hl0 htt0)
      have HMK0 := Lib.hid (fun u k B C w' (ho : OwnSS w' B C u p) (h0 : 0 ≤ k) (h1 : k ≤ 1048576) => markIntSS_any u p k B C w' ho hl0 htt0 h0 h1)
      obtain ⟨hl1, ht1⟩ := szOf_bd (m := 1048576) (ll := q) (by omega)
      have htt1 := szOf_tot (d := q) (by omega)
      have ht11 := tot_one (d := q) (by omega)
      have HTO1 := Lib.hid (fun w' (hb : Below w.heap.size w w') => toIntSS_any v' q w' (hr'.kept hb) hl1 ht1)
      have HEQ1 := Lib.hid (fun u u' w' (h : ReadSS w' u q) (h' : ReadSS w' u' q) => eqSS_any u u' q w' h h' hl1 htt1)
      have HMK1 := Lib.hid (fun u k B C w' (ho : OwnSS w' B C u q) (h0 : 0 ≤ k) (h1 : k ≤ 1048576) => markIntSS_any u q k B C w' ho hl1 htt1 h0 h1)
      have HS := Lib.hid (fun u0 u1 w' (h0 : ReadSS w' u0 p) (h1 : ReadSS w' u1 q) => productOf_any2 u0 u1 p q rows w' h0 h1 hl0 htt0 hl1 htt1)
      have HI := Lib.hid (fun u0 u1 w' (h0 : ReadSS w' u0 p) (h1 : ReadSS w' u1 q) => implProductOf_any u0 u1 p q rows w' h0 h1 hl0 htt0 hl1 htt1)
      obtain ⟨d, hd, hdl, hdt⟩ : ∃ d, d = proS p q rows ∧ d.length ≤ 1048576 ∧ tot d ≤ 1048576 := ⟨_, rfl, by have := proS_bd p q rows; omega, by have := proS_bd p q rows; omega⟩
      rw [← hd] at HS HI
      have HED := Lib.hid (fun u u' w' (h : ReadSS w' u d) (h' : ReadSS w' u' d) => eqSS_any u u' d w' h h' hdl hdt)
      clear hd
      obtain ⟨a0, cap0, rfl, -⟩ := hr
      obtain ⟨a1, cap1, rfl, -⟩ := hr'
      clear hs hs' ht0 ht1
      go_enter Try.func4, Try.ntmps4
      go_wp2_with fail
      refine (HZ0.out _ hb).mono ?_
      rintro e w1 ⟨rfl, b1⟩
      have z1 := b1.size
      replace hb := hb.trans (b1.mono hb.size)
      clear b1
      go_wp2_with fail
      refine (HZ1.out _ hb).mono ?_
      rintro e w2 ⟨rfl, b2⟩
      have z2 := b2.size
      replace hb := hb.trans (b2.mono hb.size)
      clear b2
      go_wp2_with fail
      refine (HTO0.out _ hb).mono ?_
      rintro e w3 ⟨xs0, rfl, s0, b3⟩
      have z3 := b3.size
      replace hb := hb.trans (b3.mono hb.size)
      clear b3
      go_wp2_with fail
      refine (HTO1.out _ hb).mono ?_
      rintro e w4 ⟨xs1, rfl, s1, b4⟩
      have z4 := b4.size
      replace hb := hb.trans (b4.mono hb.size)
      replace s0 := s0.same (Below.keeps b4 (by omega))
      clear b4
      go_wp2_with fail
      refine (HS.out _ _ _ s0.read s1.read).mono ?_
      rintro e w5 ⟨y0, rfl, oy, b5⟩
      have z5 := b5.size
      replace hb := hb.trans (b5.mono hb.size)
      replace s0 := s0.same (Below.keeps b5 (by omega))
      replace s1 := s1.same (Below.keeps b5 (by omega))
      clear b5
      clear s0
      clear s1
      go_wp2_with fail
      refine (HTO0.out _ hb).mono ?_
      rintro e w6 ⟨xo0, rfl, o0, b6⟩
      have z6 := b6.size
      replace hb := hb.trans (b6.mono hb.size)
      replace oy := oy.same (Below.keeps b6 (by omega))
      clear b6
      go_wp2_with fail
      refine (HTO1.out _ hb).mono ?_
      rintro e w7 ⟨xo1, rfl, o1, b7⟩
      have z7 := b7.size
      replace hb := hb.trans (b7.mono hb.size)
      replace oy := oy.same (Below.keeps b7 (by omega))
      replace o0 := o0.same (Below.keeps b7 (by omega))
      clear b7
      go_wp2_with fail
      refine (HI.out _ _ _ o0.read o1.read).mono ?_
      rintro e w8 ⟨g0, rfl, og, b8⟩
      have z8 := b8.size
      replace hb := hb.trans (b8.mono hb.size)
      replace oy := oy.same (Below.keeps b8 (by omega))
      replace o0 := o0.same (Below.keeps b8 (by omega))
      replace o1 := o1.same (Below.keeps b8 (by omega))
      clear b8
      go_wp2_with fail
      refine (HED.out _ _ _ og.read oy.read).mono ?_
      rintro e w9 ⟨rfl, b9⟩
      have z9 := b9.size
      replace hb := hb.trans (b9.mono hb.size)
      replace oy := oy.same (Below.keeps b9 (by omega))
      replace o0 := o0.same (Below.keeps b9 (by omega))
      replace o1 := o1.same (Below.keeps b9 (by omega))
      replace og := og.same (Below.keeps b9 (by omega))
      clear b9
      go_wp2_with fail
      refine (HTO0.out _ hb).mono ?_
      rintro e w10 ⟨xt0, rfl, t0, b10⟩
      have z10 := b10.size
      replace hb := hb.trans (b10.mono hb.size)
      replace oy := oy.same (Below.keeps b10 (by omega))
      replace o0 := o0.same (Below.keeps b10 (by omega))
      replace o1 := o1.same (Below.keeps b10 (by omega))
      replace og := og.same (Below.keeps b10 (by omega))
      clear b10
      go_wp2_with fail
      refine (HEQ0.out _ _ _ o0.read t0.read).mono ?_
      rintro e w11 ⟨rfl, b11⟩
      have z11 := b11.size
      replace hb := hb.trans (b11.mono hb.size)
      replace oy := oy.same (Below.keeps b11 (by omega))
      replace o0 := o0.same (Below.keeps b11 (by omega))
      replace o1 := o1.same (Below.keeps b11 (by omega))
      replace og := og.same (Below.keeps b11 (by omega))
      replace t0 := t0.same (Below.keeps b11 (by omega))
      clear b11
      clear t0
      go_wp2_with fail
      refine (HTO1.out _ hb).mono ?_
      rintro e w12 ⟨xt1, rfl, t1, b12⟩
      have z12 := b12.size
      replace hb := hb.trans (b12.mono hb.size)
      replace oy := oy.same (Below.keeps b12 (by omega))
      replace o0 := o0.same (Below.keeps b12 (by omega))
      replace o1 := o1.same (Below.keeps b12 (by omega))
      replace og := og.same (Below.keeps b12 (by omega))
      clear b12
      go_wp2_with fail
      refine (HEQ1.out _ _ _ o1.read t1.read).mono ?_
      rintro e w13 ⟨rfl, b13⟩
      have z13 := b13.size
      replace hb := hb.trans (b13.mono hb.size)
      replace oy := oy.same (Below.keeps b13 (by omega))
      replace o0 := o0.same (Below.keeps b13 (by omega))
      replace o1 := o1.same (Below.keeps b13 (by omega))
      replace og := og.same (Below.keeps b13 (by omega))
      replace t1 := t1.same (Below.keeps b13 (by omega))
      clear b13
      clear t1
      go_wp2_with fail
      refine (HMK0.out _ (1) _ _ _ o0 (by omega) (by omega)).mono ?_
      rintro e w14 ⟨rfl, om, m14⟩
      have z14 := m14.size
      replace hb := hb.trans (m14.below (by omega) (by omega))
      replace oy := oy.same (m14.same (by omega) (by omega))
      replace o1 := o1.same (m14.same (by omega) (by omega))
      replace og := og.same (m14.same (by omega) (by omega))
      clear m14
      clear om
      clear o0
      go_wp2_with fail
      refine (HMK1.out _ (1 + (tot p : Int)) _ _ _ o1 (by omega) (by omega)).mono ?_
      rintro e w15 ⟨rfl, om, m15⟩
      have z15 := m15.size
      replace hb := hb.trans (m15.below (by omega) (by omega))
      replace oy := oy.same (m15.same (by omega) (by omega))
      replace og := og.same (m15.same (by omega) (by omega))
      clear m15
      clear om
      clear o1
      have hk : ¬ (1 + (tot p : Int) + (tot q : Int) < 0) := by omega
      go_wp2_with fail
      refine (HED.out _ _ _ og.read oy.read).mono ?_
      rintro e w16 ⟨rfl, b16⟩
      have z16 := b16.size
      replace hb := hb.trans (b16.mono hb.size)
      replace oy := oy.same (Below.keeps b16 (by omega))
      replace og := og.same (Below.keeps b16 (by omega))
      clear b16
      go_wp2_with fail
      refine (markIntSS_any _ d 1 _ _ _ og hdl hdt (by omega) (by omega)).mono ?_
      rintro e w17 ⟨rfl, og', m17⟩
      have z17 := m17.size
      replace hb := hb.trans (m17.below (by omega) (by omega))
      replace oy := oy.same (m17.same (by omega) (by omega))
      clear m17
      clear og
      have og := og'
      clear og'
      have hk1 : ¬ (1 + (tot d : Int) < 0) := by omega
      have hk2 : (1 + (tot d : Int) != 1 + (tot d : Int)) = false := by simp
      go_wp2_with fail
      refine (heldSS_any _ d _ og.read hdl hdt).mono ?_
      rintro e w18 ⟨rfl, b18⟩
      have z18 := b18.size
      replace hb := hb.trans (b18.mono hb.size)
      replace oy := oy.same (Below.keeps b18 (by omega))
      replace og := og.same (Below.keeps b18 (by omega))
      clear b18
      go_wp2_with fail
      refine (HTO0.out _ hb).mono ?_
      rintro e w19 ⟨xr0, rfl, r0, b19⟩
      have z19 := b19.size
      replace hb := hb.trans (b19.mono hb.size)
      replace oy := oy.same (Below.keeps b19 (by omega))
      replace og := og.same (Below.keeps b19 (by omega))
      clear b19
      go_wp2_with fail
      refine (HTO1.out _ hb).mono ?_
      rintro e w20 ⟨xr1, rfl, r1, b20⟩
      have z20 := b20.size
      replace hb := hb.trans (b20.mono hb.size)
      replace oy := oy.same (Below.keeps b20 (by omega))
      replace og := og.same (Below.keeps b20 (by omega))
      replace r0 := r0.same (Below.keeps b20 (by omega))
      clear b20
      go_wp2_with fail
      refine (HI.out _ _ _ r0.read r1.read).mono ?_
      rintro e w21 ⟨g3, rfl, oh, b21⟩
      have z21 := b21.size
      replace hb := hb.trans (b21.mono hb.size)
      replace oy := oy.same (Below.keeps b21 (by omega))
      replace og := og.same (Below.keeps b21 (by omega))
      replace r0 := r0.same (Below.keeps b21 (by omega))
      replace r1 := r1.same (Below.keeps b21 (by omega))
      clear b21
      go_wp2_with fail
      refine (HED.out _ _ _ oh.read oy.read).mono ?_
      rintro e w22 ⟨rfl, b22⟩
      have z22 := b22.size
      replace hb := hb.trans (b22.mono hb.size)
      replace oy := oy.same (Below.keeps b22 (by omega))
      replace og := og.same (Below.keeps b22 (by omega))
      replace r0 := r0.same (Below.keeps b22 (by omega))
      replace r1 := r1.same (Below.keeps b22 (by omega))
      replace oh := oh.same (Below.keeps b22 (by omega))
      clear b22
      go_wp2_with fail
      refine (heldSS_any _ d _ og.read hdl hdt).mono ?_
      rintro e w23 ⟨rfl, b23⟩
      have z23 := b23.size
      replace hb := hb.trans (b23.mono hb.size)
      replace oy := oy.same (Below.keeps b23 (by omega))
      replace og := og.same (Below.keeps b23 (by omega))
      replace r0 := r0.same (Below.keeps b23 (by omega))
      replace r1 := r1.same (Below.keeps b23 (by omega))
      replace oh := oh.same (Below.keeps b23 (by omega))
      clear b23
      go_wp2_with fail
      go_ret
      exact ⟨rfl, hb⟩
    · rw [szD_no hsz'] at HZ1
      obtain ⟨a0, cap0, rfl, -⟩ := hr
      obtain ⟨a1, cap1, rfl, -⟩ := hr'
      go_enter Try.func4, Try.ntmps4
      go_wp2_with fail
      refine (HZ0.out _ hb).mono ?_
      rintro e w1 ⟨rfl, b1⟩
      have z1 := b1.size
      replace hb := hb.trans (b1.mono hb.size)
      clear b1
      go_wp2_with fail
      refine (HZ1.out _ hb).mono ?_
      rintro e w2 ⟨rfl, b2⟩
      replace hb := hb.trans (b2.mono hb.size)
      go_wp2_with fail
      go_ret
      exact ⟨rfl, hb⟩
  · rw [szD_no (by omega)] at HZ0
    obtain ⟨a0, cap0, rfl, -⟩ := hr
    obtain ⟨a1, cap1, rfl, -⟩ := hr'
    go_enter Try.func4, Try.ntmps4
    go_wp2_with fail
    refine (HZ0.out _ hb).mono ?_
    rintro e w1 ⟨rfl, b1⟩
    have z1 := b1.size
    replace hb := hb.trans (b1.mono hb.size)
    clear b1
    go_wp2_with fail
    go_ret
    exact ⟨rfl, hb⟩

set_option linter.unusedVariables false
set_option maxRecDepth 100000 in
theorem lifted (os : Os) (started : os.Started) (H : Type) (enc : TypeId × Value → H) :
    ReturnsInHanded {} Try.checked os 4 .any (Rows.fnExactProductOfSpec.pre6 enc Try.prog Try.f4 Rows.fnExactProductOfRow.domain false) (Rows.fnExactProductOfSpec.post enc Try.prog Try.f4 false true false false) := by
  refine returnsInHanded_of_change (C := Try.checked) own started (by kernel_rfl) Try.func4
    (ChangeSpec.witness6 (enc := enc) (C := Try.checked) false ⟨#[], #[.slice none 0 0, .slice none 0 0, .int .i64 0], []⟩ 8 (by kernel_rfl) (by kernel_rfl) (by kernel_rfl) (by kernel_rfl)) ?_
  intro W base args ds gs before hval0 hW hcnd _
  have hval : ∀ (j : Nat) t v, Try.f4.params[j]? = some t → args[j]? = some v → Value.okWide Try.prog W .any base t v := hval0
  have hW' := hW
  obtain ⟨p, q, hA0, hV, rfl, hfz, hnd⟩ := hW
  have hA : DataW.TrodAll enc Try.prog W 0 (fun _ => true) true Try.f4.params.toList args.toList ds p := hA0
  rw [Try.params4] at hA hval
  obtain ⟨v0, vs0, d0, ds0, p0, q0, hargs, rfl, rfl, h0, r0⟩ := trodAll_cons hA
  obtain ⟨v1, vs1, d1, ds1, p1, q1, rfl, rfl, rfl, h1, r1⟩ := trodAll_cons r0
  obtain ⟨v2, vs2, d2, ds2, p2, q2, rfl, rfl, rfl, h2, r2⟩ := trodAll_cons r1
  obtain ⟨rfl, rfl, rfl⟩ := trodAll_nil r2
  obtain rfl : args = #[v0, v1, v2] := by cases args; simp_all
  obtain ⟨rfl, rfl⟩ := trodVars_none hV
  obtain ⟨a0, len0, cap0, rfl⟩ := okWide_slice Try.underlying22 (hval 0 22 v0 rfl rfl)
  have k0 := h0
  have lt0 : ∀ x ∈ p0, x.block < W.heap.size := by obtain ⟨m, hm⟩ := k0; exact DataW.trod_lt m _ _ _ hm
  have w0 : ∃ l, ReadSS W (.slice a0 len0 cap0) l ∧ Short l ∧ I64ss l := by
    obtain ⟨fuel, hf⟩ := h0
    exact open_rows2 (by simpa [Value.cells] using hf)
  obtain ⟨l0, rd0, s0, bd0⟩ := w0
  obtain ⟨a1, len1, cap1, rfl⟩ := okWide_slice Try.underlying22 (hval 1 22 v1 rfl rfl)
  have k1 := h1
  have lt1 : ∀ x ∈ p1, x.block < W.heap.size := by obtain ⟨m, hm⟩ := k1; exact DataW.trod_lt m _ _ _ hm
  have w1 : ∃ l, ReadSS W (.slice a1 len1 cap1) l ∧ Short l ∧ I64ss l := by
    obtain ⟨fuel, hf⟩ := h1
    exact open_rows2 (by simpa [Value.cells] using hf)
  obtain ⟨l1, rd1, s1, bd1⟩ := w1
  obtain ⟨a2, rfl, rfl, rfl, w2⟩ := open_int Try.underlying3 (hval 2 3 v2 rfl rfl) h2
  clear hA0 hval0
  refine (walk (.slice a0 len0 cap0) l0 (.slice a1 len1 cap1) l1 a2 w2 W rd0 s0 rd1 s1).mono fun e W' ⟨he, hg⟩ => ?_
  subst he
  exact ⟨_, rfl, ⟨_, _, _, [], _, [], hW', trodAll_cons_mk (shut_bool Try.underlying4 _) trodAll_mk0, (trodAll_cons_mk (Below.trod laidOut (by kernel_rfl) (of_decide_eq_true (by kernel_rfl)) k0 hg lt0) (trodAll_cons_mk (Below.trod laidOut (by kernel_rfl) (of_decide_eq_true (by kernel_rfl)) k1 hg lt1) (trodAll_cons_mk (shut_int Try.underlying3 w2) trodAll_mk0))), rfl, hg.frame _, fun h => by cases h⟩⟩

theorem over : Rows.fnExactProductOfRow.holds Try.pinned (OpenSpec.ofChange Rows.fnExactProductOfSpec) :=
  OpenClaim.holds_of_wide 4 Try.f4 rfl rfl rfl rfl rfl rfl rfl ⟨rfl, rfl, rfl, rfl, rfl⟩ rfl rfl rfl rfl rfl (by kernel_rfl) Try.func4 (by kernel_rfl)
    (of_decide_eq_true (by kernel_rfl)) (by unfold Func.isWrapper; first | (rw [if_pos (by decide +kernel)]; kernel_rfl) | (rw [if_neg (by decide +kernel)]; exact ⟨rfl, rfl⟩))
    (fun os started H enc _ => lifted os started H enc)

theorem proved : Rows.FnExactProductOfSaid := over
end Go.Proofs.Ytkaalgbcdcbgoaa.lawFnExactProductOf
