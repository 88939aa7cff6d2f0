/- DepsOfAgreeSets answers as its model at every argument; it writes into no argument; its answer owns its memory. Conditions: none beyond the row's own. -/
import Derived.Test.YtcgkfbjdlhapkaaAxDm
import Derived.Test.YtcgkfbjdlhapkaaYa53
import Derived.Test.YtcgkfbjdlhapkaaYa2
import Derived.Test.YtcgkfbjdlhapkaaYa51
import Derived.Test.YtcgkfbjdlhapkaaParDm
import Derived.Test.YtcgkfbjdlhapkaaYa17
namespace Go.Proofs.Ytcgkfbjdlhapkaa.lawFnExactDepsOfAgreeSets
open Go.ChangeShapes Go.WideShapes Go.ChangeAt Go.RowKit
theorem laidOut : laidOutB Try.prog = true := by kernel_rfl

theorem own : ownKnob Try.prog.godebug = none := by kernel_rfl

set_option maxRecDepth 20000 in
set_option maxHeartbeats 3200000 in
theorem walk (n : Int) (v : Value) (l : List Int) (_w0 : (Lit.int .i64 n).wf = true) (w : World) (hr : ReadI w v l) (_hm : l.length ≤ maxLen) (hbd : I64s l) :
    Calls Try.prog 5 #[.int .i64 n, v] w fun e w' => e = .returned (.bool true) ∧ Below w.heap.size w w' := by
  by_cases hsz : l.length ≤ 1048576
  · have HTO := Lib.hid (fun w' (hb : Below w.heap.size w w') => toInt_any v l w' (hr.kept hb) hsz)
    have HS := Lib.hid (fun u w' (hv : ReadI w' u l) => depsOfAgree12_any u n l w' hv hsz)
    have HI := Lib.hid (fun u w' (hv : ReadI w' u l) => implDas_any u n l _w0 hbd w' hv hsz)
    obtain ⟨d, hd, hdl⟩ : ∃ d, d = dasL n l ∧ d.length ≤ 1048576 := ⟨_, rfl, by have := dasL_len n l; omega⟩
    rw [← hd] at HS HI
    clear hd hbd
    have hb := Below.refl w.heap.size w
    obtain ⟨a, cap, rfl, -⟩ := hr
    have hg0 : ¬ (1048576 : Int) < (l.length : Int) := by omega
    go_enter Try.func5, Try.ntmps5
    go_wp2_with fail
    refine (HTO.out _ hb).mono ?_
    rintro e w1 ⟨v0, rfl, o0, b1⟩
    have z1 := b1.size
    replace hb := hb.trans (b1.mono hb.size)
    clear b1
    go_wp2_with fail
    refine (HS.out _ _ o0.read).mono ?_
    rintro e w2 ⟨y0, rfl, oy, b2⟩
    replace oy := oy.range
    have z2 := b2.size
    replace hb := hb.trans (b2.mono hb.size)
    clear b2
    go_wp2_with fail
    refine (HTO.out _ hb).mono ?_
    rintro e w3 ⟨v1, rfl, o1, b3⟩
    replace o1 := o1.range
    have z3 := b3.size
    replace hb := hb.trans (b3.mono hb.size)
    replace oy := oy.same (Below.keeps b3 (by omega))
    clear b3
    go_wp2_with fail
    refine (HI.out _ _ o1.read).mono ?_
    rintro e w4 ⟨g0, rfl, og, b4⟩
    replace og := og.range
    have z4 := b4.size
    replace hb := hb.trans (b4.mono hb.size)
    replace oy := oy.same (Below.keeps b4 (by omega))
    replace o1 := o1.same (Below.keeps b4 (by omega))
    clear b4
    go_wp2_with fail
    refine (eqDepS_same _ _ _ _ og.read oy.read (by omega)).mono ?_
    rintro e w5 ⟨rfl, b5⟩
    have z5 := b5.size
    replace hb := hb.trans (b5.mono hb.size)
    replace oy := oy.same (Below.keeps b5 (by omega))
    replace o1 := o1.same (Below.keeps b5 (by omega))
    replace og := og.same (Below.keeps b5 (by omega))
    clear b5
    go_wp2_with fail
    refine (HTO.out _ hb).mono ?_
    rintro e w6 ⟨v2, rfl, o2, b6⟩
    replace o2 := o2.range
    have z6 := b6.size
    replace hb := hb.trans (b6.mono hb.size)
    replace oy := oy.same (Below.keeps b6 (by omega))
    replace o1 := o1.same (Below.keeps b6 (by omega))
    replace og := og.same (Below.keeps b6 (by omega))
    clear b6
    go_wp2_with fail
    refine (eqIntR_any _ _ _ _ o1.read o2.read (by omega)).mono ?_
    rintro e w7 ⟨rfl, b7⟩
    have z7 := b7.size
    replace hb := hb.trans (b7.mono hb.size)
    replace oy := oy.same (Below.keeps b7 (by omega))
    replace o1 := o1.same (Below.keeps b7 (by omega))
    replace og := og.same (Below.keeps b7 (by omega))
    replace o2 := o2.same (Below.keeps b7 (by omega))
    clear b7
    go_wp2_with fail
    refine (markIntR_any _ _ 1 _ _ _ o1 (by omega) (by omega) (by omega)).mono ?_
    rintro e w8 ⟨rfl, o1m, m8⟩
    have z8 := m8.size
    replace hb := hb.trans (m8.below (by omega) (by omega))
    replace oy := oy.same (m8.same (by omega) (by omega))
    replace og := og.same (m8.same (by omega) (by omega))
    replace o2 := o2.same (m8.same (by omega) (by omega))
    clear m8
    clear o1
    have hk : ¬ (1 + (l.length : Int) < 0) := by omega
    go_wp2_with fail
    refine (eqDepS_same _ _ _ _ og.read oy.read (by omega)).mono ?_
    rintro e w9 ⟨rfl, b9⟩
    have z9 := b9.size
    replace hb := hb.trans (b9.mono hb.size)
    replace oy := oy.same (Below.keeps b9 (by omega))
    replace og := og.same (Below.keeps b9 (by omega))
    replace o2 := o2.same (Below.keeps b9 (by omega))
    clear b9
    go_wp2_with fail
    refine (markDepR_any _ _ 1 _ _ _ og (by omega) (by omega) (by omega)).mono ?_
    rintro e w10 ⟨rfl, og', m10⟩
    have z10 := m10.size
    replace hb := hb.trans (m10.below (by omega) (by omega))
    replace oy := oy.same (m10.same (by omega) (by omega))
    replace o2 := o2.same (m10.same (by omega) (by omega))
    clear m10
    clear og
    have og := og'
    clear og'
    have hk1 : ¬ (1 + 2 * (d.length : Int) < 0) := by omega
    have hk2 : (1 + 2 * (d.length : Int) != 1 + 2 * (d.length : Int)) = false := by simp
    go_wp2_with fail
    refine (heldDepR_any _ _ 1 _ og.read (by omega) (by omega) (by omega)).mono ?_
    rintro e w11 ⟨rfl, b11⟩
    have z11 := b11.size
    replace hb := hb.trans (b11.mono hb.size)
    replace oy := oy.same (Below.keeps b11 (by omega))
    replace og := og.same (Below.keeps b11 (by omega))
    replace o2 := o2.same (Below.keeps b11 (by omega))
    clear b11
    go_wp2_with fail
    refine (HTO.out _ hb).mono ?_
    rintro e w12 ⟨v3, rfl, o3, b12⟩
    have z12 := b12.size
    replace hb := hb.trans (b12.mono hb.size)
    replace oy := oy.same (Below.keeps b12 (by omega))
    replace og := og.same (Below.keeps b12 (by omega))
    replace o2 := o2.same (Below.keeps b12 (by omega))
    clear b12
    go_wp2_with fail
    refine (HI.out _ _ o3.read).mono ?_
    rintro e w13 ⟨g3, rfl, oh, b13⟩
    replace oh := oh.range
    have z13 := b13.size
    replace hb := hb.trans (b13.mono hb.size)
    replace oy := oy.same (Below.keeps b13 (by omega))
    replace og := og.same (Below.keeps b13 (by omega))
    replace o2 := o2.same (Below.keeps b13 (by omega))
    clear b13
    go_wp2_with fail
    refine (eqDepS_same _ _ _ _ oh.read oy.read (by omega)).mono ?_
    rintro e w14 ⟨rfl, b14⟩
    have z14 := b14.size
    replace hb := hb.trans (b14.mono hb.size)
    replace oy := oy.same (Below.keeps b14 (by omega))
    replace og := og.same (Below.keeps b14 (by omega))
    replace o2 := o2.same (Below.keeps b14 (by omega))
    replace oh := oh.same (Below.keeps b14 (by omega))
    clear b14
    go_wp2_with fail
    refine (heldDepR_any _ _ 1 _ og.read (by omega) (by omega) (by omega)).mono ?_
    rintro e w15 ⟨rfl, b15⟩
    have z15 := b15.size
    replace hb := hb.trans (b15.mono hb.size)
    replace oy := oy.same (Below.keeps b15 (by omega))
    replace og := og.same (Below.keeps b15 (by omega))
    replace o2 := o2.same (Below.keeps b15 (by omega))
    replace oh := oh.same (Below.keeps b15 (by omega))
    clear b15
    go_wp2_with fail
    go_ret
    exact ⟨rfl, hb⟩
  · have hg0 : (1048576 : Int) < (l.length : Int) := by omega
    obtain ⟨a, cap, rfl, -⟩ := hr
    go_enter Try.func5, Try.ntmps5
    go_wp2_with fail
    go_ret
    exact ⟨rfl, Below.refl _ _⟩

set_option linter.unusedVariables false
set_option maxRecDepth 100000 in
theorem lifted (os : Os) (started : os.Started) (H : Type) (enc : TypeId × Value → H) :
    ReturnsInHanded {} Try.checked os 5 .any (Rows.fnExactDepsOfAgreeSetsSpec.pre6 enc Try.prog Try.f5 Rows.fnExactDepsOfAgreeSetsRow.domain false) (Rows.fnExactDepsOfAgreeSetsSpec.post enc Try.prog Try.f5 false true false false) := by
  refine returnsInHanded_of_change (C := Try.checked) own started (by kernel_rfl) Try.func5
    (ChangeSpec.witness6 (enc := enc) (C := Try.checked) false ⟨#[], #[.int .i64 0, .slice none 0 0], []⟩ 8 (by kernel_rfl) (by kernel_rfl) (by kernel_rfl) (by kernel_rfl)) ?_
  intro W base args ds gs before hval0 hW hcnd _
  have hval : ∀ (j : Nat) t v, Try.f5.params[j]? = some t → args[j]? = some v → Value.okWide Try.prog W .any base t v := hval0
  have hW' := hW
  obtain ⟨p, q, hA0, hV, rfl, hfz, hnd⟩ := hW
  have hA : DataW.TrodAll enc Try.prog W 0 (fun _ => true) true Try.f5.params.toList args.toList ds p := hA0
  rw [Try.params5] at hA hval
  obtain ⟨v0, vs0, d0, ds0, p0, q0, hargs, rfl, rfl, h0, r0⟩ := trodAll_cons hA
  obtain ⟨v1, vs1, d1, ds1, p1, q1, rfl, rfl, rfl, h1, r1⟩ := trodAll_cons r0
  obtain ⟨rfl, rfl, rfl⟩ := trodAll_nil r1
  obtain rfl : args = #[v0, v1] := by cases args; simp_all
  obtain ⟨rfl, rfl⟩ := trodVars_none hV
  obtain ⟨a0, rfl, rfl, rfl, w0⟩ := open_int Try.underlying3 (hval 0 3 v0 rfl rfl) h0
  obtain ⟨a1, len1, cap1, rfl⟩ := okWide_slice Try.underlying24 (hval 1 24 v1 rfl rfl)
  have k1 := h1
  have lt1 : ∀ x ∈ p1, x.block < W.heap.size := by obtain ⟨m, hm⟩ := k1; exact DataW.trod_lt m _ _ _ hm
  have w1 : ∃ l, ReadI W (.slice a1 len1 cap1) l ∧ l.length ≤ maxLen ∧ I64s l := by
    obtain ⟨fuel, hf⟩ := h1
    rcases open_ints Try.underlying24 Try.underlying3 (by kernel_rfl) hf with ⟨hcs, _⟩ | ⟨x, l, c, zs, hcs, _, hl, hm, hz, _, hcell, hwz⟩
    · simp [Value.cells] at hcs
      obtain ⟨rfl, rfl, rfl⟩ := hcs
      exact ⟨[], ⟨none, 0, rfl, fun i hi => absurd hi (Nat.not_lt_zero _)⟩, Nat.zero_le _, fun x hx => by cases hx⟩
    · simp [Value.cells] at hcs
      obtain ⟨rfl, rfl, rfl⟩ := hcs
      have hzl : zs.length = cap1 := by simpa using hz
      have hlen : (zs.take len1).length = len1 := by rw [List.length_take]; omega
      refine ⟨zs.take len1, ⟨some x, cap1, by rw [hlen], fun i hi => ⟨x, rfl, ?_⟩⟩, by rw [hlen]; omega, fun y hy => ?_⟩
      · rw [hlen] at hi
        have hi2 : i < zs.length := by omega
        have hc := hcell i hi2
        rw [List.getD_eq_getElem?_getD, List.getElem?_eq_getElem hi2] at hc
        rw [List.getElem_take]; exact hc
      · have hwf := hwz y (List.mem_of_mem_take hy)
        exact ⟨wf_i64_ge hwf, wf_i64_le hwf⟩
  obtain ⟨l1, rd1, m1, bd1⟩ := w1
  clear hA0 hval0
  refine (walk a0 (.slice a1 len1 cap1) l1 w0 W rd1 m1 bd1).mono fun e W' ⟨he, hg⟩ => ?_
  subst he
  exact ⟨_, rfl, ⟨_, _, _, [], _, [], hW', trodAll_cons_mk (shut_bool Try.underlying4 _) trodAll_mk0, (trodAll_cons_mk (shut_int Try.underlying3 w0) (trodAll_cons_mk (Below.trod laidOut (by kernel_rfl) (of_decide_eq_true (by kernel_rfl)) k1 hg lt1) trodAll_mk0)), rfl, hg.frame _, fun h => by cases h⟩⟩

theorem over : Rows.fnExactDepsOfAgreeSetsRow.holds Try.pinned (OpenSpec.ofChange Rows.fnExactDepsOfAgreeSetsSpec) :=
  OpenClaim.holds_of_wide 5 Try.f5 rfl rfl rfl rfl rfl rfl rfl ⟨rfl, rfl, rfl, rfl, rfl⟩ rfl rfl rfl rfl rfl (by kernel_rfl) Try.func5 (by kernel_rfl)
    (of_decide_eq_true (by kernel_rfl)) (by unfold Func.isWrapper; first | (rw [if_pos (by decide +kernel)]; kernel_rfl) | (rw [if_neg (by decide +kernel)]; exact ⟨rfl, rfl⟩))
    (fun os started H enc _ => lifted os started H enc)

theorem proved : Rows.FnExactDepsOfAgreeSetsSaid := over
end Go.Proofs.Ytcgkfbjdlhapkaa.lawFnExactDepsOfAgreeSets
