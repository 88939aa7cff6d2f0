/- SameDeps answers as its model at every argument; it writes into no argument; its answer owns its memory. Conditions: none beyond the row's own. -/
import Derived.Test.YtficnbeciohpfaaDdS
import Derived.Test.YtficnbeciohpfaaDepH
import Derived.Test.YtficnbeciohpfaaDepO
namespace Go.Proofs.Ytficnbeciohpfaa.lawFnExactSameDeps
open Go.ChangeShapes Go.WideShapes Go.ChangeAt Go.RowKit
theorem laidOut : laidOutB Try.prog = true := by kernel_rfl

theorem own : ownKnob Try.prog.godebug = none := by kernel_rfl

set_option maxRecDepth 20000 in
set_option maxHeartbeats 1600000 in
theorem walk (v : Value) (d : List (Int × Int)) (v' : Value) (e : List (Int × Int)) (w : World) (hr : ReadD w v d) (m0 : d.length ≤ maxLen) (_bd0 : ∀ x ∈ d, (Lit.int .i64 x.1).wf = true ∧ (Lit.int .i64 x.2).wf = true) (hr' : ReadD w v' e) (m1 : e.length ≤ maxLen) (_bd1 : ∀ x ∈ e, (Lit.int .i64 x.1).wf = true ∧ (Lit.int .i64 x.2).wf = true) :
    Calls Try.prog 9 #[v, v'] w fun e w' => e = .returned (.bool true) ∧ Below w.heap.size w w' := by
  unfold maxLen at m0 m1
  have HZ := Lib.hid (fun w' (hb : Below w.heap.size w w') => szDepS_any v d w' (hr.kept hb) 1048576 (by omega) (by omega) (by omega))
  have hb := Below.refl w.heap.size w
  by_cases hsz : (d.length : Int) ≤ 1048576
  · rw [show szD 1048576 d.length = 1048576 - d.length by unfold szD; rw [if_pos hsz]] at HZ
    have HZ' := Lib.hid (fun w' (hb : Below w.heap.size w w') => szDepS_any v' e w' (hr'.kept hb) (1048576 - (d.length : Int)) (by omega) (by omega) (by omega))
    have hneg : ¬ (1048576 - (d.length : Int) < 0) := by omega
    by_cases hsz' : (e.length : Int) ≤ 1048576 - (d.length : Int)
    · rw [show szD (1048576 - (d.length : Int)) e.length = 1048576 - (d.length : Int) - e.length by unfold szD; rw [if_pos hsz']] at HZ'
      have hneg' : ¬ (1048576 - (d.length : Int) - (e.length : Int) < 0) := by omega
      have HTA := Lib.hid (fun w' (hb : Below w.heap.size w w') => toDepS_any v d w' (hr.kept hb) (by omega))
      have HTB := Lib.hid (fun w' (hb : Below w.heap.size w w') => toDepS_any v' e w' (hr'.kept hb) (by omega))
      have HS := Lib.hid (fun u u' w' (h : ReadD w' u d) (h' : ReadD w' u' e) => sameDeps_any u u' d e w' h h' (by omega))
      have HI := Lib.hid (fun u u' w' (h : ReadD w' u d) (h' : ReadD w' u' e) => implSameDeps_any u u' d e w' h h' (by omega) (by omega))
      have HEA := Lib.hid (fun u u' w' (h : ReadD w' u d) (h' : ReadD w' u' d) => eqDepS_same u u' d w' h h' (by omega))
      have HEB := Lib.hid (fun u u' w' (h : ReadD w' u e) (h' : ReadD w' u' e) => eqDepS_same u u' e w' h h' (by omega))
      obtain ⟨b, hbv⟩ : ∃ b, b = decide (d = e) := ⟨_, rfl⟩
      rw [← hbv] at HS HI
      have hbb : (b != b) = false := by simp
      obtain ⟨a0, cap0, rfl, -⟩ := hr
      obtain ⟨a1, cap1, rfl, -⟩ := hr'
      clear hbv
      go_enter Try.func9, Try.ntmps9
      go_wp2_with fail
      refine (HZ.out _ hb).mono ?_
      rintro e1 w1 ⟨rfl, rfl⟩
      go_wp2_with fail
      refine (HZ'.out _ hb).mono ?_
      rintro e1 w1 ⟨rfl, rfl⟩
      go_wp2_with fail
      refine (HTA.out _ hb).mono ?_
      rintro e1 w1 ⟨u0, rfl, o0, b1⟩
      replace hb := hb.trans (b1.mono hb.size)
      have r0 := o0.read
      go_wp2_with fail
      refine (HTB.out _ hb).mono ?_
      rintro e1 w2 ⟨u1, rfl, o1, b2⟩
      replace hb := hb.trans (b2.mono hb.size)
      replace r0 := r0.kept b2
      have r1 := o1.read
      go_wp2_with fail
      refine (HS.out _ _ _ r0 r1).mono ?_
      rintro e1 w3 ⟨rfl, b3⟩
      replace hb := hb.trans (b3.mono hb.size)
      clear r0 r1 o0 o1 b1 b2 b3
      go_wp2_with fail
      refine (HTA.out _ hb).mono ?_
      rintro e1 w4 ⟨u2, rfl, o0, b1⟩
      replace hb := hb.trans (b1.mono hb.size)
      have r0 := o0.read
      go_wp2_with fail
      refine (HTB.out _ hb).mono ?_
      rintro e1 w5 ⟨u3, rfl, o1, b2⟩
      replace hb := hb.trans (b2.mono hb.size)
      replace r0 := r0.kept b2
      have r1 := o1.read
      go_wp2_with fail
      refine (HI.out _ _ _ r0 r1).mono ?_
      rintro e1 w6 ⟨rfl, b3⟩
      replace hb := hb.trans (b3.mono hb.size)
      replace r0 := r0.kept b3
      replace r1 := r1.kept b3
      clear o0 o1 b1 b2 b3
      go_wp2_with fail
      refine (HTA.out _ hb).mono ?_
      rintro e1 w7 ⟨u4, rfl, o4, b4⟩
      replace hb := hb.trans (b4.mono hb.size)
      replace r0 := r0.kept b4
      replace r1 := r1.kept b4
      have r4 := o4.read
      clear o4 b4
      go_wp2_with fail
      refine (HEA.out _ _ _ r0 r4).mono ?_
      rintro e1 w8 ⟨rfl, b5⟩
      replace hb := hb.trans (b5.mono hb.size)
      replace r1 := r1.kept b5
      clear r0 r4 b5
      go_wp2_with fail
      refine (HTB.out _ hb).mono ?_
      rintro e1 w9 ⟨u5, rfl, o5, b6⟩
      replace hb := hb.trans (b6.mono hb.size)
      replace r1 := r1.kept b6
      have r5 := o5.read
      clear o5 b6
      go_wp2_with fail
      refine (HEB.out _ _ _ r1 r5).mono ?_
      rintro e1 w10 ⟨rfl, b7⟩
      replace hb := hb.trans (b7.mono hb.size)
      go_wp2_with fail
      go_ret
      exact ⟨rfl, hb⟩
    · rw [show szD (1048576 - (d.length : Int)) e.length = -1 by unfold szD; rw [if_neg hsz']] at HZ'
      obtain ⟨a0, cap0, rfl, -⟩ := hr
      obtain ⟨a1, cap1, rfl, -⟩ := hr'
      go_enter Try.func9, Try.ntmps9
      go_wp2_with fail
      refine (HZ.out _ hb).mono ?_
      rintro e1 w1 ⟨rfl, rfl⟩
      go_wp2_with fail
      refine (HZ'.out _ hb).mono ?_
      rintro e1 w1 ⟨rfl, rfl⟩
      go_wp2_with fail
      go_ret
      exact ⟨rfl, hb⟩
  · rw [show szD 1048576 d.length = -1 by unfold szD; rw [if_neg hsz]] at HZ
    obtain ⟨a0, cap0, rfl, -⟩ := hr
    obtain ⟨a1, cap1, rfl, -⟩ := hr'
    go_enter Try.func9, Try.ntmps9
    go_wp2_with fail
    refine (HZ.out _ hb).mono ?_
    rintro e1 w1 ⟨rfl, rfl⟩
    go_wp2_with fail
    go_ret
    exact ⟨rfl, hb⟩

set_option linter.unusedVariables false
set_option maxRecDepth 100000 in
theorem lifted (os : Os) (started : os.Started) (H : Type) (enc : TypeId × Value → H) :
    ReturnsInHanded {} Try.checked os 9 .any (Rows.fnExactSameDepsSpec.pre6 enc Try.prog Try.f9 Rows.fnExactSameDepsRow.domain false) (Rows.fnExactSameDepsSpec.post enc Try.prog Try.f9 false true false false) := by
  refine returnsInHanded_of_change (C := Try.checked) own started (by kernel_rfl) Try.func9
    (ChangeSpec.witness6 (enc := enc) (C := Try.checked) false ⟨#[], #[.slice none 0 0, .slice none 0 0], []⟩ 8 (by kernel_rfl) (by kernel_rfl) (by kernel_rfl) (by kernel_rfl)) ?_
  intro W base args ds gs before hval0 hW hcnd _
  have hval : ∀ (j : Nat) t v, Try.f9.params[j]? = some t → args[j]? = some v → Value.okWide Try.prog W .any base t v := hval0
  have hW' := hW
  obtain ⟨p, q, hA0, hV, rfl, hfz, hnd⟩ := hW
  have hA : DataW.TrodAll enc Try.prog W 0 (fun _ => true) true Try.f9.params.toList args.toList ds p := hA0
  rw [Try.params9] at hA hval
  obtain ⟨v0, vs0, d0, ds0, p0, q0, hargs, rfl, rfl, h0, r0⟩ := trodAll_cons hA
  obtain ⟨v1, vs1, d1, ds1, p1, q1, rfl, rfl, rfl, h1, r1⟩ := trodAll_cons r0
  obtain ⟨rfl, rfl, rfl⟩ := trodAll_nil r1
  obtain rfl : args = #[v0, v1] := by cases args; simp_all
  obtain ⟨rfl, rfl⟩ := trodVars_none hV
  obtain ⟨a0, len0, cap0, rfl⟩ := okWide_slice Try.underlying46 (hval 0 46 v0 rfl rfl)
  have k0 := h0
  have lt0 : ∀ x ∈ p0, x.block < W.heap.size := by obtain ⟨m, hm⟩ := k0; exact DataW.trod_lt m _ _ _ hm
  have w0 : ∃ l, ReadD W (.slice a0 len0 cap0) l ∧ l.length ≤ maxLen ∧ ∀ d ∈ l, (Lit.int .i64 d.1).wf = true ∧ (Lit.int .i64 d.2).wf = true := by
    obtain ⟨fuel, hf⟩ := h0
    exact open_deps (by simpa [Value.cells] using hf)
  obtain ⟨l0, rd0, m0, bd0⟩ := w0
  obtain ⟨a1, len1, cap1, rfl⟩ := okWide_slice Try.underlying46 (hval 1 46 v1 rfl rfl)
  have k1 := h1
  have lt1 : ∀ x ∈ p1, x.block < W.heap.size := by obtain ⟨m, hm⟩ := k1; exact DataW.trod_lt m _ _ _ hm
  have w1 : ∃ l, ReadD W (.slice a1 len1 cap1) l ∧ l.length ≤ maxLen ∧ ∀ d ∈ l, (Lit.int .i64 d.1).wf = true ∧ (Lit.int .i64 d.2).wf = true := by
    obtain ⟨fuel, hf⟩ := h1
    exact open_deps (by simpa [Value.cells] using hf)
  obtain ⟨l1, rd1, m1, bd1⟩ := w1
  clear hA0 hval0
  refine (walk (.slice a0 len0 cap0) l0 (.slice a1 len1 cap1) l1  W rd0 m0 bd0 rd1 m1 bd1).mono fun e W' ⟨he, hg⟩ => ?_
  subst he
  exact ⟨_, rfl, ⟨_, _, _, [], _, [], hW', trodAll_cons_mk (shut_bool Try.underlying4 _) trodAll_mk0, (trodAll_cons_mk (Below.trod laidOut (by kernel_rfl) (of_decide_eq_true (by kernel_rfl)) k0 hg lt0) (trodAll_cons_mk (Below.trod laidOut (by kernel_rfl) (of_decide_eq_true (by kernel_rfl)) k1 hg lt1) trodAll_mk0)), rfl, hg.frame _, fun h => by cases h⟩⟩

theorem over : Rows.fnExactSameDepsRow.holds Try.pinned (OpenSpec.ofChange Rows.fnExactSameDepsSpec) :=
  OpenClaim.holds_of_wide 9 Try.f9 rfl rfl rfl rfl rfl rfl rfl ⟨rfl, rfl, rfl, rfl, rfl⟩ rfl rfl rfl rfl rfl (by kernel_rfl) Try.func9 (by kernel_rfl)
    (of_decide_eq_true (by kernel_rfl)) (by unfold Func.isWrapper; first | (rw [if_pos (by decide +kernel)]; kernel_rfl) | (rw [if_neg (by decide +kernel)]; exact ⟨rfl, rfl⟩))
    (fun os started H enc _ => lifted os started H enc)

theorem proved : Rows.FnExactSameDepsSaid := over
end Go.Proofs.Ytficnbeciohpfaa.lawFnExactSameDeps
