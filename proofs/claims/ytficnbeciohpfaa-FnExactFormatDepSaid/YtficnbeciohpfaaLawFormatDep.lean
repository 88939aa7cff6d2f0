/- FormatDep answers as its model at every argument; it writes into no argument; its answer owns its memory. Conditions: none beyond the row's own. -/
import Derived.Test.YtficnbeciohpfaaDdA
import Derived.Test.YtficnbeciohpfaaDepO
namespace Go.Proofs.Ytficnbeciohpfaa.lawFnExactFormatDep
open Go.ChangeShapes Go.WideShapes Go.ChangeAt Go.RowKit
theorem laidOut : laidOutB Try.prog = true := by kernel_rfl

theorem own : ownKnob Try.prog.godebug = none := by kernel_rfl

theorem walk (l r : Int) (_w1 : (Lit.int .i64 l).wf = true) (_w2 : (Lit.int .i64 r).wf = true) (w : World) :
    Calls Try.prog 7 #[.agg #[.int .i64 l, .int .i64 r]] w fun e w' => e = .returned (.bool true) ∧ Below w.heap.size w w' := by
  have hb1 := (Below.refl w.heap.size w).alloc (Nat.le_refl _) (.cells #[.int .i64 l, .int .i64 r] 23)
  have HBX := Lib.hid (fun w' (hb : Below (w.alloc (.cells #[.int .i64 l, .int .i64 r] 23)).heap.size (w.alloc (.cells #[.int .i64 l, .int .i64 r] 23)) w') => And.intro (hb1.trans (hb.mono hb1.size)) (box2 hb))
  have HRF := Lib.hid (Below.refl (w.alloc (.cells #[.int .i64 l, .int .i64 r] 23)).heap.size (w.alloc (.cells #[.int .i64 l, .int .i64 r] 23)))
  obtain ⟨-, c0, c1⟩ := HBX.out _ HRF.out
  have HT := Lib.hid (toDep_any l r)
  have HS := Lib.hid (formatDep_any l r)
  have HI := Lib.hid (implFormatDep_any l r _w1 _w2)
  obtain ⟨d, hd⟩ : ∃ d, d = fmtD l r := ⟨_, rfl⟩
  rw [← hd] at HS HI
  have hdd : (d.toList != d.toList) = false := by simp
  clear hb1 hd
  go_enter Try.func7, Try.ntmps7
  go_wp2_with fail
  refine (HT.out _).mono ?_
  rintro e w1 ⟨rfl, b1⟩
  have kb := HRF.out.trans (b1.mono HRF.out.size)
  clear b1 c0 c1
  obtain ⟨-, c0, c1⟩ := HBX.out _ kb
  go_wp2_with fail
  refine (HS.out _).mono ?_
  rintro e w2 ⟨rfl, b2⟩
  replace kb := kb.trans (b2.mono kb.size)
  clear b2 c0 c1
  obtain ⟨-, c0, c1⟩ := HBX.out _ kb
  go_wp2_with fail
  refine (HT.out _).mono ?_
  rintro e w3 ⟨rfl, b3⟩
  replace kb := kb.trans (b3.mono kb.size)
  clear b3 c0 c1
  obtain ⟨-, c0, c1⟩ := HBX.out _ kb
  go_wp2_with fail
  refine (HI.out _).mono ?_
  rintro e w4 ⟨rfl, b4⟩
  replace kb := kb.trans (b4.mono kb.size)
  obtain ⟨hbe, -, -⟩ := HBX.out _ kb
  go_wp2_with fail
  go_ret
  exact ⟨rfl, hbe⟩

set_option linter.unusedVariables false
set_option maxRecDepth 100000 in
theorem lifted (os : Os) (started : os.Started) (H : Type) (enc : TypeId × Value → H) :
    ReturnsInHanded {} Try.checked os 7 .any (Rows.fnExactFormatDepSpec.pre6 enc Try.prog Try.f7 Rows.fnExactFormatDepRow.domain false) (Rows.fnExactFormatDepSpec.post enc Try.prog Try.f7 false true false false) := by
  refine returnsInHanded_of_change (C := Try.checked) own started (by kernel_rfl) Try.func7
    (ChangeSpec.witness6 (enc := enc) (C := Try.checked) false ⟨#[], #[.agg #[.int .i64 0, .int .i64 0]], []⟩ 8 (by kernel_rfl) (by kernel_rfl) (by kernel_rfl) (by kernel_rfl)) ?_
  intro W base args ds gs before hval0 hW hcnd _
  have hval : ∀ (j : Nat) t v, Try.f7.params[j]? = some t → args[j]? = some v → Value.okWide Try.prog W .any base t v := hval0
  have hW' := hW
  obtain ⟨p, q, hA0, hV, rfl, hfz, hnd⟩ := hW
  have hA : DataW.TrodAll enc Try.prog W 0 (fun _ => true) true Try.f7.params.toList args.toList ds p := hA0
  rw [Try.params7] at hA hval
  obtain ⟨v0, vs0, d0, ds0, p0, q0, hargs, rfl, rfl, h0, r0⟩ := trodAll_cons hA
  obtain ⟨rfl, rfl, rfl⟩ := trodAll_nil r0
  obtain rfl : args = #[v0] := by cases args; simp_all
  obtain ⟨rfl, rfl⟩ := trodVars_none hV
  have k0 := h0
  have lt0 : ∀ x ∈ p0, x.block < W.heap.size := by obtain ⟨m, hm⟩ := k0; exact DataW.trod_lt m _ _ _ hm
  obtain ⟨x0, y0, rfl, w0, w0b⟩ := open_dep (hval 0 23 v0 rfl rfl) k0
  clear hA0 hval0
  refine (walk x0 y0 w0 w0b W).mono fun e W' ⟨he, hg⟩ => ?_
  subst he
  exact ⟨_, rfl, ⟨_, _, _, [], _, [], hW', trodAll_cons_mk (shut_bool Try.underlying4 _) trodAll_mk0, (trodAll_cons_mk (Below.trod laidOut (by kernel_rfl) (of_decide_eq_true (by kernel_rfl)) k0 hg lt0) trodAll_mk0), rfl, hg.frame _, fun h => by cases h⟩⟩

theorem over : Rows.fnExactFormatDepRow.holds Try.pinned (OpenSpec.ofChange Rows.fnExactFormatDepSpec) :=
  OpenClaim.holds_of_wide 7 Try.f7 rfl rfl rfl rfl rfl rfl rfl ⟨rfl, rfl, rfl, rfl, rfl⟩ rfl rfl rfl rfl rfl (by kernel_rfl) Try.func7 (by kernel_rfl)
    (of_decide_eq_true (by kernel_rfl)) (by unfold Func.isWrapper; first | (rw [if_pos (by decide +kernel)]; kernel_rfl) | (rw [if_neg (by decide +kernel)]; exact ⟨rfl, rfl⟩))
    (fun os started H enc _ => lifted os started H enc)

theorem proved : Rows.FnExactFormatDepSaid := over
end Go.Proofs.Ytficnbeciohpfaa.lawFnExactFormatDep
