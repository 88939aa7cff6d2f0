/- ParseDep answers as its model at every argument; it writes into no argument; its answer owns its memory. Conditions: none beyond the row's own. -/
import Derived.Test.YtficnbeciohpfaaDdP
import Derived.Test.YtficnbeciohpfaaDepD
import Derived.Test.YtficnbeciohpfaaDepH
import Derived.Test.YtficnbeciohpfaaDepO
namespace Go.Proofs.Ytficnbeciohpfaa.lawFnExactParseDep
open Go.ChangeShapes Go.WideShapes Go.ChangeAt Go.RowKit
open Go.ChangeMaps (open_string shut_string)

theorem own : ownKnob Try.prog.godebug = none := by kernel_rfl

theorem walk (n : Int) (s : ByteArray) (_w0 : (Lit.int .i64 n).wf = true) (_w1 : s.size ≤ maxLen) (w : World) :
    Calls Try.prog 8 #[.int .i64 n, .string s] w fun e w' => e = .returned (.bool true) ∧ Below w.heap.size w w' := by
  by_cases hs : s.size ≤ 1048576
  · have HS := Lib.hid (fun w' => parseDep_any n s w' hs)
    have HI := Lib.hid (fun w' => implParseDep_any n s _w0 w' hs)
    obtain ⟨x, hx⟩ : ∃ x, x = pdL n s := ⟨_, rfl⟩
    obtain ⟨y, hy⟩ : ∃ y, y = pdR n s := ⟨_, rfl⟩
    obtain ⟨b, hb⟩ : ∃ b, b = okP n s := ⟨_, rfl⟩
    rw [← hx, ← hy, ← hb] at HS HI
    have HE := Lib.hid (fun w' => eqDep_any x y x y w')
    rw [show (decide (x = x) && decide (y = y)) = true by simp] at HE
    have hbb : (b != b) = false := by simp
    have hs2 : ¬ (1048576 : Int) < (s.size : Int) := by omega
    clear hx hy hb
    go_enter Try.func8, Try.ntmps8
    go_wp2_with fail
    refine (HS.out _).mono ?_
    rintro e w1 ⟨rfl, b1⟩
    go_wp2_with fail
    refine (HI.out _).mono ?_
    rintro e w2 ⟨rfl, b2⟩
    obtain ⟨g0, g1⟩ := box2 b2
    have b3 := (Below.refl w2.heap.size w2).alloc (Nat.le_refl _) (.cells #[.int .i64 x, .int .i64 y] 25)
    have hbe := b1.trans (((Below.refl w1.heap.size w1).alloc (Nat.le_refl _) (.cells #[.int .i64 x, .int .i64 y] 25)).mono b1.size)
    have hbf := (hbe.trans (b2.mono hbe.size))
    have hbg := hbf.trans (b3.mono hbf.size)
    replace g0 := cell_on g0 b3
    replace g1 := cell_on g1 b3
    obtain ⟨f0, f1⟩ := zero2 w2 25 (.int .i64 x) (.int .i64 y)
    clear b1 b2 b3 hbe hbf
    go_wp2_with fail
    refine (HE.out _).mono ?_
    rintro e w3 ⟨rfl, b3⟩
    have hbh := hbg.trans (b3.mono hbg.size)
    go_wp2_with fail
    go_ret
    exact ⟨rfl, hbh⟩
  · have hs2 : (1048576 : Int) < (s.size : Int) := by omega
    go_enter Try.func8, Try.ntmps8
    go_wp2_with fail
    go_ret
    exact ⟨rfl, Below.refl _ _⟩

set_option linter.unusedVariables false
set_option maxRecDepth 100000 in
theorem lifted (os : Os) (started : os.Started) (H : Type) (enc : TypeId × Value → H) :
    ReturnsInHanded {} Try.checked os 8 .any (Rows.fnExactParseDepSpec.pre6 enc Try.prog Try.f8 Rows.fnExactParseDepRow.domain false) (Rows.fnExactParseDepSpec.post enc Try.prog Try.f8 false true false false) := by
  refine returnsInHanded_of_change (C := Try.checked) own started (by kernel_rfl) Try.func8
    (ChangeSpec.witness6 (enc := enc) (C := Try.checked) false ⟨#[], #[.int .i64 0, .string ByteArray.empty], []⟩ 8 (by kernel_rfl) (by kernel_rfl) (by kernel_rfl) (by kernel_rfl)) ?_
  intro W base args ds gs before hval0 hW hcnd _
  have hval : ∀ (j : Nat) t v, Try.f8.params[j]? = some t → args[j]? = some v → Value.okWide Try.prog W .any base t v := hval0
  have hW' := hW
  obtain ⟨p, q, hA0, hV, rfl, hfz, hnd⟩ := hW
  have hA : DataW.TrodAll enc Try.prog W 0 (fun _ => true) true Try.f8.params.toList args.toList ds p := hA0
  rw [Try.params8] at hA hval
  obtain ⟨v0, vs0, d0, ds0, p0, q0, hargs, rfl, rfl, h0, r0⟩ := trodAll_cons hA
  obtain ⟨v1, vs1, d1, ds1, p1, q1, rfl, rfl, rfl, h1, r1⟩ := trodAll_cons r0
  obtain ⟨rfl, rfl, rfl⟩ := trodAll_nil r1
  obtain rfl : args = #[v0, v1] := by cases args; simp_all
  obtain ⟨rfl, rfl⟩ := trodVars_none hV
  obtain ⟨a0, rfl, rfl, rfl, w0⟩ := open_int Try.underlying3 (hval 0 3 v0 rfl rfl) h0
  obtain ⟨a1, rfl, rfl, rfl, w1⟩ := open_string Try.underlying9 (hval 1 9 v1 rfl rfl) h1
  clear hA0 hval0
  simp only [List.append_nil] at hW'
  refine (walk a0 a1 w0 w1 W).mono fun e W' ⟨he, hg⟩ => ?_
  subst he
  exact ⟨_, rfl, ⟨_, _, _, [], [], [], hW', trodAll_cons_mk (shut_bool Try.underlying4 _) trodAll_mk0, (trodAll_cons_mk (shut_int Try.underlying3 w0) (trodAll_cons_mk (shut_string Try.underlying9 w1) trodAll_mk0)), rfl, hg.frame _, fun h => by cases h⟩⟩

theorem over : Rows.fnExactParseDepRow.holds Try.pinned (OpenSpec.ofChange Rows.fnExactParseDepSpec) :=
  OpenClaim.holds_of_wide 8 Try.f8 rfl rfl rfl rfl rfl rfl rfl ⟨rfl, rfl, rfl, rfl, rfl⟩ rfl rfl rfl rfl rfl (by kernel_rfl) Try.func8 (by kernel_rfl)
    (of_decide_eq_true (by kernel_rfl)) (by unfold Func.isWrapper; first | (rw [if_pos (by decide +kernel)]; kernel_rfl) | (rw [if_neg (by decide +kernel)]; exact ⟨rfl, rfl⟩))
    (fun os started H enc _ => lifted os started H enc)

theorem proved : Rows.FnExactParseDepSaid := over
end Go.Proofs.Ytficnbeciohpfaa.lawFnExactParseDep
