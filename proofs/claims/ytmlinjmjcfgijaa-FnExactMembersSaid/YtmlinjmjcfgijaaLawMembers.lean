/- Members answers as its model at every argument, and its answer is its own memory. Conditions: none beyond the row's own. -/
import Derived.Test.YtmlinjmjcfgijaaImB
namespace Go.Proofs.Ytmlinjmjcfgijaa.lawFnExactMembers
open Go.ChangeShapes Go.WideShapes Go.ChangeAt Go.RowKit

theorem own : ownKnob Try.prog.godebug = none := by kernel_rfl

set_option maxHeartbeats 1600000 in
theorem walk (x : Int) (_w0 : (Lit.int .i64 x).wf = true) (w : World) :
    Calls Try.prog 5 #[.int .i64 x] w fun e w' => e = .returned (.bool true) ∧ Below w.heap.size w w' := by
  have HS : Hid (∀ (w : World), Calls Try.prog 26 #[.int .i64 x] w (RetI (mems x) w)) := Lib.hid (membersS_any x)
  have HI : Hid (∀ (w : World), Calls Try.prog 16 #[.int .i64 x] w (RetI (mems x) w)) := Lib.hid (implMembers_any x (wf_i64_ge _w0) (wf_i64_le _w0))
  obtain ⟨l, hl, hlen⟩ : ∃ l, l = mems x ∧ l.length ≤ 1000000 := ⟨_, rfl, by have := mems_len x; omega⟩
  rw [← hl] at HS HI
  clear hl _w0
  have HE : eqB l l = true := by unfold eqB; simp
  go_enter Try.func5, Try.ntmps5
  go_wp2_with fail
  refine (HS.out _).mono ?_
  rintro e w1 ⟨v0, rfl, o0, b1⟩
  go_wp2_with fail
  refine (HI.out _).mono ?_
  rintro e w2 ⟨v1, rfl, o1, b2⟩
  have o02 := o0.kept b2 (fun k hk => (OwnI.lt o0 k hk).2)
  go_wp2_with fail
  refine (eqInt_any v1 v0 l l w2 o1.read o02.read (by omega)).mono ?_
  rintro e w3 ⟨rfl, b3⟩
  have o13 := o1.kept b3 (fun k hk => (OwnI.lt o1 k hk).2)
  have o03 := o02.kept b3 (fun k hk => (OwnI.lt o02 k hk).2)
  go_wp2_with fail
  refine (markInt_any v1 l 1 _ w3 o13 (by omega) (by omega) (by omega)).mono ?_
  rintro e w4 ⟨rfl, o14, g4⟩
  have o04 := o03.keptBy g4 (fun k hk => by
    intro e
    have h1 := (OwnI.lt o13 k hk).1
    have h2 := (OwnI.lt o0 k e).2
    omega)
  have b4 := ((b1.trans (b2.mono b1.size)).trans (b3.mono (Nat.le_trans b1.size b2.size))).grown g4 (Nat.le_trans b1.size (Nat.le_trans b2.size b3.size)) (fun k hk => Nat.le_trans b1.size (OwnI.lt o13 k hk).1)
  go_wp2_with fail
  refine (heldInt_any v1 l.length 1 w4 o14.read (by omega) (by omega) (by omega)).mono ?_
  rintro e w' ⟨rfl, rfl⟩
  go_wp2_with fail
  refine (HI.out _).mono ?_
  rintro e w6 ⟨v2, rfl, o2, b6⟩
  have o16 := o14.kept b6 (fun k hk => (OwnI.lt o14 k hk).2)
  have o06 := o04.kept b6 (fun k hk => (OwnI.lt o04 k hk).2)
  go_wp2_with fail
  refine (eqInt_any v2 v0 l l w6 o2.read o06.read (by omega)).mono ?_
  rintro e w7 ⟨rfl, b7⟩
  have o17 := o16.kept b7 (fun k hk => (OwnI.lt o16 k hk).2)
  go_wp2_with fail
  refine (heldInt_any v1 l.length 1 w7 o17.read (by omega) (by omega) (by omega)).mono ?_
  rintro e w' ⟨rfl, rfl⟩
  go_wp2_with fail
  go_ret
  exact ⟨rfl, (b4.trans (b6.mono b4.size)).trans (b7.mono (Nat.le_trans b4.size b6.size))⟩

set_option linter.unusedVariables false
set_option maxRecDepth 100000 in
theorem lifted (os : Os) (started : os.Started) (H : Type) (enc : TypeId × Value → H) :
    ReturnsInHanded {} Try.checked os 5 .any (Rows.fnExactMembersSpec.pre6 enc Try.prog Try.f5 Rows.fnExactMembersRow.domain false) (Rows.fnExactMembersSpec.post enc Try.prog Try.f5 false true false false) := by
  refine returnsInHanded_of_change (C := Try.checked) own started (by kernel_rfl) Try.func5
    (ChangeSpec.witness6 (enc := enc) (C := Try.checked) false ⟨#[], #[.int .i64 0], []⟩ 8 (by kernel_rfl) (by kernel_rfl) (by kernel_rfl) (by kernel_rfl)) ?_
  intro W base args ds gs before hval0 hW hcnd _
  have hval : ∀ (j : Nat) t v, Try.f5.params[j]? = some t → args[j]? = some v → Value.okWide Try.prog W .any base t v := hval0
  have hW' := hW
  obtain ⟨p, q, hA0, hV, rfl, hfz, hnd⟩ := hW
  have hA : DataW.TrodAll enc Try.prog W 0 (fun _ => true) true Try.f5.params.toList args.toList ds p := hA0
  rw [Try.params5] at hA hval
  obtain ⟨v0, vs0, d0, ds0, p0, q0, hargs, rfl, rfl, h0, r0⟩ := trodAll_cons hA
  obtain ⟨rfl, rfl, rfl⟩ := trodAll_nil r0
  obtain rfl : args = #[v0] := by cases args; simp_all
  obtain ⟨rfl, rfl⟩ := trodVars_none hV
  obtain ⟨a0, rfl, rfl, rfl, w0⟩ := open_int Try.underlying3 (hval 0 3 v0 rfl rfl) h0
  clear hA0 hval0
  simp only [List.append_nil] at hW'
  refine (walk a0 w0 W).mono fun e W' ⟨he, hg⟩ => ?_
  subst he
  exact ⟨_, rfl, ⟨_, _, _, [], [], [], hW', trodAll_cons_mk (shut_bool Try.underlying4 _) trodAll_mk0, (trodAll_cons_mk (shut_int Try.underlying3 w0) trodAll_mk0), rfl, hg.frame _, fun h => by cases h⟩⟩

theorem over : Rows.fnExactMembersRow.holds Try.pinned (OpenSpec.ofChange Rows.fnExactMembersSpec) :=
  OpenClaim.holds_of_wide 5 Try.f5 rfl rfl rfl rfl rfl rfl rfl ⟨rfl, rfl, rfl, rfl, rfl⟩ rfl rfl rfl rfl rfl (by kernel_rfl) Try.func5 (by kernel_rfl)
    (of_decide_eq_true (by kernel_rfl)) (by unfold Func.isWrapper; first | (rw [if_pos (by decide +kernel)]; kernel_rfl) | (rw [if_neg (by decide +kernel)]; exact ⟨rfl, rfl⟩))
    (fun os started H enc _ => lifted os started H enc)

theorem proved : Rows.FnExactMembersSaid := over
end Go.Proofs.Ytmlinjmjcfgijaa.lawFnExactMembers
