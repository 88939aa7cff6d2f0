/- Texts of this claim, merged: ImG. Conditions: as stated. -/
import Derived.Test.YtficnbeciohpfaaSg7
import Derived.Test.YtficnbeciohpfaaSg19
namespace Go.Proofs.Ytficnbeciohpfaa
open Go.RowKit

/-- The function of a mode. -/
def eqFn (m : Int) : Value := if m = 0 then .func (.func 74) #[] #[] else if m = 1 then .func (.func 75) #[] #[] else .nilFunc
theorem eqFn_0 : eqFn 0 = .func (.func 74) #[] #[] := rfl
theorem eqFn_1 : eqFn 1 = .func (.func 75) #[] #[] := rfl
theorem eqFun0_any (a b : Int) (w : World) :
    Calls Try.prog 74 #[.int .i64 a, .int .i64 b] w fun e w' => e = .returned (.bool (eqC 0 a b)) ∧ w = w' := by
  have HE := Lib.hid (show eqC 0 a b = decide (a = b) by unfold eqC; simp)
  go_enter Try.func74, Try.ntmps74
  go_wp2_with fail
  go_ret
  exact ⟨ret_b (by rw [HE.out]; rfl), rfl⟩
theorem eqFun1_any (a b : Int) (w : World) :
    Calls Try.prog 75 #[.int .i64 a, .int .i64 b] w fun e w' => e = .returned (.bool (eqC 1 a b)) ∧ w = w' := by
  by_cases h : a = b
  · subst h
    by_cases ha : a = -1
    · subst ha
      go_enter Try.func75, Try.ntmps75
      go_wp2_with fail
      go_ret
      exact ⟨ret_b (by decide), rfl⟩
    · have e1 : (a != -1) = true := by simpa using ha
      have HE := Lib.hid (show eqC 1 a a = true by unfold eqC; simp [ha])
      clear ha
      go_enter Try.func75, Try.ntmps75
      go_wp2_with fail
      go_ret
      exact ⟨ret_b HE.out, rfl⟩
  · have e0 : (a == b) = false := by simpa using h
    have HE := Lib.hid (show eqC 1 a b = false by unfold eqC; simp [h])
    clear h
    go_enter Try.func75, Try.ntmps75
    go_wp2_with fail
    go_ret
    exact ⟨ret_b HE.out, rfl⟩
theorem eqOf_any (m : Int) (w : World) :
    Calls Try.prog 62 #[.int .i64 m] w fun e w' => e = .returned (.tuple #[eqFn m, .bool (modeOk m)]) ∧ w = w' := by
  by_cases h0 : m = 0
  · subst h0
    go_enter Try.func62, Try.ntmps62
    go_wp2_with fail
    go_ret2
    exact ⟨rfl, rfl⟩
  · by_cases h1 : m = 1
    · subst h1
      go_enter Try.func62, Try.ntmps62
      go_wp2_with fail
      go_ret2
      exact ⟨rfl, rfl⟩
    · have e0 : (m == 0) = false := by simpa using h0
      have e1 : (m == 1) = false := by simpa using h1
      have HF := Lib.hid (show eqFn m = .nilFunc by unfold eqFn; rw [if_neg h0, if_neg h1])
      have HM := Lib.hid (show modeOk m = false by unfold modeOk; rw [decide_eq_false]; omega)
      clear h0 h1
      go_enter Try.func62, Try.ntmps62
      go_wp2_with fail
      go_ret2
      exact ⟨by rw [HF.out, HM.out]; rfl, rfl⟩
end Go.Proofs.Ytficnbeciohpfaa
