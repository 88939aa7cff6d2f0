/- The program's meanings of nulls: equalityOf and its two functions, EqualCells, hasRow, hasColumn, agreement, by contract. Conditions: as stated. -/
import Derived.Test.YtkaalgbcdcbgoaaAgrA
import Derived.Test.YtkaalgbcdcbgoaaImT
namespace Go.Proofs.Ytkaalgbcdcbgoaa
open Go.RowKit

/-- The function of a mode. -/
def eqFn (m : Int) : Value := if m = 0 then .func (.func 54) #[] #[] else if m = 1 then .func (.func 55) #[] #[] else .nilFunc
theorem eqFn_0 : eqFn 0 = .func (.func 54) #[] #[] := rfl
theorem eqFn_1 : eqFn 1 = .func (.func 55) #[] #[] := rfl
theorem eqFun0_any (a b : Int) (w : World) :
    Calls Try.prog 54 #[.int .i64 a, .int .i64 b] w fun e w' => e = .returned (.bool (eqC 0 a b)) ∧ w = w' := by
  have HE := Lib.hid (show eqC 0 a b = decide (a = b) by unfold eqC; simp)
  go_enter Try.func54, Try.ntmps54
  go_wp2_with fail
  go_ret
  exact ⟨ret_b (by rw [HE.out]; rfl), rfl⟩
theorem eqFun1_any (a b : Int) (w : World) :
    Calls Try.prog 55 #[.int .i64 a, .int .i64 b] w fun e w' => e = .returned (.bool (eqC 1 a b)) ∧ w = w' := by
  by_cases h : a = b
  · subst h
    by_cases ha : a = -1
    · subst ha
      go_enter Try.func55, Try.ntmps55
      go_wp2_with fail
      go_ret
      exact ⟨ret_b (by decide), rfl⟩
    · have e1 : (a != -1) = true := by simpa using ha
      have HE := Lib.hid (show eqC 1 a a = true by unfold eqC; simp [ha])
      clear ha
      go_enter Try.func55, Try.ntmps55
      go_wp2_with fail
      go_ret
      exact ⟨ret_b HE.out, rfl⟩
  · have e0 : (a == b) = false := by simpa using h
    have HE := Lib.hid (show eqC 1 a b = false by unfold eqC; simp [h])
    clear h
    go_enter Try.func55, Try.ntmps55
    go_wp2_with fail
    go_ret
    exact ⟨ret_b HE.out, rfl⟩
theorem eqOf_any (m : Int) (w : World) :
    Calls Try.prog 30 #[.int .i64 m] w fun e w' => e = .returned (.tuple #[eqFn m, .bool (modeOk m)]) ∧ w = w' := by
  by_cases h0 : m = 0
  · subst h0
    go_enter Try.func30, Try.ntmps30
    go_wp2_with fail
    go_ret2
    exact ⟨rfl, rfl⟩
  · by_cases h1 : m = 1
    · subst h1
      go_enter Try.func30, Try.ntmps30
      go_wp2_with fail
      go_ret2
      exact ⟨rfl, rfl⟩
    · have e0 : (m == 0) = false := by simpa using h0
      have e1 : (m == 1) = false := by simpa using h1
      have HF := Lib.hid (show eqFn m = .nilFunc by unfold eqFn; rw [if_neg h0, if_neg h1])
      have HM := Lib.hid (show modeOk m = false by unfold modeOk; rw [decide_eq_false]; omega)
      clear h0 h1
      go_enter Try.func30, Try.ntmps30
      go_wp2_with fail
      go_ret2
      exact ⟨by rw [HF.out, HM.out]; rfl, rfl⟩
set_option maxHeartbeats 1600000 in
theorem agreement_any (m : Int) (hm : m = 0 ∨ m = 1) (v v' : Value) (r s : List Int) (w : World) (hr : ReadI w v r) (hs : ReadI w v' s) (h5 : r.length ≤ 5) (hle : r.length ≤ s.length) :
    Calls Try.prog 35 #[eqFn m, v, v'] w fun e w' => e = .returned (.int .i64 (agrTo m r s r.length)) ∧ ∃ n, w' = w.drewN n := by
  obtain ⟨a, cap, rfl, ha⟩ := hr
  obtain ⟨a', cap', rfl, ha'⟩ := hs
  have HA := Lib.hid ha
  have HA' := Lib.hid ha'
  have HLE := Lib.hid hle
  clear ha ha' hle
  obtain ⟨C, hC⟩ : ∃ C, C = r.length := ⟨_, rfl⟩
  have HC := Lib.hid hC
  rw [← hC] at h5 ⊢
  clear hC
  rcases hm with rfl | rfl
  · rw [eqFn_0]
    have HQ0 := Lib.hid eqFun0_any
    go_enter Try.func35, Try.ntmps35
    go_wp2_with fail
    go_loopw [7, 12] (fun xv iv wr => ∃ (j n : Nat), j ≤ C ∧ iv = .int .i64 (j : Int) ∧ xv = .int .i64 (agrTo 0 r s j) ∧ wr = w.drewN n) (fun _ iv _ => C - (intOf iv).toNat)
    case atStart => exact ⟨0, 0, by omega, rfl, rfl, rfl⟩
    case round =>
      obtain ⟨j, n, hj, rfl, rfl, rfl⟩ := hrel
      by_cases hlt : j < C
      · have jr : j < r.length := by have := HC.out; omega
        have js : j < s.length := by have := HLE.out; omega
        obtain ⟨xi, rfl, hci⟩ := HA.out j jr
        obtain ⟨xk, rfl, hck⟩ := HA'.out j js
        have j0 : (0 : Int) ≤ (j : Int) := by omega
        have j1 : (j : Int) < (C : Int) := by omega
        have j2 : (j : Int) < (s.length : Int) := by omega
        have hgr : r[j] = r.getD j 0 := get_getD r j jr
        have hgs : s[j] = s.getD j 0 := get_getD s j js
        rw [hgr] at hci
        rw [hgs] at hck
        have HQ := Lib.hid (HQ0.out (r.getD j 0) (s.getD j 0))
        have HS : Hid (agrTo 0 r s (j + 1) = agrTo 0 r s j + (if eqC 0 (r.getD j 0) (s.getD j 0) = true then 2 ^ j else 0)) := Lib.hid rfl
        obtain ⟨p, hp⟩ : ∃ p, p = r.getD j 0 := ⟨_, rfl⟩
        obtain ⟨q, hq⟩ : ∃ q, q = s.getD j 0 := ⟨_, rfl⟩
        rw [← hp] at hci HQ HS
        rw [← hq] at hck HQ HS
        obtain ⟨X0, X1⟩ := agrTo_bd 0 r s j
        obtain ⟨X, hX⟩ : ∃ X, X = agrTo 0 r s j := ⟨_, rfl⟩
        rw [← hX] at X0 X1 HS ⊢
        clear hp hq hX hgr hgs js
        cases he : eqC 0 p q with
        | true =>
          rw [he] at HQ HS
          clear he
          go_wp2_with fail
          refine (HQ.out _).mono ?_
          rintro e w' ⟨rfl, rfl⟩
          go_wp2_with fail
          go_roundw
          case rel => exact ⟨j + 1, _, by omega, by go_num, by rw [HS.out, or_pow X j (by omega) X0 X1]; simp, rfl⟩
          case measure => simp [intOf]; omega
        | false =>
          rw [he] at HQ HS
          clear he
          go_wp2_with fail
          refine (HQ.out _).mono ?_
          rintro e w' ⟨rfl, rfl⟩
          go_wp2_with fail
          go_roundw
          case rel => exact ⟨j + 1, _, by omega, by go_num, by rw [HS.out]; simp, rfl⟩
          case measure => simp [intOf]; omega
      · obtain rfl : j = C := by omega
        go_wp2_with fail
        go_ret
        exact ⟨rfl, _, rfl⟩
  · rw [eqFn_1]
    have HQ0 := Lib.hid eqFun1_any
    go_enter Try.func35, Try.ntmps35
    go_wp2_with fail
    go_loopw [7, 12] (fun xv iv wr => ∃ (j n : Nat), j ≤ C ∧ iv = .int .i64 (j : Int) ∧ xv = .int .i64 (agrTo 1 r s j) ∧ wr = w.drewN n) (fun _ iv _ => C - (intOf iv).toNat)
    case atStart => exact ⟨0, 0, by omega, rfl, rfl, rfl⟩
    case round =>
      obtain ⟨j, n, hj, rfl, rfl, rfl⟩ := hrel
      by_cases hlt : j < C
      · have jr : j < r.length := by have := HC.out; omega
        have js : j < s.length := by have := HLE.out; omega
        obtain ⟨xi, rfl, hci⟩ := HA.out j jr
        obtain ⟨xk, rfl, hck⟩ := HA'.out j js
        have j0 : (0 : Int) ≤ (j : Int) := by omega
        have j1 : (j : Int) < (C : Int) := by omega
        have j2 : (j : Int) < (s.length : Int) := by omega
        have hgr : r[j] = r.getD j 0 := get_getD r j jr
        have hgs : s[j] = s.getD j 0 := get_getD s j js
        rw [hgr] at hci
        rw [hgs] at hck
        have HQ := Lib.hid (HQ0.out (r.getD j 0) (s.getD j 0))
        have HS : Hid (agrTo 1 r s (j + 1) = agrTo 1 r s j + (if eqC 1 (r.getD j 0) (s.getD j 0) = true then 2 ^ j else 0)) := Lib.hid rfl
        obtain ⟨p, hp⟩ : ∃ p, p = r.getD j 0 := ⟨_, rfl⟩
        obtain ⟨q, hq⟩ : ∃ q, q = s.getD j 0 := ⟨_, rfl⟩
        rw [← hp] at hci HQ HS
        rw [← hq] at hck HQ HS
        obtain ⟨X0, X1⟩ := agrTo_bd 1 r s j
        obtain ⟨X, hX⟩ : ∃ X, X = agrTo 1 r s j := ⟨_, rfl⟩
        rw [← hX] at X0 X1 HS ⊢
        clear hp hq hX hgr hgs js
        cases he : eqC 1 p q with
        | true =>
          rw [he] at HQ HS
          clear he
          go_wp2_with fail
          refine (HQ.out _).mono ?_
          rintro e w' ⟨rfl, rfl⟩
          go_wp2_with fail
          go_roundw
          case rel => exact ⟨j + 1, _, by omega, by go_num, by rw [HS.out, or_pow X j (by omega) X0 X1]; simp, rfl⟩
          case measure => simp [intOf]; omega
        | false =>
          rw [he] at HQ HS
          clear he
          go_wp2_with fail
          refine (HQ.out _).mono ?_
          rintro e w' ⟨rfl, rfl⟩
          go_wp2_with fail
          go_roundw
          case rel => exact ⟨j + 1, _, by omega, by go_num, by rw [HS.out]; simp, rfl⟩
          case measure => simp [intOf]; omega
      · obtain rfl : j = C := by omega
        go_wp2_with fail
        go_ret
        exact ⟨rfl, _, rfl⟩
end Go.Proofs.Ytkaalgbcdcbgoaa
