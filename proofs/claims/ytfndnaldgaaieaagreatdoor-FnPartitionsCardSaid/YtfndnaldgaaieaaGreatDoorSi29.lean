/- Texts of this claim, merged: ImT, ImG, PrtF. Conditions: as stated. -/
import Derived.Test.YtfndnaldgaaieaaGreatDoorSi5
import Derived.Test.YtfndnaldgaaieaaGreatDoorSi25
import Derived.Test.YtfndnaldgaaieaaGreatDoorSi15
import Derived.Test.YtfndnaldgaaieaaGreatDoorSi27
import Derived.Test.YtfndnaldgaaieaaGreatDoorSi28
namespace Go.Proofs.YtfndnaldgaaieaaGreatDoor
open Go.RowKit

theorem implValue_any (x : Int) (w : World) :
    Calls Tryz.prog 90 #[.int .i64 x] w fun e w' => e = .returned (.bool (decide (0 ≤ x ∧ x ≤ 40))) ∧ w = w' := by
  by_cases h1 : 0 ≤ x <;> by_cases h2 : x ≤ 40
  all_goals
    go_enter Tryz.func90, Tryz.ntmps90
    go_wp2
    go_ret
    exact ⟨by simp [h1, h2], rfl⟩
theorem implCell_any (x : Int) (w : World) :
    Calls Tryz.prog 80 #[.int .i64 x] w fun e w' => e = .returned (.bool (cellOk x)) ∧ w = w' := by
  by_cases h1 : 0 ≤ x ∧ x ≤ 40
  · have HV := Lib.hid (implValue_any x w)
    rw [decide_eq_true h1] at HV
    go_enter Tryz.func80, Tryz.ntmps80
    go_wp2_with fail
    refine HV.out.mono ?_
    rintro e w' ⟨rfl, rfl⟩
    go_wp2_with fail
    go_ret
    exact ⟨ret_b (by unfold cellOk; simp; omega), rfl⟩
  · have HV := Lib.hid (implValue_any x w)
    rw [decide_eq_false h1] at HV
    have HN := Lib.hid h1
    clear h1
    by_cases h2 : x = -1
    · subst h2
      go_enter Tryz.func80, Tryz.ntmps80
      go_wp2_with fail
      refine HV.out.mono ?_
      rintro e w' ⟨rfl, rfl⟩
      go_wp2_with fail
      go_ret
      exact ⟨rfl, rfl⟩
    · have hx : (x == -1) = false := by simpa using h2
      have HN2 := Lib.hid h2
      clear h2
      go_enter Tryz.func80, Tryz.ntmps80
      go_wp2_with fail
      refine HV.out.mono ?_
      rintro e w' ⟨rfl, rfl⟩
      go_wp2_with fail
      go_ret
      exact ⟨ret_b (by unfold cellOk; have := HN.out; have := HN2.out; simp; omega), rfl⟩
set_option maxHeartbeats 800000 in
theorem implRow_any (v : Value) (r : List Int) (c : Int) (w : World) (hr : ReadI w v r) (hl : r.length ≤ 1048576) :
    Calls Tryz.prog 58 #[v, .int .i64 c] w fun e w' => e = .returned (.bool (rowOk c r)) ∧ w = w' := by
  obtain ⟨a, cap, rfl, ha⟩ := hr
  have HA := Lib.hid ha
  clear ha
  by_cases hc : (r.length : Int) = c
  · have hd : ((r.length : Int) != c) = false := by simp [hc]
    have HC := Lib.hid hc
    clear hc
    go_enter Tryz.func58, Tryz.ntmps58
    go_wp2_with fail
    go_loop [13] (fun iv => ∃ k : Nat, k ≤ r.length ∧ iv = .int .i64 (k : Int) ∧ Hid ((r.take k).all cellOk = true)) (fun iv => r.length - (intOf iv).toNat)
    case atStart => exact ⟨0, by omega, rfl, Lib.hid rfl⟩
    case round =>
      obtain ⟨k, hk, rfl, hall⟩ := hrel
      by_cases hlt : k < r.length
      · obtain ⟨x, rfl, hx⟩ := HA.out k hlt
        have z0 : (0 : Int) ≤ (k : Int) := by omega
        have z1 : (k : Int) < (r.length : Int) := by omega
        have HI := Lib.hid (implCell_any r[k] w)
        have HOK := Lib.hid (fun h => all_snoc (p := cellOk) hlt hall.out h)
        have HNO := Lib.hid (fun h => all_not (p := cellOk) hlt h)
        obtain ⟨y, hy⟩ : ∃ y : Int, r[k] = y := ⟨_, rfl⟩
        rw [hy] at hx HI HOK HNO
        clear hy
        cases hro : cellOk y with
        | true =>
          rw [hro] at HI
          have HX := Lib.hid (HOK.out hro)
          clear hro
          go_wp2_with fail
          refine HI.out.mono ?_
          rintro e w' ⟨rfl, rfl⟩
          go_wp2_with fail
          go_round
          case rel => exact ⟨k + 1, by omega, by go_num, HX⟩
          case measure => simp [intOf]; omega
        | false =>
          rw [hro] at HI
          have HX := Lib.hid (HNO.out hro)
          clear hro
          go_wp2_with fail
          refine HI.out.mono ?_
          rintro e w' ⟨rfl, rfl⟩
          go_wp2_with fail
          go_ret
          exact ⟨ret_b (by unfold rowOk; rw [HX.out]; rfl), rfl⟩
      · obtain rfl : k = r.length := by omega
        have HX : Hid (r.all cellOk = true) := Lib.hid (by have := hall.out; rwa [List.take_length] at this)
        go_wp2_with fail
        go_ret
        exact ⟨ret_b (by unfold rowOk; rw [HX.out, decide_eq_true HC.out]; rfl), rfl⟩
  · have hd : ((r.length : Int) != c) = true := by simpa using hc
    have HC := Lib.hid hc
    clear hc
    go_enter Tryz.func58, Tryz.ntmps58
    go_wp2_with fail
    go_ret
    exact ⟨ret_b (by unfold rowOk; rw [decide_eq_false HC.out]; simp), rfl⟩

set_option maxHeartbeats 1600000 in
theorem implIsTable_any (c : Int) (v : Value) (ll : List (List Int)) (w : World) (hr : ReadSS w v ll) (hl : ll.length ≤ 1048576) (ht : ∀ i, i < ll.length → (ll.getD i []).length ≤ 1048576) :
    Calls Tryz.prog 27 #[.agg #[.int .i64 c, v]] w fun e w' => e = .returned (.bool (isT c ll)) ∧ Below w.heap.size w w' := by
  obtain ⟨a, cap, rfl, ha⟩ := hr
  have HA := Lib.hid ha
  have HT := Lib.hid ht
  clear ha ht
  have hb1 := (Below.refl w.heap.size w).alloc (Nat.le_refl _) (.cells #[.int .i64 c, .slice a ll.length cap] 26)
  obtain ⟨w1, hw1⟩ : ∃ w1, w1 = w.alloc (.cells #[.int .i64 c, .slice a ll.length cap] 26) := ⟨_, rfl⟩
  have hbx := box2 (w := w) (wr := w1) (c := c) (v := .slice a ll.length cap) (T := 26) (by rw [hw1]; exact Below.refl _ _)
  have hb2 : Below w.heap.size w w1 := by rw [hw1]; exact hb1
  by_cases h1 : 1 ≤ c
  · have g1 : ¬ c < 1 := by omega
    by_cases h5 : c ≤ 5
    · have HCC := Lib.hid (fun w' => colCount_any c w')
      rw [show decide (0 ≤ c ∧ c ≤ 5) = true by simp; omega] at HCC
      by_cases h40 : ll.length ≤ 40
      · have g40 : ¬ (40 : Int) < (ll.length : Int) := by omega
        have HD : Hid ((decide (1 ≤ c ∧ c ≤ 5) && decide (ll.length ≤ 40)) = true) := Lib.hid (by simp; omega)
        clear h5
        go_enter Tryz.func27, Tryz.ntmps27
        go_wp2_with fail
        refine (HCC.out _).mono ?_
        rintro e w' ⟨rfl, rfl⟩
        go_wp2_with fail
        rw [← hw1]
        clear hw1 hb1
        go_loop [23] (fun iv => ∃ k : Nat, k ≤ ll.length ∧ iv = .int .i64 (k : Int) ∧ Hid ((ll.take k).all (rowOk c) = true)) (fun iv => ll.length - (intOf iv).toNat)
        case atStart => exact ⟨0, by omega, rfl, Lib.hid rfl⟩
        case round =>
          obtain ⟨k, hk, rfl, hall⟩ := hrel
          by_cases hlt : k < ll.length
          · obtain ⟨x, u, rfl, hx, hu⟩ := HA.out k hlt
            have hy := (hb2.cell (World.block_lt_of_cell? w _ hx)).trans hx
            have z0 : (0 : Int) ≤ (k : Int) := by omega
            have z1 : (k : Int) < (ll.length : Int) := by omega
            have hg : ll[k] = ll.getD k [] := by rw [List.getD_eq_getElem?_getD, List.getElem?_eq_getElem hlt]; rfl
            have HQ := Lib.hid (implRow_any u (ll.getD k []) c w1 (hu.kept hb2) (HT.out k hlt))
            have HOK := Lib.hid (fun h => all_snoc (p := rowOk c) hlt hall.out h)
            have HNO := Lib.hid (fun h => all_not (p := rowOk c) hlt h)
            rw [hg] at HOK HNO
            obtain ⟨r, hrr⟩ : ∃ r, ll.getD k [] = r := ⟨_, rfl⟩
            rw [hrr] at HQ HOK HNO
            clear hx hu hg hrr
            cases hro : rowOk c r with
            | true =>
              rw [hro] at HQ
              have HX := Lib.hid (HOK.out hro)
              clear hro
              go_wp2_with fail
              refine HQ.out.mono ?_
              rintro e w' ⟨rfl, rfl⟩
              go_wp2_with fail
              go_round
              case rel => exact ⟨k + 1, by omega, by go_num, HX⟩
              case measure => simp [intOf]; omega
            | false =>
              rw [hro] at HQ
              have HX := Lib.hid (HNO.out hro)
              clear hro
              go_wp2_with fail
              refine HQ.out.mono ?_
              rintro e w' ⟨rfl, rfl⟩
              go_wp2_with fail
              go_ret
              exact ⟨ret_b (by unfold isT; rw [HX.out]; rfl), hb2⟩
          · obtain rfl : k = ll.length := by omega
            have HX : Hid (ll.all (rowOk c) = true) := Lib.hid (by have := hall.out; rwa [List.take_length] at this)
            go_wp2_with fail
            go_ret
            exact ⟨ret_b (by unfold isT; rw [HX.out, HD.out]; rfl), hb2⟩
      · have g40 : (40 : Int) < (ll.length : Int) := by omega
        have HD : Hid (isT c ll = false) := Lib.hid (by unfold isT; rw [decide_eq_false h40]; simp)
        go_enter Tryz.func27, Tryz.ntmps27
        go_wp2_with fail
        refine (HCC.out _).mono ?_
        rintro e w' ⟨rfl, rfl⟩
        go_wp2_with fail
        go_ret
        exact ⟨ret_b HD.out, hb1⟩
    · have HCC := Lib.hid (fun w' => colCount_any c w')
      rw [show decide (0 ≤ c ∧ c ≤ 5) = false by simp; omega] at HCC
      have HD : Hid (isT c ll = false) := Lib.hid (by unfold isT; rw [decide_eq_false (p := 1 ≤ c ∧ c ≤ 5) (by omega)]; simp)
      go_enter Tryz.func27, Tryz.ntmps27
      go_wp2_with fail
      refine (HCC.out _).mono ?_
      rintro e w' ⟨rfl, rfl⟩
      go_wp2_with fail
      go_ret
      exact ⟨ret_b HD.out, hb1⟩
  · have g1 : c < 1 := by omega
    have HD : Hid (isT c ll = false) := Lib.hid (by unfold isT; rw [decide_eq_false (p := 1 ≤ c ∧ c ≤ 5) (by omega)]; simp)
    go_enter Tryz.func27, Tryz.ntmps27
    go_wp2_with fail
    go_ret
    exact ⟨ret_b HD.out, hb1⟩
end Go.Proofs.YtfndnaldgaaieaaGreatDoor
namespace Go.Proofs.YtfndnaldgaaieaaGreatDoor
open Go.RowKit

/-- The function of a mode. -/
def eqFn (m : Int) : Value := if m = 0 then .func (.func 55) #[] #[] else if m = 1 then .func (.func 56) #[] #[] else .nilFunc
theorem eqFn_0 : eqFn 0 = .func (.func 55) #[] #[] := rfl
theorem eqFn_1 : eqFn 1 = .func (.func 56) #[] #[] := rfl
theorem eqFun0_any (a b : Int) (w : World) :
    Calls Tryz.prog 55 #[.int .i64 a, .int .i64 b] w fun e w' => e = .returned (.bool (eqC 0 a b)) ∧ w = w' := by
  have HE := Lib.hid (show eqC 0 a b = decide (a = b) by unfold eqC; simp)
  go_enter Tryz.func55, Tryz.ntmps55
  go_wp2_with fail
  go_ret
  exact ⟨ret_b (by rw [HE.out]; rfl), rfl⟩
theorem eqFun1_any (a b : Int) (w : World) :
    Calls Tryz.prog 56 #[.int .i64 a, .int .i64 b] w fun e w' => e = .returned (.bool (eqC 1 a b)) ∧ w = w' := by
  by_cases h : a = b
  · subst h
    by_cases ha : a = -1
    · subst ha
      go_enter Tryz.func56, Tryz.ntmps56
      go_wp2_with fail
      go_ret
      exact ⟨ret_b (by decide), rfl⟩
    · have e1 : (a != -1) = true := by simpa using ha
      have HE := Lib.hid (show eqC 1 a a = true by unfold eqC; simp [ha])
      clear ha
      go_enter Tryz.func56, Tryz.ntmps56
      go_wp2_with fail
      go_ret
      exact ⟨ret_b HE.out, rfl⟩
  · have e0 : (a == b) = false := by simpa using h
    have HE := Lib.hid (show eqC 1 a b = false by unfold eqC; simp [h])
    clear h
    go_enter Tryz.func56, Tryz.ntmps56
    go_wp2_with fail
    go_ret
    exact ⟨ret_b HE.out, rfl⟩
theorem eqOf_any (m : Int) (w : World) :
    Calls Tryz.prog 26 #[.int .i64 m] w fun e w' => e = .returned (.tuple #[eqFn m, .bool (modeOk m)]) ∧ w = w' := by
  by_cases h0 : m = 0
  · subst h0
    go_enter Tryz.func26, Tryz.ntmps26
    go_wp2_with fail
    go_ret2
    exact ⟨rfl, rfl⟩
  · by_cases h1 : m = 1
    · subst h1
      go_enter Tryz.func26, Tryz.ntmps26
      go_wp2_with fail
      go_ret2
      exact ⟨rfl, rfl⟩
    · have e0 : (m == 0) = false := by simpa using h0
      have e1 : (m == 1) = false := by simpa using h1
      have HF := Lib.hid (show eqFn m = .nilFunc by unfold eqFn; rw [if_neg h0, if_neg h1])
      have HM := Lib.hid (show modeOk m = false by unfold modeOk; rw [decide_eq_false]; omega)
      clear h0 h1
      go_enter Tryz.func26, Tryz.ntmps26
      go_wp2_with fail
      go_ret2
      exact ⟨by rw [HF.out, HM.out]; rfl, rfl⟩
set_option maxHeartbeats 1600000 in
theorem agreement_any (m : Int) (hm : m = 0 ∨ m = 1) (v v' : Value) (r s : List Int) (w : World) (hr : ReadI w v r) (hs : ReadI w v' s) (h5 : r.length ≤ 5) (hle : r.length ≤ s.length) :
    Calls Tryz.prog 31 #[eqFn m, v, v'] w fun e w' => e = .returned (.int .i64 (agrTo m r s r.length)) ∧ ∃ n, w' = w.drewN n := by
  obtain ⟨a, cap, rfl, ha⟩ := hr
  obtain ⟨a', cap', rfl, ha'⟩ := hs
  have HA := Lib.hid ha
  have HA' := Lib.hid ha'
  have HLE := Lib.hid hle
  clear ha ha' hle
  obtain ⟨C, hC⟩ : ∃ C, C = r.length := ⟨_, rfl⟩
  have HC := Lib.hid hC
  rw [← hC] at h5 ⊢
  clear hC
  rcases hm with rfl | rfl
  · rw [eqFn_0]
    have HQ0 := Lib.hid eqFun0_any
    go_enter Tryz.func31, Tryz.ntmps31
    go_wp2_with fail
    go_loopw [7, 12] (fun xv iv wr => ∃ (j n : Nat), j ≤ C ∧ iv = .int .i64 (j : Int) ∧ xv = .int .i64 (agrTo 0 r s j) ∧ wr = w.drewN n) (fun _ iv _ => C - (intOf iv).toNat)
    case atStart => exact ⟨0, 0, by omega, rfl, rfl, rfl⟩
    case round =>
      obtain ⟨j, n, hj, rfl, rfl, rfl⟩ := hrel
      by_cases hlt : j < C
      · have jr : j < r.length := by have := HC.out; omega
        have js : j < s.length := by have := HLE.out; omega
        obtain ⟨xi, rfl, hci⟩ := HA.out j jr
        obtain ⟨xk, rfl, hck⟩ := HA'.out j js
        have j0 : (0 : Int) ≤ (j : Int) := by omega
        have j1 : (j : Int) < (C : Int) := by omega
        have j2 : (j : Int) < (s.length : Int) := by omega
        have hgr : r[j] = r.getD j 0 := get_getD r j jr
        have hgs : s[j] = s.getD j 0 := get_getD s j js
        rw [hgr] at hci
        rw [hgs] at hck
        have HQ := Lib.hid (HQ0.out (r.getD j 0) (s.getD j 0))
        have HS : Hid (agrTo 0 r s (j + 1) = agrTo 0 r s j + (if eqC 0 (r.getD j 0) (s.getD j 0) = true then 2 ^ j else 0)) := Lib.hid rfl
        obtain ⟨p, hp⟩ : ∃ p, p = r.getD j 0 := ⟨_, rfl⟩
        obtain ⟨q, hq⟩ : ∃ q, q = s.getD j 0 := ⟨_, rfl⟩
        rw [← hp] at hci HQ HS
        rw [← hq] at hck HQ HS
        obtain ⟨X0, X1⟩ := agrTo_bd 0 r s j
        obtain ⟨X, hX⟩ : ∃ X, X = agrTo 0 r s j := ⟨_, rfl⟩
        rw [← hX] at X0 X1 HS ⊢
        clear hp hq hX hgr hgs js
        cases he : eqC 0 p q with
        | true =>
          rw [he] at HQ HS
          clear he
          go_wp2_with fail
          refine (HQ.out _).mono ?_
          rintro e w' ⟨rfl, rfl⟩
          go_wp2_with fail
          go_roundw
          case rel => exact ⟨j + 1, _, by omega, by go_num, by rw [HS.out, or_pow X j (by omega) X0 X1]; simp, rfl⟩
          case measure => simp [intOf]; omega
        | false =>
          rw [he] at HQ HS
          clear he
          go_wp2_with fail
          refine (HQ.out _).mono ?_
          rintro e w' ⟨rfl, rfl⟩
          go_wp2_with fail
          go_roundw
          case rel => exact ⟨j + 1, _, by omega, by go_num, by rw [HS.out]; simp, rfl⟩
          case measure => simp [intOf]; omega
      · obtain rfl : j = C := by omega
        go_wp2_with fail
        go_ret
        exact ⟨rfl, _, rfl⟩
  · rw [eqFn_1]
    have HQ0 := Lib.hid eqFun1_any
    go_enter Tryz.func31, Tryz.ntmps31
    go_wp2_with fail
    go_loopw [7, 12] (fun xv iv wr => ∃ (j n : Nat), j ≤ C ∧ iv = .int .i64 (j : Int) ∧ xv = .int .i64 (agrTo 1 r s j) ∧ wr = w.drewN n) (fun _ iv _ => C - (intOf iv).toNat)
    case atStart => exact ⟨0, 0, by omega, rfl, rfl, rfl⟩
    case round =>
      obtain ⟨j, n, hj, rfl, rfl, rfl⟩ := hrel
      by_cases hlt : j < C
      · have jr : j < r.length := by have := HC.out; omega
        have js : j < s.length := by have := HLE.out; omega
        obtain ⟨xi, rfl, hci⟩ := HA.out j jr
        obtain ⟨xk, rfl, hck⟩ := HA'.out j js
        have j0 : (0 : Int) ≤ (j : Int) := by omega
        have j1 : (j : Int) < (C : Int) := by omega
        have j2 : (j : Int) < (s.length : Int) := by omega
        have hgr : r[j] = r.getD j 0 := get_getD r j jr
        have hgs : s[j] = s.getD j 0 := get_getD s j js
        rw [hgr] at hci
        rw [hgs] at hck
        have HQ := Lib.hid (HQ0.out (r.getD j 0) (s.getD j 0))
        have HS : Hid (agrTo 1 r s (j + 1) = agrTo 1 r s j + (if eqC 1 (r.getD j 0) (s.getD j 0) = true then 2 ^ j else 0)) := Lib.hid rfl
        obtain ⟨p, hp⟩ : ∃ p, p = r.getD j 0 := ⟨_, rfl⟩
        obtain ⟨q, hq⟩ : ∃ q, q = s.getD j 0 := ⟨_, rfl⟩
        rw [← hp] at hci HQ HS
        rw [← hq] at hck HQ HS
        obtain ⟨X0, X1⟩ := agrTo_bd 1 r s j
        obtain ⟨X, hX⟩ : ∃ X, X = agrTo 1 r s j := ⟨_, rfl⟩
        rw [← hX] at X0 X1 HS ⊢
        clear hp hq hX hgr hgs js
        cases he : eqC 1 p q with
        | true =>
          rw [he] at HQ HS
          clear he
          go_wp2_with fail
          refine (HQ.out _).mono ?_
          rintro e w' ⟨rfl, rfl⟩
          go_wp2_with fail
          go_roundw
          case rel => exact ⟨j + 1, _, by omega, by go_num, by rw [HS.out, or_pow X j (by omega) X0 X1]; simp, rfl⟩
          case measure => simp [intOf]; omega
        | false =>
          rw [he] at HQ HS
          clear he
          go_wp2_with fail
          refine (HQ.out _).mono ?_
          rintro e w' ⟨rfl, rfl⟩
          go_wp2_with fail
          go_roundw
          case rel => exact ⟨j + 1, _, by omega, by go_num, by rw [HS.out]; simp, rfl⟩
          case measure => simp [intOf]; omega
      · obtain rfl : j = C := by omega
        go_wp2_with fail
        go_ret
        exact ⟨rfl, _, rfl⟩
end Go.Proofs.YtfndnaldgaaieaaGreatDoor
namespace Go.Proofs.YtfndnaldgaaieaaGreatDoor
open Go.RowKit

theorem modeOk_two {m : Int} (h : modeOk m = true) : m = 0 ∨ m = 1 := by simpa [modeOk] using h
theorem and_comm64 (x y : Int) : bits .and .i64 x y = bits .and .i64 y x := by rw [bits_and, bits_and, BitVec.and_comm]
theorem partZ_agB {c : Nat} {ll : List (List Int)} {m : Int} {S i : Nat} (hS : S < 32) : partZ (S : Int) (agrTo m (ll.getD i []) (ll.getD i []) c) = agB c ll m (S : Int) i i := by
  rw [partZ_eq _ _ (by omega) (by omega), and_comm64]; rfl
theorem isA_nat2 {c s : Int} (h : isA c s = true) (h5 : 1 ≤ c ∧ c ≤ 5) : ∃ S : Nat, s = (S : Int) ∧ S < 2 ^ c.toNat ∧ S < 32 := by
  obtain ⟨C, rfl⟩ : ∃ C : Nat, c = (C : Int) := ⟨c.toNat, by omega⟩
  obtain ⟨S, rfl, hC, hS⟩ := isA_nat h
  exact ⟨S, rfl, by rw [show ((C : Int)).toNat = C by omega]; exact hS, pow_lt32 hC hS⟩
theorem table_ret {c m : Int} {ll : List (List Int)} {S : Nat} (hf : fineT c ll m = true) (hs : isA c (S : Int) = true) (hS : S < 2 ^ c.toNat) {w w5 : World} {B : Nat} (hB : w.heap.size ≤ B) (hb : Below w.heap.size w w5) {e : Ending} {w' : World}
    (h : RetP B (grpOf (keyT c.toNat ll m S) ll.length) w5 e w') : RetSS (prtS c ll m (S : Int)) w e w' := by
  obtain ⟨v, L, rs, rfl, ho, h1, h2, h3, h4, h5, h6⟩ := h
  have e : L = prtS c ll m (S : Int) := table_eq hf hs hS h1 h2 h3 h5 h4
  subst e
  exact ⟨v, rfl, ho.base hB (Nat.le_refl _), hb.trans (h6.mono hB)⟩
theorem RecAt.cells {w : World} {b : Nat} {r : List Int} (h : RecAt w b r) (hr : (pad5 r) = [r.getD 0 0, r.getD 1 0, r.getD 2 0, r.getD 3 0, r.getD 4 0]) : ∃ a0 a1 a2 a3 a4 : Int, pad5 r = [a0, a1, a2, a3, a4] ∧ w.cell? ⟨b, 0, none⟩ = some (.int .i64 a0) ∧ w.cell? ⟨b, 1, none⟩ = some (.int .i64 a1) ∧ w.cell? ⟨b, 2, none⟩ = some (.int .i64 a2) ∧ w.cell? ⟨b, 3, none⟩ = some (.int .i64 a3) ∧ w.cell? ⟨b, 4, none⟩ = some (.int .i64 a4) :=
  ⟨_, _, _, _, _, hr, (h 0 (by omega)).1, (h 1 (by omega)).1, (h 2 (by omega)).1, (h 3 (by omega)).1, (h 4 (by omega)).1⟩
set_option maxRecDepth 20000 in
set_option maxHeartbeats 3200000 in
theorem implPartitionOf_any (c m s : Int) (v : Value) (ll : List (List Int)) (w : World) (hr : ReadSS w v ll) (hl : ll.length ≤ 1048576) (ht : ∀ i, i < ll.length → (ll.getD i []).length ≤ 1048576) (hs0 : -9223372036854775808 ≤ s) (hs1 : s ≤ 9223372036854775807) :
    Calls Tryz.prog 6 #[.agg #[.int .i64 c, v], .int .i64 m, .int .i64 s] w (RetSS (prtS c ll m s) w) := by
  have HO := Lib.hid (eqOf_any m)
  have HV := Lib.hid (fun w' (hb : Below w.heap.size w w') => implIsTable_any c v ll w' (hr.kept hb) hl ht)
  have hb1 := (Below.refl w.heap.size w).alloc (Nat.le_refl _) (.cells #[.int .i64 c, v] 26)
  have HR := Lib.hid (fun w' (hb : Below w.heap.size w w') => hr.kept hb)
  have HB1 := Lib.hid hb1
  obtain ⟨a, cap, rfl, -⟩ := hr
  obtain ⟨F, hF⟩ : ∃ F, eqFn m = F := ⟨_, rfl⟩
  cases hm : modeOk m with
  | false =>
    have HE : Hid (prtS c ll m s = []) := Lib.hid (by unfold prtS fineT; rw [hm]; simp)
    rw [HE.out]
    rw [hm, hF] at HO
    clear hm hF hb1
    go_enter Tryz.func6, Tryz.ntmps6
    go_wp2_with fail
    refine (HO.out _).mono ?_
    rintro e w' ⟨rfl, rfl⟩
    go_wp2_with fail
    go_ret
    exact ⟨_, rfl, OwnSS.nil _ _ _, HB1.out⟩
  | true =>
    have hmm := modeOk_two hm
    rw [hm, hF] at HO
    cases hv : isT c ll with
    | false =>
      have HE : Hid (prtS c ll m s = []) := Lib.hid (by unfold prtS fineT; rw [hv]; simp)
      rw [HE.out]
      rw [hv] at HV
      clear hm hF hmm hv hb1
      go_enter Tryz.func6, Tryz.ntmps6
      go_wp2_with fail
      refine (HO.out _).mono ?_
      rintro e w' ⟨rfl, rfl⟩
      go_wp2_with fail
      refine (HV.out _ HB1.out).mono ?_
      rintro e w' ⟨rfl, b⟩
      have hb2 := HB1.out.trans (b.mono HB1.out.size)
      clear b
      go_wp2_with fail
      go_ret
      exact ⟨_, rfl, OwnSS.nil _ _ _, hb2⟩
    | true =>
      rw [hv] at HV
      have HA := Lib.hid (implIsA_any c s hs0 hs1)
      cases hs : isA c s with
      | false =>
        have HE : Hid (prtS c ll m s = []) := Lib.hid (by unfold prtS; rw [hs]; simp)
        rw [HE.out]
        rw [hs] at HA
        clear hm hF hmm hv hs hb1 hs0 hs1
        go_enter Tryz.func6, Tryz.ntmps6
        go_wp2_with fail
        refine (HO.out _).mono ?_
        rintro e w' ⟨rfl, rfl⟩
        go_wp2_with fail
        refine (HV.out _ HB1.out).mono ?_
        rintro e w' ⟨rfl, b⟩
        have hb2 := HB1.out.trans (b.mono HB1.out.size)
        obtain ⟨c0, c1⟩ := box2 b
        clear b
        go_wp2_with fail
        refine (HA.out _).mono ?_
        rintro e w3 ⟨rfl, b⟩
        have hb3 := hb2.trans (b.mono hb2.size)
        clear b
        go_wp2_with fail
        go_ret
        exact ⟨_, rfl, OwnSS.nil _ _ _, hb3⟩
      | true =>
        rw [hs] at HA
        obtain ⟨hc1, hc5, h40⟩ := isT_bd hv
        obtain ⟨S, rfl, hS, hS32⟩ := isA_nat2 hs ⟨hc1, hc5⟩
        have hf : fineT c ll m = true := by unfold fineT; rw [hv, hm]; rfl
        have HR5 := Lib.hid (fun w5 B e w' (hB : w.heap.size ≤ B) (hb : Below w.heap.size w w5) (h : RetP B (grpOf (keyT c.toNat ll m S) ll.length) w5 e w') => table_ret hf hs hS hB hb h)
        have HM := Lib.hid (members_any S hS32)
        have HROW := Lib.hid (fun i (hi : i < ll.length) => (isT_row hv hi).1)
        have HMI := Lib.hid (fun i (hi : i < ll.length) => mems_in (i := i) hv hS hi)
        have HRB := Lib.hid (fun i (hi : i < ll.length) => pad5_r5 (recC_bd (i := i) hv hS hi))
        have HAG := Lib.hid (fun i u w' (hi : i < ll.length) (hu : ReadI w' u (ll.getD i [])) => agreement_any m hmm u u (ll.getD i []) (ll.getD i []) w' hu hu (by have := HROW.out i hi; omega) (Nat.le_refl _))
        rw [hF] at HAG
        have HZ := Lib.hid (fun i => partZ_agB (c := c.toNat) (ll := ll) (m := m) (i := i) hS32)
        have HPT := Lib.hid partOf_any
        have hmm2 := @run_makeMap Tryz.prog
        clear hm hF hmm hv hs hb1 hs0 hs1 hf
        go_enter Tryz.func6, Tryz.ntmps6
        go_wp2_with fail
        refine (HO.out _).mono ?_
        rintro e w' ⟨rfl, rfl⟩
        go_wp2_with fail
        refine (HV.out _ HB1.out).mono ?_
        rintro e w1 ⟨rfl, b⟩
        have hb2 := HB1.out.trans (b.mono HB1.out.size)
        obtain ⟨c0, c1⟩ := box2 b
        have HBB := Lib.hid b
        clear b
        go_wp2_with fail
        refine (HA.out _).mono ?_
        rintro e w3 ⟨rfl, b⟩
        have hb3 := hb2.trans (b.mono hb2.size)
        clear c0 c1
        have HB3 := Lib.hid (HBB.out.trans (b.mono HBB.out.size))
        obtain ⟨c0, c1⟩ := box2 HB3.out
        clear b hb2
        go_wp2_with fail
        refine (HM.out _).mono ?_
        rintro e w4 ⟨vc, rfl, hvc, b⟩
        have hs4 := b.size
        have hb4 := hb3.trans (b.mono hb3.size)
        clear c0 c1
        have HB4 := Lib.hid (HB3.out.trans (b.mono HB3.out.size))
        clear b
        have bz := (Below.refl w4.heap.size w4).alloc (Nat.le_refl _) (.map #[] 0)
        have HB5 := Lib.hid (HB4.out.trans (bz.mono HB4.out.size))
        obtain ⟨c0, c1⟩ := box2 HB5.out
        have hb5 := hb4.trans (bz.mono hb4.size)
        have hg5 := (Grp.made w4).congr (grpOf_zero (keyT c.toNat ll m S))
        have hvl := hvc.lt
        have hvc5 := hvc.kept bz (fun k hk => (hvc.lt k hk).2)
        have hww := hb4.size
        clear hb3 hb4 hvc bz
        go_wp2_with fail
        go_loopw [38] (fun iv wr => ∃ i : Nat, i ≤ ll.length ∧ iv = .int .i64 (i : Int) ∧ Grp wr w4.heap.size w4.heap.size i (grpOf (keyT c.toNat ll m S) i) ∧ OwnI wr w3.heap.size vc (mems (S : Int)) ∧ Below w.heap.size w wr) (fun iv _ => ll.length - (intOf iv).toNat)
        case atStart => exact ⟨0, by omega, rfl, hg5, hvc5, hb5⟩
        case round =>
          clear hg5 hvc5 hb5 c0 c1
          obtain ⟨i, hi, rfl, hg, hvc, hb⟩ := hrel
          obtain ⟨w9, hw9⟩ : ∃ w', w' = wr := ⟨_, rfl⟩
          rw [← hw9] at hg hvc hb ⊢
          clear hw9
          have hgl := hg.lt
          by_cases hlt : i < ll.length
          · obtain ⟨a2, cap2, hv2, ha2⟩ := HR.out _ hb
            simp only [Value.slice.injEq] at hv2
            obtain ⟨rfl, -, rfl⟩ := hv2
            obtain ⟨x, ui, rfl, hx, hu⟩ := ha2 i hlt
            clear ha2
            have z0 : (0 : Int) ≤ (i : Int) := by omega
            have z1 : (i : Int) < (ll.length : Int) := by omega
            have HU := Lib.hid hu
            have HGA := HAG.out i ui w9 hlt hu
            have hlen := HROW.out i hlt
            rw [show (ll.getD i []).length = c.toNat by omega] at HGA
            have HZi := HZ.out i
            obtain ⟨Y, hY⟩ : ∃ Y, Y = agrTo m (ll.getD i []) (ll.getD i []) c.toNat := ⟨_, rfl⟩
            rw [← hY] at HGA HZi
            have HGA := Lib.hid HGA
            have HPI := Lib.hid (fun w' => HPT.out (S : Int) Y w')
            rw [HZi] at HPI
            clear hY HZi hu hlen
            have hdr := fun k => below_drewN (Below.refl w9.heap.size w9) k
            cases hab : agB c.toNat ll m (S : Int) i i with
            | false =>
              have HGN := Lib.hid (fun w' (hb : Below w9.heap.size w9 w') => (hg.kept hb).congr (grpOf_none (show keyT c.toNat ll m S i = none by unfold keyT; rw [hab]; simp)))
              have HVC := Lib.hid (fun w' (hb : Below w9.heap.size w9 w') => hvc.kept hb (fun k hk => (hvc.lt k hk).2))
              have HBW := Lib.hid (fun w' (b : Below w9.heap.size w9 w') => hb.trans (b.mono hb.size))
              rw [hab] at HPI
              clear hab hg hvc hb
              go_wp2_with fail
              refine HGA.out.mono ?_
              rintro e w5 ⟨rfl, k, rfl⟩
              have HD := Lib.hid (hdr k)
              clear hdr
              go_wp2_with fail
              refine (HPI.out _).mono ?_
              rintro e w6 ⟨rfl, rfl⟩
              go_wp2_with fail
              go_roundw
              case rel => exact ⟨i + 1, by omega, by go_num, (HGN.out _ HD.out).mono (by omega), HVC.out _ HD.out, HBW.out _ HD.out⟩
              case measure => simp [intOf]; omega
            | true =>
              rw [hab] at HPI
              have HKEY := Lib.hid (show keyT c.toNat ll m S i = some (pad5 (recC ll S i)) by unfold keyT; rw [if_pos hab])
              have HREC := Lib.hid (fun w' (b : Below w9.heap.size w9 w') => recordOf_any ui vc (ll.getD i []) (mems (S : Int)) w' (HU.out.kept b) (hvc.kept b (fun k hk => (hvc.lt k hk).2)).read (mems_len _) (HMI.out i hlt))
              have HGK := Lib.hid (fun w' (b : Below w9.heap.size w9 w') => hg.kept b)
              have HVC := Lib.hid (fun w' (b : Below w9.heap.size w9 w') => hvc.kept b (fun k hk => (hvc.lt k hk).2))
              have HBW := Lib.hid (fun w' (b : Below w9.heap.size w9 w') => hb.trans (b.mono hb.size))
              have hlen := grpOf_len (keyT c.toNat ll m S) i
              have HLEN := Lib.hid hlen
              clear hab hg hvc hb hlen
              go_wp2_with fail
              refine HGA.out.mono ?_
              rintro e w5 ⟨rfl, k, rfl⟩
              have HD := Lib.hid (hdr k)
              obtain ⟨w5, hw5⟩ : ∃ w5, w5 = w9.drewN k := ⟨_, rfl⟩
              rw [← hw5] at HD ⊢
              clear hdr hw5
              go_wp2_with fail
              refine (HPI.out _).mono ?_
              rintro e w6 ⟨rfl, rfl⟩
              go_wp2_with fail
              refine (HREC.out _ HD.out).mono ?_
              rintro e w6 ⟨bq, rfl, hrec, -, -, b6⟩
              have HD6 := Lib.hid (HD.out.trans (b6.mono HD.out.size))
              obtain ⟨a0, a1, a2, a3, a4, hpad, k0, k1, k2, k3, k4⟩ := hrec.cells rfl
              have hpad2 : pad5 (recC ll S i) = [a0, a1, a2, a3, a4] := hpad
              have HK2 := Lib.hid (HKEY.out.trans (congrArg some hpad2))
              have hr5 : R5 [a0, a1, a2, a3, a4] := by rw [← hpad2]; exact HRB.out i hlt
              have hs6 := HD6.out.size
              have HADD := Lib.hid (add_lit a0 a1 a2 a3 a4 (i : Int) w4.heap.size w4.heap.size i (grpOf (keyT c.toNat ll m S) i) w6 (HGK.out _ HD6.out) hr5 (by omega) (by have := HLEN.out [a0, a1, a2, a3, a4]; omega) (by omega))
              clear hpad hpad2 hr5 hrec b6
              go_wp2_with fail
              refine HADD.out.mono ?_
              rintro e w7 ⟨rfl, hg7, b7⟩
              have hg8 := hg7.congr (grpOf_some HK2.out)
              have hvc8 := (HVC.out _ HD6.out).kept b7 (fun k hk => (hvl k hk).2)
              have hb8 := (HBW.out _ HD6.out).trans (b7.mono hww)
              clear hg7 b7 k0 k1 k2 k3 k4
              go_wp2_with fail
              go_roundw
              case rel => exact ⟨i + 1, by omega, by go_num, hg8, hvc8, hb8⟩
              case measure => simp [intOf]; omega
          · obtain rfl : i = ll.length := by omega
            have HE := Lib.hid (fun e w' (h : RetP w4.heap.size (grpOf (keyT c.toNat ll m S) ll.length) w9 e w') => HR5.out w9 w4.heap.size e w' (by omega) hb h)
            have HPT := Lib.hid (partition_any w4.heap.size w4.heap.size ll.length (grpOf (keyT c.toNat ll m S) ll.length) w9 hg (by omega) (fun r => by have := grpOf_len (keyT c.toNat ll m S) ll.length r; omega) (by omega))
            clear hg hvc HR5 HAG
            go_wp2_with fail
            refine HPT.out.mono ?_
            rintro e w6 hret
            obtain ⟨v, L, rs, rfl, h⟩ := id hret
            have HF := Lib.hid (HE.out _ _ hret)
            clear h hret
            go_wp2_with fail
            go_ret
            exact HF.out
end Go.Proofs.YtfndnaldgaaieaaGreatDoor
