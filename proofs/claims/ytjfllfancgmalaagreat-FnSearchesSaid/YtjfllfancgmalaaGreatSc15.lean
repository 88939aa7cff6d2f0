/- Texts of this claim, merged: FltI, ImT, ImG, CvA, CvB. Conditions: as stated. -/
import Derived.Test.YtjfllfancgmalaaGreatSc10
import Derived.Maps.AppendAt
import Derived.Test.YtjfllfancgmalaaGreatSc13
import Derived.Test.YtjfllfancgmalaaGreatSc3
import Derived.Test.YtjfllfancgmalaaGreatSc11
import Derived.Test.YtjfllfancgmalaaGreatSc14
import Derived.Deep.Quiet
import Derived.Deep.RegionLaw
import Derived.Test.YtjfllfancgmalaaGreatSc6
namespace Go.Proofs.YtjfllfancgmalaaGreat
open Go.RowKit

end Go.Proofs.YtjfllfancgmalaaGreat
namespace Go.Proofs.YtjfllfancgmalaaGreat
open Go.RowKit

theorem implValue_any (x : Int) (w : World) :
    Calls Tryz.prog 101 #[.int .i64 x] w fun e w' => e = .returned (.bool (decide (0 ≤ x ∧ x ≤ 40))) ∧ w = w' := by
  by_cases h1 : 0 ≤ x <;> by_cases h2 : x ≤ 40
  all_goals
    go_enter Tryz.func101, Tryz.ntmps101
    go_wp2
    go_ret
    exact ⟨by simp [h1, h2], rfl⟩
theorem implCell_any (x : Int) (w : World) :
    Calls Tryz.prog 95 #[.int .i64 x] w fun e w' => e = .returned (.bool (cellOk x)) ∧ w = w' := by
  by_cases h1 : 0 ≤ x ∧ x ≤ 40
  · have HV := Lib.hid (implValue_any x w)
    rw [decide_eq_true h1] at HV
    go_enter Tryz.func95, Tryz.ntmps95
    go_wp2_with fail
    refine HV.out.mono ?_
    rintro e w' ⟨rfl, rfl⟩
    go_wp2_with fail
    go_ret
    exact ⟨ret_b (by unfold cellOk; simp; omega), rfl⟩
  · have HV := Lib.hid (implValue_any x w)
    rw [decide_eq_false h1] at HV
    have HN := Lib.hid h1
    clear h1
    by_cases h2 : x = -1
    · subst h2
      go_enter Tryz.func95, Tryz.ntmps95
      go_wp2_with fail
      refine HV.out.mono ?_
      rintro e w' ⟨rfl, rfl⟩
      go_wp2_with fail
      go_ret
      exact ⟨rfl, rfl⟩
    · have hx : (x == -1) = false := by simpa using h2
      have HN2 := Lib.hid h2
      clear h2
      go_enter Tryz.func95, Tryz.ntmps95
      go_wp2_with fail
      refine HV.out.mono ?_
      rintro e w' ⟨rfl, rfl⟩
      go_wp2_with fail
      go_ret
      exact ⟨ret_b (by unfold cellOk; have := HN.out; have := HN2.out; simp; omega), rfl⟩
set_option maxHeartbeats 800000 in
theorem implRow_any (v : Value) (r : List Int) (c : Int) (w : World) (hr : ReadI w v r) (hl : r.length ≤ 1048576) :
    Calls Tryz.prog 86 #[v, .int .i64 c] w fun e w' => e = .returned (.bool (rowOk c r)) ∧ w = w' := by
  obtain ⟨a, cap, rfl, ha⟩ := hr
  have HA := Lib.hid ha
  clear ha
  by_cases hc : (r.length : Int) = c
  · have hd : ((r.length : Int) != c) = false := by simp [hc]
    have HC := Lib.hid hc
    clear hc
    go_enter Tryz.func86, Tryz.ntmps86
    go_wp2_with fail
    go_loop [13] (fun iv => ∃ k : Nat, k ≤ r.length ∧ iv = .int .i64 (k : Int) ∧ Hid ((r.take k).all cellOk = true)) (fun iv => r.length - (intOf iv).toNat)
    case atStart => exact ⟨0, by omega, rfl, Lib.hid rfl⟩
    case round =>
      obtain ⟨k, hk, rfl, hall⟩ := hrel
      by_cases hlt : k < r.length
      · obtain ⟨x, rfl, hx⟩ := HA.out k hlt
        have z0 : (0 : Int) ≤ (k : Int) := by omega
        have z1 : (k : Int) < (r.length : Int) := by omega
        have HI := Lib.hid (implCell_any r[k] w)
        have HOK := Lib.hid (fun h => all_snoc (p := cellOk) hlt hall.out h)
        have HNO := Lib.hid (fun h => all_not (p := cellOk) hlt h)
        obtain ⟨y, hy⟩ : ∃ y : Int, r[k] = y := ⟨_, rfl⟩
        rw [hy] at hx HI HOK HNO
        clear hy
        cases hro : cellOk y with
        | true =>
          rw [hro] at HI
          have HX := Lib.hid (HOK.out hro)
          clear hro
          go_wp2_with fail
          refine HI.out.mono ?_
          rintro e w' ⟨rfl, rfl⟩
          go_wp2_with fail
          go_round
          case rel => exact ⟨k + 1, by omega, by go_num, HX⟩
          case measure => simp [intOf]; omega
        | false =>
          rw [hro] at HI
          have HX := Lib.hid (HNO.out hro)
          clear hro
          go_wp2_with fail
          refine HI.out.mono ?_
          rintro e w' ⟨rfl, rfl⟩
          go_wp2_with fail
          go_ret
          exact ⟨ret_b (by unfold rowOk; rw [HX.out]; rfl), rfl⟩
      · obtain rfl : k = r.length := by omega
        have HX : Hid (r.all cellOk = true) := Lib.hid (by have := hall.out; rwa [List.take_length] at this)
        go_wp2_with fail
        go_ret
        exact ⟨ret_b (by unfold rowOk; rw [HX.out, decide_eq_true HC.out]; rfl), rfl⟩
  · have hd : ((r.length : Int) != c) = true := by simpa using hc
    have HC := Lib.hid hc
    clear hc
    go_enter Tryz.func86, Tryz.ntmps86
    go_wp2_with fail
    go_ret
    exact ⟨ret_b (by unfold rowOk; rw [decide_eq_false HC.out]; simp), rfl⟩

set_option maxHeartbeats 1600000 in
theorem implIsTable_any (c : Int) (v : Value) (ll : List (List Int)) (w : World) (hr : ReadSS w v ll) (hl : ll.length ≤ 1048576) (ht : ∀ i, i < ll.length → (ll.getD i []).length ≤ 1048576) :
    Calls Tryz.prog 67 #[.agg #[.int .i64 c, v]] w fun e w' => e = .returned (.bool (isT c ll)) ∧ Below w.heap.size w w' := by
  obtain ⟨a, cap, rfl, ha⟩ := hr
  have HA := Lib.hid ha
  have HT := Lib.hid ht
  clear ha ht
  have hb1 := (Below.refl w.heap.size w).alloc (Nat.le_refl _) (.cells #[.int .i64 c, .slice a ll.length cap] 26)
  obtain ⟨w1, hw1⟩ : ∃ w1, w1 = w.alloc (.cells #[.int .i64 c, .slice a ll.length cap] 26) := ⟨_, rfl⟩
  have hbx := box2 (w := w) (wr := w1) (c := c) (v := .slice a ll.length cap) (T := 26) (by rw [hw1]; exact Below.refl _ _)
  have hb2 : Below w.heap.size w w1 := by rw [hw1]; exact hb1
  by_cases h1 : 1 ≤ c
  · have g1 : ¬ c < 1 := by omega
    by_cases h5 : c ≤ 5
    · have HCC := Lib.hid (fun w' => colCount_any c w')
      rw [show decide (0 ≤ c ∧ c ≤ 5) = true by simp; omega] at HCC
      by_cases h40 : ll.length ≤ 40
      · have g40 : ¬ (40 : Int) < (ll.length : Int) := by omega
        have HD : Hid ((decide (1 ≤ c ∧ c ≤ 5) && decide (ll.length ≤ 40)) = true) := Lib.hid (by simp; omega)
        clear h5
        go_enter Tryz.func67, Tryz.ntmps67
        go_wp2_with fail
        refine (HCC.out _).mono ?_
        rintro e w' ⟨rfl, rfl⟩
        go_wp2_with fail
        rw [← hw1]
        clear hw1 hb1
        go_loop [23] (fun iv => ∃ k : Nat, k ≤ ll.length ∧ iv = .int .i64 (k : Int) ∧ Hid ((ll.take k).all (rowOk c) = true)) (fun iv => ll.length - (intOf iv).toNat)
        case atStart => exact ⟨0, by omega, rfl, Lib.hid rfl⟩
        case round =>
          obtain ⟨k, hk, rfl, hall⟩ := hrel
          by_cases hlt : k < ll.length
          · obtain ⟨x, u, rfl, hx, hu⟩ := HA.out k hlt
            have hy := (hb2.cell (World.block_lt_of_cell? w _ hx)).trans hx
            have z0 : (0 : Int) ≤ (k : Int) := by omega
            have z1 : (k : Int) < (ll.length : Int) := by omega
            have hg : ll[k] = ll.getD k [] := by rw [List.getD_eq_getElem?_getD, List.getElem?_eq_getElem hlt]; rfl
            have HQ := Lib.hid (implRow_any u (ll.getD k []) c w1 (hu.kept hb2) (HT.out k hlt))
            have HOK := Lib.hid (fun h => all_snoc (p := rowOk c) hlt hall.out h)
            have HNO := Lib.hid (fun h => all_not (p := rowOk c) hlt h)
            rw [hg] at HOK HNO
            obtain ⟨r, hrr⟩ : ∃ r, ll.getD k [] = r := ⟨_, rfl⟩
            rw [hrr] at HQ HOK HNO
            clear hx hu hg hrr
            cases hro : rowOk c r with
            | true =>
              rw [hro] at HQ
              have HX := Lib.hid (HOK.out hro)
              clear hro
              go_wp2_with fail
              refine HQ.out.mono ?_
              rintro e w' ⟨rfl, rfl⟩
              go_wp2_with fail
              go_round
              case rel => exact ⟨k + 1, by omega, by go_num, HX⟩
              case measure => simp [intOf]; omega
            | false =>
              rw [hro] at HQ
              have HX := Lib.hid (HNO.out hro)
              clear hro
              go_wp2_with fail
              refine HQ.out.mono ?_
              rintro e w' ⟨rfl, rfl⟩
              go_wp2_with fail
              go_ret
              exact ⟨ret_b (by unfold isT; rw [HX.out]; rfl), hb2⟩
          · obtain rfl : k = ll.length := by omega
            have HX : Hid (ll.all (rowOk c) = true) := Lib.hid (by have := hall.out; rwa [List.take_length] at this)
            go_wp2_with fail
            go_ret
            exact ⟨ret_b (by unfold isT; rw [HX.out, HD.out]; rfl), hb2⟩
      · have g40 : (40 : Int) < (ll.length : Int) := by omega
        have HD : Hid (isT c ll = false) := Lib.hid (by unfold isT; rw [decide_eq_false h40]; simp)
        go_enter Tryz.func67, Tryz.ntmps67
        go_wp2_with fail
        refine (HCC.out _).mono ?_
        rintro e w' ⟨rfl, rfl⟩
        go_wp2_with fail
        go_ret
        exact ⟨ret_b HD.out, hb1⟩
    · have HCC := Lib.hid (fun w' => colCount_any c w')
      rw [show decide (0 ≤ c ∧ c ≤ 5) = false by simp; omega] at HCC
      have HD : Hid (isT c ll = false) := Lib.hid (by unfold isT; rw [decide_eq_false (p := 1 ≤ c ∧ c ≤ 5) (by omega)]; simp)
      go_enter Tryz.func67, Tryz.ntmps67
      go_wp2_with fail
      refine (HCC.out _).mono ?_
      rintro e w' ⟨rfl, rfl⟩
      go_wp2_with fail
      go_ret
      exact ⟨ret_b HD.out, hb1⟩
  · have g1 : c < 1 := by omega
    have HD : Hid (isT c ll = false) := Lib.hid (by unfold isT; rw [decide_eq_false (p := 1 ≤ c ∧ c ≤ 5) (by omega)]; simp)
    go_enter Tryz.func67, Tryz.ntmps67
    go_wp2_with fail
    go_ret
    exact ⟨ret_b HD.out, hb1⟩
end Go.Proofs.YtjfllfancgmalaaGreat
namespace Go.Proofs.YtjfllfancgmalaaGreat
open Go.RowKit

/-- The function of a mode. -/
def eqFn (m : Int) : Value := if m = 0 then .func (.func 84) #[] #[] else if m = 1 then .func (.func 85) #[] #[] else .nilFunc
theorem eqFn_0 : eqFn 0 = .func (.func 84) #[] #[] := rfl
theorem eqFn_1 : eqFn 1 = .func (.func 85) #[] #[] := rfl
theorem eqFun0_any (a b : Int) (w : World) :
    Calls Tryz.prog 84 #[.int .i64 a, .int .i64 b] w fun e w' => e = .returned (.bool (eqC 0 a b)) ∧ w = w' := by
  have HE := Lib.hid (show eqC 0 a b = decide (a = b) by unfold eqC; simp)
  go_enter Tryz.func84, Tryz.ntmps84
  go_wp2_with fail
  go_ret
  exact ⟨ret_b (by rw [HE.out]; rfl), rfl⟩
theorem eqFun1_any (a b : Int) (w : World) :
    Calls Tryz.prog 85 #[.int .i64 a, .int .i64 b] w fun e w' => e = .returned (.bool (eqC 1 a b)) ∧ w = w' := by
  by_cases h : a = b
  · subst h
    by_cases ha : a = -1
    · subst ha
      go_enter Tryz.func85, Tryz.ntmps85
      go_wp2_with fail
      go_ret
      exact ⟨ret_b (by decide), rfl⟩
    · have e1 : (a != -1) = true := by simpa using ha
      have HE := Lib.hid (show eqC 1 a a = true by unfold eqC; simp [ha])
      clear ha
      go_enter Tryz.func85, Tryz.ntmps85
      go_wp2_with fail
      go_ret
      exact ⟨ret_b HE.out, rfl⟩
  · have e0 : (a == b) = false := by simpa using h
    have HE := Lib.hid (show eqC 1 a b = false by unfold eqC; simp [h])
    clear h
    go_enter Tryz.func85, Tryz.ntmps85
    go_wp2_with fail
    go_ret
    exact ⟨ret_b HE.out, rfl⟩
theorem eqOf_any (m : Int) (w : World) :
    Calls Tryz.prog 66 #[.int .i64 m] w fun e w' => e = .returned (.tuple #[eqFn m, .bool (modeOk m)]) ∧ w = w' := by
  by_cases h0 : m = 0
  · subst h0
    go_enter Tryz.func66, Tryz.ntmps66
    go_wp2_with fail
    go_ret2
    exact ⟨rfl, rfl⟩
  · by_cases h1 : m = 1
    · subst h1
      go_enter Tryz.func66, Tryz.ntmps66
      go_wp2_with fail
      go_ret2
      exact ⟨rfl, rfl⟩
    · have e0 : (m == 0) = false := by simpa using h0
      have e1 : (m == 1) = false := by simpa using h1
      have HF := Lib.hid (show eqFn m = .nilFunc by unfold eqFn; rw [if_neg h0, if_neg h1])
      have HM := Lib.hid (show modeOk m = false by unfold modeOk; rw [decide_eq_false]; omega)
      clear h0 h1
      go_enter Tryz.func66, Tryz.ntmps66
      go_wp2_with fail
      go_ret2
      exact ⟨by rw [HF.out, HM.out]; rfl, rfl⟩
end Go.Proofs.YtjfllfancgmalaaGreat
namespace Go.Proofs.YtjfllfancgmalaaGreat
open Go.RowKit

set_option maxHeartbeats 1600000 in
theorem inMode_any (c m : Int) (v : Value) (ll : List (List Int)) (w : World) (hr : ReadSS w v ll) (hl : ll.length ≤ 1048576) (ht : ∀ i, i < ll.length → (ll.getD i []).length ≤ 1048576) :
    Calls Tryz.prog 45 #[.agg #[.int .i64 c, v], .int .i64 m] w fun e w' => e = .returned (.bool (fineT c ll m)) ∧ Below w.heap.size w w' := by
  have HO := Lib.hid (eqOf_any m)
  have hb1 := (Below.refl w.heap.size w).alloc (Nat.le_refl _) (.cells #[.int .i64 c, v] 26)
  have HV := Lib.hid (fun w' (hb : Below w.heap.size w w') => implIsTable_any c v ll w' (hr.kept hb) hl ht)
  have HB1 := Lib.hid hb1
  obtain ⟨c0, c1⟩ := zero2 w 26 (.int .i64 c) v
  obtain ⟨a, cap, rfl, -⟩ := hr
  obtain ⟨F, hF⟩ : ∃ F, eqFn m = F := ⟨_, rfl⟩
  rw [hF] at HO
  clear hb1 hF
  cases hm : modeOk m with
  | false =>
    have HE : Hid (fineT c ll m = false) := Lib.hid (by unfold fineT; rw [hm]; simp)
    rw [hm] at HO
    clear hm
    go_enter Tryz.func45, Tryz.ntmps45
    go_wp2_with fail
    refine (HO.out _).mono ?_
    rintro e w' ⟨rfl, rfl⟩
    go_wp2_with fail
    go_ret
    exact ⟨ret_b HE.out, HB1.out⟩
  | true =>
    have HE : Hid (fineT c ll m = isT c ll) := Lib.hid (by unfold fineT; rw [hm]; simp)
    rw [hm] at HO
    clear hm
    go_enter Tryz.func45, Tryz.ntmps45
    go_wp2_with fail
    refine (HO.out _).mono ?_
    rintro e w' ⟨rfl, rfl⟩
    go_wp2_with fail
    refine (HV.out _ HB1.out).mono ?_
    rintro e w2 ⟨rfl, b2⟩
    have hb2 := HB1.out.trans (b2.mono HB1.out.size)
    go_wp2_with fail
    go_ret
    exact ⟨ret_b HE.out, hb2⟩
theorem pw_next (ps : List Int) (r k : Nat) (h : k < ps.length) : (ps.take (k + 1)).map (fun S => (S, (r : Int))) = (ps.take k).map (fun S => (S, (r : Int))) ++ [(ps.getD k 0, (r : Int))] := by
  rw [take_succ_getD ps 0 k h, List.map_append]; rfl
theorem cand_len (C r : Nat) (hC : C ≤ 5) (hr : r ≤ C) : (mdOut (fun S r => !bitB S.toNat r) (parts (C : Int)) r).length ≤ 160 := by
  have h1 := mdOut_len (fun S r => !bitB S.toNat r) (parts (C : Int)) r
  have h2 := parts_len32 hC
  have h3 : r * (parts (C : Int)).length ≤ 5 * 32 := Nat.mul_le_mul (by omega) h2
  omega
end Go.Proofs.YtjfllfancgmalaaGreat
namespace Go.Proofs.YtjfllfancgmalaaGreat
open Go.RowKit

theorem box_two {w : World} {T T' : TypeId} {a b l r : Value} : (((w.alloc (.cells #[a, b] T)).alloc (.cells #[l, r] T')).cell? ⟨w.heap.size, 0, none⟩ = some a ∧ ((w.alloc (.cells #[a, b] T)).alloc (.cells #[l, r] T')).cell? ⟨w.heap.size, 1, none⟩ = some b) ∧ ((w.alloc (.cells #[a, b] T)).alloc (.cells #[l, r] T')).cell? ⟨w.heap.size + 1, 0, none⟩ = some l ∧ ((w.alloc (.cells #[a, b] T)).alloc (.cells #[l, r] T')).cell? ⟨w.heap.size + 1, 1, none⟩ = some r := boxTD (Below.refl _ _)
set_option maxHeartbeats 1600000 in
theorem covers_any (e0 e1 d0 d1 : Int) (w : World) :
    Calls Tryz.prog 53 #[.agg #[.int .i64 e0, .int .i64 e1], .agg #[.int .i64 d0, .int .i64 d1]] w fun e w' => e = .returned (.bool (covB (e0, e1) (d0, d1))) ∧ Below w.heap.size w w' := by
  have hb1 := (Below.refl w.heap.size w).alloc (Nat.le_refl _) (.cells #[.int .i64 e0, .int .i64 e1] 38)
  have hb2 := hb1.alloc hb1.size (.cells #[.int .i64 d0, .int .i64 d1] 38)
  have HB := Lib.hid hb2
  obtain ⟨⟨c0, c1⟩, c2, c3⟩ := box_two (w := w) (T := 38) (T' := 38) (a := .int .i64 e0) (b := .int .i64 e1) (l := .int .i64 d0) (r := .int .i64 d1)
  have HP := Lib.hid (fun w' => partOf_any e0 d0 w')
  clear hb1 hb2
  by_cases h : e1 = d1
  · subst h
    have HE : Hid (covB (e0, e1) (d0, e1) = partZ e0 d0) := Lib.hid (by unfold covB; simp)
    go_enter Tryz.func53, Tryz.ntmps53
    go_wp2_with fail
    refine (HP.out _).mono ?_
    rintro e w' ⟨rfl, rfl⟩
    go_wp2_with fail
    go_ret
    exact ⟨ret_b HE.out, HB.out⟩
  · have HE : Hid (covB (e0, e1) (d0, d1) = false) := Lib.hid (by unfold covB; rw [decide_eq_false h]; rfl)
    have hne : (e1 == d1) = false := by simpa using h
    clear h
    go_enter Tryz.func53, Tryz.ntmps53
    go_wp2_with fail
    go_ret
    exact ⟨ret_b HE.out, HB.out⟩
theorem any_no {α : Type} (p : α → Bool) (l : List α) (d : α) (k : Nat) (h : k < l.length) (h0 : (l.take k).any p = false) (h1 : p (l.getD k d) = false) : (l.take (k + 1)).any p = false := by
  rw [take_succ_getD l d k h, List.any_append, h0, Bool.false_or]
  show (p (l.getD k d) || false) = false
  rw [h1]; rfl
theorem any_yes {α : Type} (p : α → Bool) (l : List α) (d : α) (k : Nat) (h : k < l.length) (h1 : p (l.getD k d) = true) : l.any p = true := by
  rw [List.any_eq_true]
  exact ⟨l.getD k d, by rw [List.getD_eq_getElem?_getD, List.getElem?_eq_getElem h]; exact List.getElem_mem h, h1⟩
/-- An index that is not negative just if one is so. -/
def IxOk (b : Bool) (i : Int) : Prop := (b = true → 0 ≤ i) ∧ (b = false → i = -1)
end Go.Proofs.YtjfllfancgmalaaGreat
