/- Texts of this claim, merged: ImT, ImH, ImU, ImE. Conditions: as stated. -/
import Derived.Test.YtpkcffbfgocndaaGreatDoorMd
import Derived.Test.YtpkcffbfgocndaaGreatDoorMh
namespace Go.Proofs.YtpkcffbfgocndaaGreatDoor
open Go.RowKit

theorem implValue_any (x : Int) (w : World) :
    Calls Tryz.prog 77 #[.int .i64 x] w fun e w' => e = .returned (.bool (decide (0 ≤ x ∧ x ≤ 40))) ∧ w = w' := by
  by_cases h1 : 0 ≤ x <;> by_cases h2 : x ≤ 40
  all_goals
    go_enter Tryz.func77, Tryz.ntmps77
    go_wp2
    go_ret
    exact ⟨by simp [h1, h2], rfl⟩
theorem implCell_any (x : Int) (w : World) :
    Calls Tryz.prog 63 #[.int .i64 x] w fun e w' => e = .returned (.bool (cellOk x)) ∧ w = w' := by
  by_cases h1 : 0 ≤ x ∧ x ≤ 40
  · have HV := Lib.hid (implValue_any x w)
    rw [decide_eq_true h1] at HV
    go_enter Tryz.func63, Tryz.ntmps63
    go_wp2_with fail
    refine HV.out.mono ?_
    rintro e w' ⟨rfl, rfl⟩
    go_wp2_with fail
    go_ret
    exact ⟨ret_b (by unfold cellOk; simp; omega), rfl⟩
  · have HV := Lib.hid (implValue_any x w)
    rw [decide_eq_false h1] at HV
    have HN := Lib.hid h1
    clear h1
    by_cases h2 : x = -1
    · subst h2
      go_enter Tryz.func63, Tryz.ntmps63
      go_wp2_with fail
      refine HV.out.mono ?_
      rintro e w' ⟨rfl, rfl⟩
      go_wp2_with fail
      go_ret
      exact ⟨rfl, rfl⟩
    · have hx : (x == -1) = false := by simpa using h2
      have HN2 := Lib.hid h2
      clear h2
      go_enter Tryz.func63, Tryz.ntmps63
      go_wp2_with fail
      refine HV.out.mono ?_
      rintro e w' ⟨rfl, rfl⟩
      go_wp2_with fail
      go_ret
      exact ⟨ret_b (by unfold cellOk; have := HN.out; have := HN2.out; simp; omega), rfl⟩
set_option maxHeartbeats 800000 in
theorem implRow_any (v : Value) (r : List Int) (c : Int) (w : World) (hr : ReadI w v r) (hl : r.length ≤ 1048576) :
    Calls Tryz.prog 38 #[v, .int .i64 c] w fun e w' => e = .returned (.bool (rowOk c r)) ∧ w = w' := by
  obtain ⟨a, cap, rfl, ha⟩ := hr
  have HA := Lib.hid ha
  clear ha
  by_cases hc : (r.length : Int) = c
  · have hd : ((r.length : Int) != c) = false := by simp [hc]
    have HC := Lib.hid hc
    clear hc
    go_enter Tryz.func38, Tryz.ntmps38
    go_wp2_with fail
    go_loop [13] (fun iv => ∃ k : Nat, k ≤ r.length ∧ iv = .int .i64 (k : Int) ∧ Hid ((r.take k).all cellOk = true)) (fun iv => r.length - (intOf iv).toNat)
    case atStart => exact ⟨0, by omega, rfl, Lib.hid rfl⟩
    case round =>
      obtain ⟨k, hk, rfl, hall⟩ := hrel
      by_cases hlt : k < r.length
      · obtain ⟨x, rfl, hx⟩ := HA.out k hlt
        have z0 : (0 : Int) ≤ (k : Int) := by omega
        have z1 : (k : Int) < (r.length : Int) := by omega
        have HI := Lib.hid (implCell_any r[k] w)
        have HOK := Lib.hid (fun h => all_snoc (p := cellOk) hlt hall.out h)
        have HNO := Lib.hid (fun h => all_not (p := cellOk) hlt h)
        obtain ⟨y, hy⟩ : ∃ y : Int, r[k] = y := ⟨_, rfl⟩
        rw [hy] at hx HI HOK HNO
        clear hy
        cases hro : cellOk y with
        | true =>
          rw [hro] at HI
          have HX := Lib.hid (HOK.out hro)
          clear hro
          go_wp2_with fail
          refine HI.out.mono ?_
          rintro e w' ⟨rfl, rfl⟩
          go_wp2_with fail
          go_round
          case rel => exact ⟨k + 1, by omega, by go_num, HX⟩
          case measure => simp [intOf]; omega
        | false =>
          rw [hro] at HI
          have HX := Lib.hid (HNO.out hro)
          clear hro
          go_wp2_with fail
          refine HI.out.mono ?_
          rintro e w' ⟨rfl, rfl⟩
          go_wp2_with fail
          go_ret
          exact ⟨ret_b (by unfold rowOk; rw [HX.out]; rfl), rfl⟩
      · obtain rfl : k = r.length := by omega
        have HX : Hid (r.all cellOk = true) := Lib.hid (by have := hall.out; rwa [List.take_length] at this)
        go_wp2_with fail
        go_ret
        exact ⟨ret_b (by unfold rowOk; rw [HX.out, decide_eq_true HC.out]; rfl), rfl⟩
  · have hd : ((r.length : Int) != c) = true := by simpa using hc
    have HC := Lib.hid hc
    clear hc
    go_enter Tryz.func38, Tryz.ntmps38
    go_wp2_with fail
    go_ret
    exact ⟨ret_b (by unfold rowOk; rw [decide_eq_false HC.out]; simp), rfl⟩

set_option maxHeartbeats 1600000 in
theorem implIsTable_any (c : Int) (v : Value) (ll : List (List Int)) (w : World) (hr : ReadSS w v ll) (hl : ll.length ≤ 1048576) (ht : ∀ i, i < ll.length → (ll.getD i []).length ≤ 1048576) :
    Calls Tryz.prog 11 #[.agg #[.int .i64 c, v]] w fun e w' => e = .returned (.bool (isT c ll)) ∧ Below w.heap.size w w' := by
  obtain ⟨a, cap, rfl, ha⟩ := hr
  have HA := Lib.hid ha
  have HT := Lib.hid ht
  clear ha ht
  have hb1 := (Below.refl w.heap.size w).alloc (Nat.le_refl _) (.cells #[.int .i64 c, .slice a ll.length cap] 26)
  obtain ⟨w1, hw1⟩ : ∃ w1, w1 = w.alloc (.cells #[.int .i64 c, .slice a ll.length cap] 26) := ⟨_, rfl⟩
  have hbx := box2 (w := w) (wr := w1) (c := c) (v := .slice a ll.length cap) (T := 26) (by rw [hw1]; exact Below.refl _ _)
  have hb2 : Below w.heap.size w w1 := by rw [hw1]; exact hb1
  by_cases h1 : 1 ≤ c
  · have g1 : ¬ c < 1 := by omega
    by_cases h5 : c ≤ 5
    · have HCC := Lib.hid (fun w' => colCount_any c w')
      rw [show decide (0 ≤ c ∧ c ≤ 5) = true by simp; omega] at HCC
      by_cases h40 : ll.length ≤ 40
      · have g40 : ¬ (40 : Int) < (ll.length : Int) := by omega
        have HD : Hid ((decide (1 ≤ c ∧ c ≤ 5) && decide (ll.length ≤ 40)) = true) := Lib.hid (by simp; omega)
        clear h5
        go_enter Tryz.func11, Tryz.ntmps11
        go_wp2_with fail
        refine (HCC.out _).mono ?_
        rintro e w' ⟨rfl, rfl⟩
        go_wp2_with fail
        rw [← hw1]
        clear hw1 hb1
        go_loop [23] (fun iv => ∃ k : Nat, k ≤ ll.length ∧ iv = .int .i64 (k : Int) ∧ Hid ((ll.take k).all (rowOk c) = true)) (fun iv => ll.length - (intOf iv).toNat)
        case atStart => exact ⟨0, by omega, rfl, Lib.hid rfl⟩
        case round =>
          obtain ⟨k, hk, rfl, hall⟩ := hrel
          by_cases hlt : k < ll.length
          · obtain ⟨x, u, rfl, hx, hu⟩ := HA.out k hlt
            have hy := (hb2.cell (World.block_lt_of_cell? w _ hx)).trans hx
            have z0 : (0 : Int) ≤ (k : Int) := by omega
            have z1 : (k : Int) < (ll.length : Int) := by omega
            have hg : ll[k] = ll.getD k [] := by rw [List.getD_eq_getElem?_getD, List.getElem?_eq_getElem hlt]; rfl
            have HQ := Lib.hid (implRow_any u (ll.getD k []) c w1 (hu.kept hb2) (HT.out k hlt))
            have HOK := Lib.hid (fun h => all_snoc (p := rowOk c) hlt hall.out h)
            have HNO := Lib.hid (fun h => all_not (p := rowOk c) hlt h)
            rw [hg] at HOK HNO
            obtain ⟨r, hrr⟩ : ∃ r, ll.getD k [] = r := ⟨_, rfl⟩
            rw [hrr] at HQ HOK HNO
            clear hx hu hg hrr
            cases hro : rowOk c r with
            | true =>
              rw [hro] at HQ
              have HX := Lib.hid (HOK.out hro)
              clear hro
              go_wp2_with fail
              refine HQ.out.mono ?_
              rintro e w' ⟨rfl, rfl⟩
              go_wp2_with fail
              go_round
              case rel => exact ⟨k + 1, by omega, by go_num, HX⟩
              case measure => simp [intOf]; omega
            | false =>
              rw [hro] at HQ
              have HX := Lib.hid (HNO.out hro)
              clear hro
              go_wp2_with fail
              refine HQ.out.mono ?_
              rintro e w' ⟨rfl, rfl⟩
              go_wp2_with fail
              go_ret
              exact ⟨ret_b (by unfold isT; rw [HX.out]; rfl), hb2⟩
          · obtain rfl : k = ll.length := by omega
            have HX : Hid (ll.all (rowOk c) = true) := Lib.hid (by have := hall.out; rwa [List.take_length] at this)
            go_wp2_with fail
            go_ret
            exact ⟨ret_b (by unfold isT; rw [HX.out, HD.out]; rfl), hb2⟩
      · have g40 : (40 : Int) < (ll.length : Int) := by omega
        have HD : Hid (isT c ll = false) := Lib.hid (by unfold isT; rw [decide_eq_false h40]; simp)
        go_enter Tryz.func11, Tryz.ntmps11
        go_wp2_with fail
        refine (HCC.out _).mono ?_
        rintro e w' ⟨rfl, rfl⟩
        go_wp2_with fail
        go_ret
        exact ⟨ret_b HD.out, hb1⟩
    · have HCC := Lib.hid (fun w' => colCount_any c w')
      rw [show decide (0 ≤ c ∧ c ≤ 5) = false by simp; omega] at HCC
      have HD : Hid (isT c ll = false) := Lib.hid (by unfold isT; rw [decide_eq_false (p := 1 ≤ c ∧ c ≤ 5) (by omega)]; simp)
      go_enter Tryz.func11, Tryz.ntmps11
      go_wp2_with fail
      refine (HCC.out _).mono ?_
      rintro e w' ⟨rfl, rfl⟩
      go_wp2_with fail
      go_ret
      exact ⟨ret_b HD.out, hb1⟩
  · have g1 : c < 1 := by omega
    have HD : Hid (isT c ll = false) := Lib.hid (by unfold isT; rw [decide_eq_false (p := 1 ≤ c ∧ c ≤ 5) (by omega)]; simp)
    go_enter Tryz.func11, Tryz.ntmps11
    go_wp2_with fail
    go_ret
    exact ⟨ret_b HD.out, hb1⟩
end Go.Proofs.YtpkcffbfgocndaaGreatDoor
namespace Go.Proofs.YtpkcffbfgocndaaGreatDoor
open Go.RowKit

/-- A valid table that has this column; that has this row. -/
def colB (c : Int) (ll : List (List Int)) (q : Int) : Bool := isT c ll && decide (0 ≤ q ∧ q ≤ c - 1)
def atRowB (c : Int) (ll : List (List Int)) (i : Int) : Bool := isT c ll && decide (0 ≤ i ∧ i ≤ (ll.length : Int) - 1)
set_option maxHeartbeats 800000 in
theorem hasColumn_any (c q : Int) (v : Value) (ll : List (List Int)) (w : World) (hr : ReadSS w v ll) (hl : ll.length ≤ 1048576) (ht : ∀ i, i < ll.length → (ll.getD i []).length ≤ 1048576) :
    Calls Tryz.prog 51 #[.agg #[.int .i64 c, v], .int .i64 q] w fun e w' => e = .returned (.bool (colB c ll q)) ∧ Below w.heap.size w w' := by
  have hb1 := (Below.refl w.heap.size w).alloc (Nat.le_refl _) (.cells #[.int .i64 c, v] 26)
  have HV := Lib.hid (implIsTable_any c v ll (w.alloc (.cells #[.int .i64 c, v] 26)) (hr.kept hb1) hl ht)
  obtain ⟨a, cap, rfl, -⟩ := hr
  unfold colB
  cases hv : isT c ll with
  | true =>
    rw [hv] at HV
    clear hv
    by_cases h0 : 0 ≤ q
    · by_cases h1 : q ≤ c - 1
      · have HE := Lib.hid (decide_eq_true (And.intro h0 h1))
        have h2 : q < c := by omega
        clear h1
        go_enter Tryz.func51, Tryz.ntmps51
        go_wp2_with fail
        refine HV.out.mono ?_
        rintro e w' ⟨rfl, b⟩
        obtain ⟨c0, c1⟩ := box2 b
        have hb2 := hb1.trans (b.mono hb1.size)
        clear b hb1
        go_wp2_with fail
        go_ret
        exact ⟨ret_b (by rw [HE.out]; rfl), hb2⟩
      · have HE := Lib.hid (decide_eq_false (p := 0 ≤ q ∧ q ≤ c - 1) (by omega))
        have h2 : ¬ q < c := by omega
        clear h1
        go_enter Tryz.func51, Tryz.ntmps51
        go_wp2_with fail
        refine HV.out.mono ?_
        rintro e w' ⟨rfl, b⟩
        obtain ⟨c0, c1⟩ := box2 b
        have hb2 := hb1.trans (b.mono hb1.size)
        clear b hb1
        go_wp2_with fail
        go_ret
        exact ⟨ret_b (by rw [HE.out, decide_eq_false (p := q < c) (by omega)]; rfl), hb2⟩
    · have HE := Lib.hid (decide_eq_false (p := 0 ≤ q ∧ q ≤ c - 1) (by omega))
      go_enter Tryz.func51, Tryz.ntmps51
      go_wp2_with fail
      refine HV.out.mono ?_
      rintro e w' ⟨rfl, b⟩
      have hb2 := hb1.trans (b.mono hb1.size)
      clear b hb1
      go_wp2_with fail
      go_ret
      exact ⟨ret_b (by rw [Bool.and_eq_false_iff]; exact Or.inl (decide_eq_false (by omega))), hb2⟩
  | false =>
    rw [hv] at HV
    clear hv
    go_enter Tryz.func51, Tryz.ntmps51
    go_wp2_with fail
    refine HV.out.mono ?_
    rintro e w' ⟨rfl, b⟩
    have hb2 := hb1.trans (b.mono hb1.size)
    clear b hb1
    go_wp2_with fail
    go_ret
    exact ⟨ret_b (by rw [Bool.false_and]), hb2⟩
end Go.Proofs.YtpkcffbfgocndaaGreatDoor
namespace Go.Proofs.YtpkcffbfgocndaaGreatDoor
open Go.RowKit

set_option maxHeartbeats 1600000 in
theorem implColumnOf_any (c q : Int) (v : Value) (ll : List (List Int)) (w : World) (hr : ReadSS w v ll) (hl : ll.length ≤ 1048576) (ht : ∀ i, i < ll.length → (ll.getD i []).length ≤ 1048576) :
    Calls Tryz.prog 18 #[.agg #[.int .i64 c, v], .int .i64 q] w (RetI (colOf c ll q) w) := by
  obtain ⟨i0, hi, hz0, hz1, hz2⟩ := info_parts info3j
  have HI : Hid (_ ∧ _ ∧ _ ∧ _) := Lib.hid ⟨hi, hz0, hz1, hz2⟩
  clear hi hz0 hz1 hz2
  have HV := Lib.hid (fun w' (hb : Below w.heap.size w w') => hasColumn_any c q v ll w' (hr.kept hb) hl ht)
  obtain ⟨a, cap, rfl, ha⟩ := hr
  have HA := Lib.hid ha
  clear ha ht
  have hb1 := (Below.refl w.heap.size w).alloc (Nat.le_refl _) (.cells #[.int .i64 c, .slice a ll.length cap] 26)
  have HB1 := Lib.hid hb1
  have HRF := Lib.hid (Below.refl (w.alloc (.cells #[.int .i64 c, .slice a ll.length cap] 26)).heap.size (w.alloc (.cells #[.int .i64 c, .slice a ll.length cap] 26)))
  have hx0 := box2 HRF.out
  obtain ⟨hx1, hx2⟩ := hx0
  cases hc : colB c ll q with
  | true =>
    have hv : isT c ll = true ∧ 0 ≤ q ∧ q ≤ c - 1 := by simpa [colB] using hc
    obtain ⟨hT, hq⟩ := hv
    obtain ⟨c1, c5, h40⟩ := isT_bd hT
    have HROW := Lib.hid (fun k hk => (isT_row hT (k := k) hk).1)
    rw [hc] at HV
    have HE : Hid (colOf c ll q = ll.map (fun r => r.getD q.toNat 0)) := Lib.hid (by unfold colOf; rw [if_pos ⟨hT, hq⟩])
    obtain ⟨Q, rfl⟩ : ∃ Q : Nat, q = (Q : Int) := ⟨q.toNat, by omega⟩
    have hQ : Q < 5 := by omega
    have hQc : (Q : Int) ≤ c - 1 := hq.2
    have g1 : ¬ (Q : Int) < 0 := by omega
    have g2 : ¬ c ≤ (Q : Int) := by omega
    clear hq hT hc
    go_enter Tryz.func18, Tryz.ntmps18
    go_wp2_with fail
    refine (HV.out _ HB1.out).mono ?_
    rintro e w2 ⟨rfl, hb2⟩
    have hb := HRF.out.trans (hb2.mono HRF.out.size)
    obtain ⟨hc0, hc1⟩ := box2 hb
    clear hx1 hx2 hb1 hb2
    go_wp2_with (at_make; refine wpList_make_own _ rfl _ _ 37 rfl (w.heap.size + 1) 3 i0 (.int .i64 0) 1 Tryz.underlying37 HI.out.1 HI.out.2.1 HI.out.2.2.1 .i64 .i64 _ ll.length rfl rfl rfl (by rw [HI.out.2.2.2]; omega) (by unfold maxLen; omega) (by have := hb.size; simp at this; exact this) ?_; intro w0 hown0 hgrow0; have hb3 := hb.grown hgrow0 hb.size (by simp); have ho0 := OwnI.made hown0; clear hown0 hgrow0 hc0 hc1 hb; obtain ⟨hc0, hc1⟩ := box2 hb3)
    go_loopw [5, 19] (fun ov iv wr => ∃ (k : Nat) (l : List Int), k ≤ ll.length ∧ iv = .int .i64 (k : Int) ∧ Hid (l = (ll.take k).map (fun r => r.getD Q 0)) ∧ OwnI wr (w.heap.size + 1) ov l ∧ Below (w.alloc (.cells #[.int .i64 c, .slice a ll.length cap] 26)).heap.size (w.alloc (.cells #[.int .i64 c, .slice a ll.length cap] 26)) wr) (fun _ iv _ => ll.length - (intOf iv).toNat)
    case atStart => exact ⟨0, [], by omega, rfl, Lib.hid rfl, ho0, hb3⟩
    case round =>
      clear ho0 hb3 hc0 hc1
      obtain ⟨k, l, hk, rfl, hL, ho, hb⟩ := hrel
      have hll : l.length ≤ 40 := by rw [hL.out, List.length_map]; have := List.length_take_le k ll; omega
      by_cases hlt : k < ll.length
      · have z0 : (0 : Int) ≤ (k : Int) := by omega
        have z1 : (k : Int) < (ll.length : Int) := by omega
        have HB := Lib.hid hb
        have hbw := HB1.out.trans (hb.mono HB1.out.size)
        clear hb
        obtain ⟨x, u, rfl, hx, hu⟩ := HA.out k hlt
        have hy := (hbw.cell (World.block_lt_of_cell? w _ hx)).trans hx
        obtain ⟨a', cap', rfl, hrow⟩ := hu.kept hbw
        have hcl := HROW.out k hlt
        obtain ⟨x', rfl, hx'⟩ := hrow Q (by omega)
        have hgd := get_getD (ll.getD k []) Q (by omega)
        rw [hgd] at hx'
        have HS := Lib.hid (map_take_succ ll (fun r => r.getD Q 0) [] k hlt)
        obtain ⟨y, hyy⟩ : ∃ y, (ll.getD k []).getD Q 0 = y := ⟨_, rfl⟩
        obtain ⟨R, hR⟩ : ∃ R : Nat, (ll.getD k []).length = R := ⟨_, rfl⟩
        rw [hyy] at hx'
        simp only [hyy] at HS
        rw [hR] at hy hcl
        have z2 : (0 : Int) ≤ (Q : Int) := by omega
        have z3 : (Q : Int) < (R : Int) := by omega
        clear hyy hR hgd hrow hx
        go_wp2_with (at_builtin; refine wpList_append_own _ rfl _ _ 37 rfl (w.heap.size + 1) 3 i0 (.int .i64 0) 1 8 Tryz.underlying37 HI.out.1 HI.out.2.1 HI.out.2.2.1 HI.out.2.2.2 rfl (by decide) _ _ _ rfl (World.ownsRow.alloc ho _) ⟨wr.heap.size, 0, none⟩ 1 1 [.int .i64 y] rfl rfl (cell_one_new _ _ _) (one_i64 _) (by unfold maxLen; omega) (by omega) (by have := HB.out.size; simp at this; simp; omega) ?_; intro v' w1 hown' hgrow _)
        have ho' := OwnI.snoc hown'
        have hb' := (HB.out.alloc HB.out.size (.cells #[.int .i64 y] 3)).grown hgrow (by have := HB.out.size; simp at this; simp; omega) (fun k hk => by have := (OwnI.lt ho k hk).1; simp; omega)
        clear hown' hgrow
        go_wp2_with fail
        go_roundw
        case rel => exact ⟨k + 1, _, by omega, by go_num, Lib.hid (by rw [HS.out, hL.out]), ho', hb'⟩
        case measure => simp [intOf]; omega
      · obtain rfl : k = ll.length := by omega
        have hbw := HB1.out.trans (hb.mono HB1.out.size)
        go_wp2_with fail
        go_ret
        exact ⟨_, rfl, by rw [HE.out, show (Q : Int).toNat = Q from rfl]; have := hL.out; rw [List.take_length] at this; rw [← this]; exact ho.base (by omega), hbw⟩
  | false =>
    have HE : Hid (colOf c ll q = []) := Lib.hid (by unfold colOf; rw [if_neg (fun h => by have : colB c ll q = true := by unfold colB; rw [h.1, decide_eq_true h.2]; rfl
                                                                                           rw [hc] at this; cases this)])
    rw [hc] at HV
    clear hc
    go_enter Tryz.func18, Tryz.ntmps18
    go_wp2_with fail
    refine (HV.out _ HB1.out).mono ?_
    rintro e w2 ⟨rfl, hb2⟩
    have hb := HB1.out.trans (hb2.mono HB1.out.size)
    go_wp2_with fail
    go_ret
    exact ⟨_, rfl, by rw [HE.out]; exact World.ownsRow_nil _ _ _ _, hb⟩
end Go.Proofs.YtpkcffbfgocndaaGreatDoor
namespace Go.Proofs.YtpkcffbfgocndaaGreatDoor
open Go.RowKit

set_option maxHeartbeats 800000 in
theorem slEqual_any (v v' : Value) (l l' : List Int) (w : World) (hr : ReadI w v l) (hr' : ReadI w v' l') (hl : l.length ≤ 1000000000) :
    Calls Tryz.prog 36 #[v, v'] w fun e w' => e = .returned (.bool (eqB l l')) ∧ ∃ m, w' = w.drewN m := by
  obtain ⟨a, cap, rfl, ha⟩ := hr
  obtain ⟨a', cap', rfl, ha'⟩ := hr'
  have HA := Lib.hid ha
  have HA' := Lib.hid ha'
  clear ha ha'
  by_cases hlen : l.length = l'.length
  · have hne : ((l.length : Int) != (l'.length : Int)) = false := by simp [hlen]
    have HL := Lib.hid hlen
    clear hlen
    go_enter Tryz.func36, Tryz.ntmps36
    go_wp2_with fail
    go_loopw [13] (fun iv wr => ∃ (k n : Nat), k ≤ l.length ∧ iv = .int .i64 (k : Int) ∧ Hid (l.take k = l'.take k) ∧ wr = w.drewN n) (fun iv _ => l.length - (intOf iv).toNat)
    case atStart => exact ⟨0, 0, by omega, rfl, Lib.hid rfl, rfl⟩
    case round =>
      obtain ⟨k, n, hk, rfl, hsame, rfl⟩ := hrel
      by_cases hlt : k < l.length
      · have hlt' : k < l'.length := by have := HL.out; omega
        obtain ⟨x, rfl, hx⟩ := HA.out k hlt
        obtain ⟨x', rfl, hx'⟩ := HA'.out k hlt'
        have z0 : (0 : Int) ≤ (k : Int) := by omega
        have z1 : (k : Int) < (l.length : Int) := by omega
        have z2 : (k : Int) < (l'.length : Int) := by omega
        by_cases he : l[k] = l'[k]
        · have hb : (l[k] != l'[k]) = false := by simp [he]
          have HE := Lib.hid he
          clear he
          go_wp2_with fail
          go_quiet (fail)
          go_wp2_with fail
          go_roundw
          case rel => exact ⟨k + 1, _, by omega, by go_num, Lib.hid (by rw [List.take_succ_eq_append_getElem hlt, List.take_succ_eq_append_getElem hlt', hsame.out, HE.out]), rfl⟩
          case measure => simp [intOf]; omega
        · have hb : (l[k] != l'[k]) = true := by simpa using he
          have HE := Lib.hid he
          clear he
          go_wp2_with fail
          go_quiet (fail)
          go_wp2_with fail
          go_ret
          exact ⟨ret_b (by unfold eqB; rw [decide_eq_false]; intro e; apply HE.out; simp only [e]), _, World.drewN_drewN _ _ _⟩
      · go_wp2_with fail
        go_ret
        exact ⟨ret_b (by
          unfold eqB
          rw [decide_eq_true]
          have := hsame.out
          rwa [List.take_of_length_le (by omega), List.take_of_length_le (by have := HL.out; omega)] at this), _, rfl⟩
  · have hne : ((l.length : Int) != (l'.length : Int)) = true := by simp; omega
    have HL := Lib.hid hlen
    clear hlen
    go_enter Tryz.func36, Tryz.ntmps36
    go_wp2_with fail
    go_ret
    exact ⟨ret_b (by unfold eqB; rw [decide_eq_false]; intro e; exact HL.out (by rw [e])), 0, rfl⟩

set_option maxHeartbeats 1600000 in
theorem slEqualFunc_any (v v' : Value) (ll ll' : List (List Int)) (w : World) (hr : ReadSS w v ll) (hr' : ReadSS w v' ll') (hl : ll.length ≤ 1000000000) (ht : ∀ i, i < ll.length → (ll.getD i []).length ≤ 1000000000) :
    Calls Tryz.prog 35 #[v, v', .func (.func 36) #[] #[]] w fun e w' => e = .returned (.bool (decide (ll = ll'))) ∧ Below w.heap.size w w' := by
  obtain ⟨a, cap, rfl, ha⟩ := hr
  obtain ⟨a', cap', rfl, ha'⟩ := hr'
  have HA := Lib.hid ha
  have HA' := Lib.hid ha'
  have HT := Lib.hid ht
  clear ha ha' ht
  by_cases hlen : ll.length = ll'.length
  · have hne : ((ll.length : Int) != (ll'.length : Int)) = false := by simp [hlen]
    have HL := Lib.hid hlen
    clear hlen
    go_enter Tryz.func35, Tryz.ntmps35
    go_wp2_with fail
    go_loopw [17] (fun iv wr => ∃ (k : Nat), k ≤ ll.length ∧ iv = .int .i64 (k : Int) ∧ Hid (ll.take k = ll'.take k) ∧ Below w.heap.size w wr) (fun iv _ => ll.length - (intOf iv).toNat)
    case atStart => exact ⟨0, by omega, rfl, Lib.hid rfl, Below.refl _ _⟩
    case round =>
      obtain ⟨k, hk, rfl, hsame, hb⟩ := hrel
      by_cases hlt : k < ll.length
      · have hlt' : k < ll'.length := by have := HL.out; omega
        obtain ⟨x, u, rfl, hx, hu⟩ := HA.out k hlt
        obtain ⟨x', u', rfl, hx', hu'⟩ := HA'.out k hlt'
        have HQ := Lib.hid (slEqual_any u u' _ _ wr (hu.kept hb) (hu'.kept hb) (HT.out k hlt))
        have hy := (hb.cell (World.block_lt_of_cell? w _ hx)).trans hx
        have hy' := (hb.cell (World.block_lt_of_cell? w _ hx')).trans hx'
        have z0 : (0 : Int) ≤ (k : Int) := by omega
        have z1 : (k : Int) < (ll.length : Int) := by omega
        have z2 : (k : Int) < (ll'.length : Int) := by omega
        clear hx hx' hu hu'
        by_cases he : ll.getD k [] = ll'.getD k []
        · have hq : eqB (ll.getD k []) (ll'.getD k []) = true := decide_eq_true he
          rw [hq] at HQ
          have HE := Lib.hid he
          clear he hq
          go_wp2_with fail
          refine HQ.out.mono ?_
          rintro e w' ⟨rfl, m, rfl⟩
          go_wp2_with fail
          go_roundw
          case rel => exact ⟨k + 1, by omega, by go_num, Lib.hid (by rw [take_succ_getD ll [] k hlt, take_succ_getD ll' [] k hlt', hsame.out, HE.out]), below_drewN hb _⟩
          case measure => simp [intOf]; omega
        · have hq : eqB (ll.getD k []) (ll'.getD k []) = false := decide_eq_false he
          rw [hq] at HQ
          have HE2 := Lib.hid he
          clear he hq
          go_wp2_with fail
          refine HQ.out.mono ?_
          rintro e w' ⟨rfl, m, rfl⟩
          go_wp2_with fail
          go_ret
          exact ⟨ret_b (by rw [decide_eq_false (p := ll = ll') (by intro e; apply HE2.out; rw [e])]), below_drewN hb _⟩
      · go_wp2_with fail
        go_ret
        exact ⟨ret_b (by rw [decide_eq_true (p := ll = ll') (take_eq_all hsame.out (by omega) (by have := HL.out; omega))]), hb⟩
  · have hne : ((ll.length : Int) != (ll'.length : Int)) = true := by simp; omega
    have HL := Lib.hid hlen
    clear hlen
    go_enter Tryz.func35, Tryz.ntmps35
    go_wp2_with fail
    go_ret
    exact ⟨ret_b (by rw [decide_eq_false (p := ll = ll') (by intro e; exact HL.out (by rw [e]))]), Below.refl _ _⟩

set_option maxHeartbeats 1600000 in
theorem implEqualTables_any (c c' : Int) (v v' : Value) (ll ll' : List (List Int)) (w : World) (hr : ReadSS w v ll) (hr' : ReadSS w v' ll') (hl : ll.length ≤ 1000000000) (ht : ∀ i, i < ll.length → (ll.getD i []).length ≤ 1000000000) :
    Calls Tryz.prog 10 #[.agg #[.int .i64 c, v], .agg #[.int .i64 c', v']] w fun e w' => e = .returned (.bool (eqTb c c' ll ll')) ∧ Below w.heap.size w w' := by
  have hb2 : Below w.heap.size w ((w.alloc (.cells #[.int .i64 c, v] 26)).alloc (.cells #[.int .i64 c', v'] 26)) := (((Below.refl w.heap.size w).alloc (Nat.le_refl _) (.cells #[.int .i64 c, v] 26)).alloc (by simp) (.cells #[.int .i64 c', v'] 26))
  obtain ⟨⟨x0, x1⟩, x2, x3⟩ := box4 (w := w) (c := c) (v := v) (c' := c') (v' := v') (T := 26) (Below.refl _ _)
  have HQ := Lib.hid (slEqualFunc_any v v' ll ll' _ (hr.kept hb2) (hr'.kept hb2) hl ht)
  have HB := Lib.hid hb2
  clear hb2
  obtain ⟨a, cap, rfl, ha⟩ := hr
  obtain ⟨a', cap', rfl, ha'⟩ := hr'
  clear ha ha' ht
  by_cases hc : c = c'
  · have hn : (c == c') = true := by simp [hc]
    have HE := Lib.hid hc
    clear hc
    go_enter Tryz.func10, Tryz.ntmps10
    go_wp2_with fail
    refine HQ.out.mono ?_
    rintro e w' ⟨rfl, hb⟩
    go_wp2_with fail
    go_ret
    exact ⟨ret_b (by unfold eqTb; rw [decide_eq_true HE.out]; simp), HB.out.trans (hb.mono HB.out.size)⟩
  · have hn : (c == c') = false := by simpa using hc
    have HE := Lib.hid hc
    clear hc
    go_enter Tryz.func10, Tryz.ntmps10
    go_wp2_with fail
    go_ret
    exact ⟨ret_b (by unfold eqTb; rw [decide_eq_false HE.out]; rfl), HB.out⟩
end Go.Proofs.YtpkcffbfgocndaaGreatDoor
