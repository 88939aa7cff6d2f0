/- The program's ColumnOf and EqualTables, by contract. Conditions: as stated. -/
import Derived.Test.YtchdceglcjjggaaImH
namespace Go.Proofs.Ytchdceglcjjggaa
open Go.RowKit

set_option maxHeartbeats 1600000 in
theorem implColumnOf_any (c q : Int) (v : Value) (ll : List (List Int)) (w : World) (hr : ReadSS w v ll) (hl : ll.length ≤ 1048576) (ht : ∀ i, i < ll.length → (ll.getD i []).length ≤ 1048576) :
    Calls Try.prog 39 #[.agg #[.int .i64 c, v], .int .i64 q] w (RetI (colOf c ll q) w) := by
  obtain ⟨i0, hi, hz0, hz1, hz2⟩ := info_parts info3j
  have HI : Hid (_ ∧ _ ∧ _ ∧ _) := Lib.hid ⟨hi, hz0, hz1, hz2⟩
  clear hi hz0 hz1 hz2
  have HV := Lib.hid (fun w' (hb : Below w.heap.size w w') => hasColumn_any c q v ll w' (hr.kept hb) hl ht)
  obtain ⟨a, cap, rfl, ha⟩ := hr
  have HA := Lib.hid ha
  clear ha ht
  have hb1 := (Below.refl w.heap.size w).alloc (Nat.le_refl _) (.cells #[.int .i64 c, .slice a ll.length cap] 26)
  have HB1 := Lib.hid hb1
  have HRF := Lib.hid (Below.refl (w.alloc (.cells #[.int .i64 c, .slice a ll.length cap] 26)).heap.size (w.alloc (.cells #[.int .i64 c, .slice a ll.length cap] 26)))
  have hx0 := box2 HRF.out
  obtain ⟨hx1, hx2⟩ := hx0
  cases hc : colB c ll q with
  | true =>
    have hv : isT c ll = true ∧ 0 ≤ q ∧ q ≤ c - 1 := by simpa [colB] using hc
    obtain ⟨hT, hq⟩ := hv
    obtain ⟨c1, c5, h40⟩ := isT_bd hT
    have HROW := Lib.hid (fun k hk => (isT_row hT (k := k) hk).1)
    rw [hc] at HV
    have HE : Hid (colOf c ll q = ll.map (fun r => r.getD q.toNat 0)) := Lib.hid (by unfold colOf; rw [if_pos ⟨hT, hq⟩])
    obtain ⟨Q, rfl⟩ : ∃ Q : Nat, q = (Q : Int) := ⟨q.toNat, by omega⟩
    have hQ : Q < 5 := by omega
    have hQc : (Q : Int) ≤ c - 1 := hq.2
    have g1 : ¬ (Q : Int) < 0 := by omega
    have g2 : ¬ c ≤ (Q : Int) := by omega
    clear hq hT hc
    go_enter Try.func39, Try.ntmps39
    go_wp2_with fail
    refine (HV.out _ HB1.out).mono ?_
    rintro e w2 ⟨rfl, hb2⟩
    have hb := HRF.out.trans (hb2.mono HRF.out.size)
    obtain ⟨hc0, hc1⟩ := box2 hb
    clear hx1 hx2 hb1 hb2
    go_wp2_with (at_make; refine wpList_make_own _ rfl _ _ 29 rfl (w.heap.size + 1) 3 i0 (.int .i64 0) 1 Try.underlying29 HI.out.1 HI.out.2.1 HI.out.2.2.1 .i64 .i64 _ ll.length rfl rfl rfl (by rw [HI.out.2.2.2]; omega) (by unfold maxLen; omega) (by have := hb.size; simp at this; exact this) ?_; intro w0 hown0 hgrow0; have hb3 := hb.grown hgrow0 hb.size (by simp); have ho0 := OwnI.made hown0; clear hown0 hgrow0 hc0 hc1 hb; obtain ⟨hc0, hc1⟩ := box2 hb3)
    go_loopw [5, 19] (fun ov iv wr => ∃ (k : Nat) (l : List Int), k ≤ ll.length ∧ iv = .int .i64 (k : Int) ∧ Hid (l = (ll.take k).map (fun r => r.getD Q 0)) ∧ OwnI wr (w.heap.size + 1) ov l ∧ Below (w.alloc (.cells #[.int .i64 c, .slice a ll.length cap] 26)).heap.size (w.alloc (.cells #[.int .i64 c, .slice a ll.length cap] 26)) wr) (fun _ iv _ => ll.length - (intOf iv).toNat)
    case atStart => exact ⟨0, [], by omega, rfl, Lib.hid rfl, ho0, hb3⟩
    case round =>
      clear ho0 hb3 hc0 hc1
      obtain ⟨k, l, hk, rfl, hL, ho, hb⟩ := hrel
      have hll : l.length ≤ 40 := by rw [hL.out, List.length_map]; have := List.length_take_le k ll; omega
      by_cases hlt : k < ll.length
      · have z0 : (0 : Int) ≤ (k : Int) := by omega
        have z1 : (k : Int) < (ll.length : Int) := by omega
        have HB := Lib.hid hb
        have hbw := HB1.out.trans (hb.mono HB1.out.size)
        clear hb
        obtain ⟨x, u, rfl, hx, hu⟩ := HA.out k hlt
        have hy := (hbw.cell (World.block_lt_of_cell? w _ hx)).trans hx
        obtain ⟨a', cap', rfl, hrow⟩ := hu.kept hbw
        have hcl := HROW.out k hlt
        obtain ⟨x', rfl, hx'⟩ := hrow Q (by omega)
        have hgd := get_getD (ll.getD k []) Q (by omega)
        rw [hgd] at hx'
        have HS := Lib.hid (map_take_succ ll (fun r => r.getD Q 0) [] k hlt)
        obtain ⟨y, hyy⟩ : ∃ y, (ll.getD k []).getD Q 0 = y := ⟨_, rfl⟩
        obtain ⟨R, hR⟩ : ∃ R : Nat, (ll.getD k []).length = R := ⟨_, rfl⟩
        rw [hyy] at hx'
        simp only [hyy] at HS
        rw [hR] at hy hcl
        have z2 : (0 : Int) ≤ (Q : Int) := by omega
        have z3 : (Q : Int) < (R : Int) := by omega
        clear hyy hR hgd hrow hx
        go_wp2_with (at_builtin; refine wpList_append_own _ rfl _ _ 29 rfl (w.heap.size + 1) 3 i0 (.int .i64 0) 1 8 Try.underlying29 HI.out.1 HI.out.2.1 HI.out.2.2.1 HI.out.2.2.2 rfl (by decide) _ _ _ rfl (World.ownsRow.alloc ho _) ⟨wr.heap.size, 0, none⟩ 1 1 [.int .i64 y] rfl rfl (cell_one_new _ _ _) (one_i64 _) (by unfold maxLen; omega) (by omega) (by have := HB.out.size; simp at this; simp; omega) ?_; intro v' w1 hown' hgrow _)
        have ho' := OwnI.snoc hown'
        have hb' := (HB.out.alloc HB.out.size (.cells #[.int .i64 y] 3)).grown hgrow (by have := HB.out.size; simp at this; simp; omega) (fun k hk => by have := (OwnI.lt ho k hk).1; simp; omega)
        clear hown' hgrow
        go_wp2_with fail
        go_roundw
        case rel => exact ⟨k + 1, _, by omega, by go_num, Lib.hid (by rw [HS.out, hL.out]), ho', hb'⟩
        case measure => simp [intOf]; omega
      · obtain rfl : k = ll.length := by omega
        have hbw := HB1.out.trans (hb.mono HB1.out.size)
        go_wp2_with fail
        go_ret
        exact ⟨_, rfl, by rw [HE.out, show (Q : Int).toNat = Q from rfl]; have := hL.out; rw [List.take_length] at this; rw [← this]; exact ho.base (by omega), hbw⟩
  | false =>
    have HE : Hid (colOf c ll q = []) := Lib.hid (by unfold colOf; rw [if_neg (fun h => by have : colB c ll q = true := by unfold colB; rw [h.1, decide_eq_true h.2]; rfl
                                                                                           rw [hc] at this; cases this)])
    rw [hc] at HV
    clear hc
    go_enter Try.func39, Try.ntmps39
    go_wp2_with fail
    refine (HV.out _ HB1.out).mono ?_
    rintro e w2 ⟨rfl, hb2⟩
    have hb := HB1.out.trans (hb2.mono HB1.out.size)
    go_wp2_with fail
    go_ret
    exact ⟨_, rfl, by rw [HE.out]; exact World.ownsRow_nil _ _ _ _, hb⟩
end Go.Proofs.Ytchdceglcjjggaa
