/- The values of a row told apart: toldApart, by contract. Conditions: as stated. -/
import Derived.Test.YtficnbeciohpfaaSg20
import Derived.Test.YtficnbeciohpfaaSg15
namespace Go.Proofs.Ytficnbeciohpfaa
open Go.RowKit

/-- A cell that is not equal to itself becomes one that no other row has. -/
def tapC (m : Int) (i : Nat) (x : Int) : Int := if eqC m x x = true then x else -2 - (i : Int)
def tapR (m : Int) (i : Nat) (r : List Int) : List Int := r.map (tapC m i)
theorem tapR_len (m : Int) (i : Nat) (r : List Int) : (tapR m i r).length = r.length := List.length_map _
theorem tapR_get (m : Int) (i : Nat) (r : List Int) (j : Nat) (h : j < r.length) : (tapR m i r).getD j 0 = tapC m i (r.getD j 0) := by
  unfold tapR
  rw [List.getD_eq_getElem?_getD, List.getElem?_map, List.getElem?_eq_getElem h, List.getD_eq_getElem?_getD, List.getElem?_eq_getElem h]; rfl
set_option maxHeartbeats 1600000 in
theorem toldApart0 (v : Value) (r : List Int) (i : Nat) (w : World) (hr : ReadI w v r) (h5 : r.length ≤ 5) (hi : i ≤ 1048576) :
    Calls Try.prog 65 #[eqFn 0, v, .int .i64 (i : Int)] w (RetI (tapR 0 i r) w) := by
  obtain ⟨i0, hi0, hz0, hz1, hz2⟩ := info_parts info3i
  have HI : Hid (_ ∧ _ ∧ _ ∧ _) := Lib.hid ⟨hi0, hz0, hz1, hz2⟩
  clear hi0 hz0 hz1 hz2
  obtain ⟨a, cap, rfl, ha⟩ := hr
  have HA := Lib.hid ha
  clear ha
  rw [eqFn_0]
  have HQ0 := Lib.hid eqFun0_any
  have hi1 : IntKind.i64.wrap (-2 - (i : Int)) = -2 - (i : Int) := IntWalk.i64_in _ (by omega)
  go_enter Try.func65, Try.ntmps65
  go_wp2_with (at_make; refine wpList_make_own _ rfl _ _ 65 rfl w.heap.size 3 i0 (.int .i64 0) 1 Try.underlying65 HI.out.1 HI.out.2.1 HI.out.2.2.1 .i64 .i64 _ r.length rfl rfl rfl (by rw [HI.out.2.2.2]; omega) (by unfold maxLen; omega) (Nat.le_refl _) ?_; intro w0 hown0 hgrow0)
  have hb0 := (Below.refl w.heap.size w).grown hgrow0 (Nat.le_refl _) (by simp)
  have hown := OwnI.made hown0
  clear hown0 hgrow0
  go_loopw [7, 15] (fun ov iv wr => ∃ (k : Nat) (l : List Int), k ≤ r.length ∧ iv = .int .i64 (k : Int) ∧ Hid (l = (r.take k).map (tapC 0 i)) ∧ OwnI wr w.heap.size ov l ∧ Below w.heap.size w wr) (fun _ iv _ => r.length - (intOf iv).toNat)
  case atStart => exact ⟨0, [], by omega, rfl, Lib.hid rfl, hown, hb0⟩
  case round =>
    clear hown hb0
    obtain ⟨k, l, hk, rfl, hl, ho, hb⟩ := hrel
    by_cases hlt : k < r.length
    · have hll : l.length ≤ 5 := by rw [hl.out, List.length_map, List.length_take]; omega
      obtain ⟨x, rfl, hx⟩ := HA.out k hlt
      rw [get_getD r k hlt] at hx
      have HS := Lib.hid (map_take_succ r (tapC 0 i) 0 k hlt)
      replace hx := (hb.cell (World.block_lt_of_cell? w _ hx)).trans hx
      obtain ⟨y, hy⟩ : ∃ y, y = r.getD k 0 := ⟨_, rfl⟩
      rw [← hy] at hx HS
      clear hy
      have z0 : (0 : Int) ≤ (k : Int) := by omega
      have z1 : (k : Int) < (r.length : Int) := by omega
      have HQ := Lib.hid (HQ0.out y y)
      cases he : eqC 0 y y with
      | true =>
        have HT : Hid (tapC 0 i y = y) := Lib.hid (by unfold tapC; rw [he]; rfl)
        rw [he] at HQ
        rw [HT.out] at HS
        clear he
        go_wp2_with (first | (go_at_call 74; refine (HQ.out _).mono ?_; rintro e w' ⟨rfl, rfl⟩) | (at_builtin; refine wpList_append_own _ rfl _ _ 65 rfl w.heap.size 3 i0 (.int .i64 0) 1 8 Try.underlying65 HI.out.1 HI.out.2.1 HI.out.2.2.1 HI.out.2.2.2 rfl (by decide) _ _ _ rfl (World.ownsRow.alloc ho _) ⟨wr.heap.size, 0, none⟩ 1 1 [.int .i64 y] rfl rfl (cell_one_new _ _ _) (one_i64 _) (by unfold maxLen; omega) (by omega) (le_alloc hb (Nat.le_refl _) _) ?_; intro v' w1 hown' hgrow _))
        have ho' := OwnI.snoc hown'
        have hb' := (hb.alloc hb.size (.cells #[.int .i64 y] 3)).grown hgrow (by simp; have := hb.size; omega) (fun k hk => (OwnI.lt ho k hk).1)
        clear hown' hgrow
        go_wp2_with fail
        go_roundw
        case rel => exact ⟨k + 1, _, by omega, by go_num, Lib.hid (by rw [HS.out, hl.out]), ho', hb'⟩
        case measure => simp [intOf]; omega
      | false =>
        have HT : Hid (tapC 0 i y = -2 - (i : Int)) := Lib.hid (by unfold tapC; rw [he]; rfl)
        rw [he] at HQ
        rw [HT.out] at HS
        clear he
        go_wp2_with (first | (go_at_call 74; refine (HQ.out _).mono ?_; rintro e w' ⟨rfl, rfl⟩) | (at_builtin; refine wpList_append_own _ rfl _ _ 65 rfl w.heap.size 3 i0 (.int .i64 0) 1 8 Try.underlying65 HI.out.1 HI.out.2.1 HI.out.2.2.1 HI.out.2.2.2 rfl (by decide) _ _ _ rfl (World.ownsRow.alloc ho _) ⟨wr.heap.size, 0, none⟩ 1 1 [.int .i64 (-2 - (i : Int))] rfl rfl (cell_one_new _ _ _) (one_i64 _) (by unfold maxLen; omega) (by omega) (le_alloc hb (Nat.le_refl _) _) ?_; intro v' w1 hown' hgrow _))
        have ho' := OwnI.snoc hown'
        have hb' := (hb.alloc hb.size (.cells #[.int .i64 (-2 - (i : Int))] 3)).grown hgrow (by simp; have := hb.size; omega) (fun k hk => (OwnI.lt ho k hk).1)
        clear hown' hgrow
        go_wp2_with fail
        go_roundw
        case rel => exact ⟨k + 1, _, by omega, by go_num, Lib.hid (by rw [HS.out, hl.out]), ho', hb'⟩
        case measure => simp [intOf]; omega
    · obtain rfl : k = r.length := by omega
      go_wp2_with fail
      go_ret
      exact ⟨_, rfl, by have := hl.out; rw [List.take_length] at this; unfold tapR; rw [← this]; exact ho, hb⟩
set_option maxHeartbeats 1600000 in
theorem toldApart1 (v : Value) (r : List Int) (i : Nat) (w : World) (hr : ReadI w v r) (h5 : r.length ≤ 5) (hi : i ≤ 1048576) :
    Calls Try.prog 65 #[eqFn 1, v, .int .i64 (i : Int)] w (RetI (tapR 1 i r) w) := by
  obtain ⟨i0, hi0, hz0, hz1, hz2⟩ := info_parts info3i
  have HI : Hid (_ ∧ _ ∧ _ ∧ _) := Lib.hid ⟨hi0, hz0, hz1, hz2⟩
  clear hi0 hz0 hz1 hz2
  obtain ⟨a, cap, rfl, ha⟩ := hr
  have HA := Lib.hid ha
  clear ha
  rw [eqFn_1]
  have HQ0 := Lib.hid eqFun1_any
  have hi1 : IntKind.i64.wrap (-2 - (i : Int)) = -2 - (i : Int) := IntWalk.i64_in _ (by omega)
  go_enter Try.func65, Try.ntmps65
  go_wp2_with (at_make; refine wpList_make_own _ rfl _ _ 65 rfl w.heap.size 3 i0 (.int .i64 0) 1 Try.underlying65 HI.out.1 HI.out.2.1 HI.out.2.2.1 .i64 .i64 _ r.length rfl rfl rfl (by rw [HI.out.2.2.2]; omega) (by unfold maxLen; omega) (Nat.le_refl _) ?_; intro w0 hown0 hgrow0)
  have hb0 := (Below.refl w.heap.size w).grown hgrow0 (Nat.le_refl _) (by simp)
  have hown := OwnI.made hown0
  clear hown0 hgrow0
  go_loopw [7, 15] (fun ov iv wr => ∃ (k : Nat) (l : List Int), k ≤ r.length ∧ iv = .int .i64 (k : Int) ∧ Hid (l = (r.take k).map (tapC 1 i)) ∧ OwnI wr w.heap.size ov l ∧ Below w.heap.size w wr) (fun _ iv _ => r.length - (intOf iv).toNat)
  case atStart => exact ⟨0, [], by omega, rfl, Lib.hid rfl, hown, hb0⟩
  case round =>
    clear hown hb0
    obtain ⟨k, l, hk, rfl, hl, ho, hb⟩ := hrel
    by_cases hlt : k < r.length
    · have hll : l.length ≤ 5 := by rw [hl.out, List.length_map, List.length_take]; omega
      obtain ⟨x, rfl, hx⟩ := HA.out k hlt
      rw [get_getD r k hlt] at hx
      have HS := Lib.hid (map_take_succ r (tapC 1 i) 0 k hlt)
      replace hx := (hb.cell (World.block_lt_of_cell? w _ hx)).trans hx
      obtain ⟨y, hy⟩ : ∃ y, y = r.getD k 0 := ⟨_, rfl⟩
      rw [← hy] at hx HS
      clear hy
      have z0 : (0 : Int) ≤ (k : Int) := by omega
      have z1 : (k : Int) < (r.length : Int) := by omega
      have HQ := Lib.hid (HQ0.out y y)
      cases he : eqC 1 y y with
      | true =>
        have HT : Hid (tapC 1 i y = y) := Lib.hid (by unfold tapC; rw [he]; rfl)
        rw [he] at HQ
        rw [HT.out] at HS
        clear he
        go_wp2_with (first | (go_at_call 75; refine (HQ.out _).mono ?_; rintro e w' ⟨rfl, rfl⟩) | (at_builtin; refine wpList_append_own _ rfl _ _ 65 rfl w.heap.size 3 i0 (.int .i64 0) 1 8 Try.underlying65 HI.out.1 HI.out.2.1 HI.out.2.2.1 HI.out.2.2.2 rfl (by decide) _ _ _ rfl (World.ownsRow.alloc ho _) ⟨wr.heap.size, 0, none⟩ 1 1 [.int .i64 y] rfl rfl (cell_one_new _ _ _) (one_i64 _) (by unfold maxLen; omega) (by omega) (le_alloc hb (Nat.le_refl _) _) ?_; intro v' w1 hown' hgrow _))
        have ho' := OwnI.snoc hown'
        have hb' := (hb.alloc hb.size (.cells #[.int .i64 y] 3)).grown hgrow (by simp; have := hb.size; omega) (fun k hk => (OwnI.lt ho k hk).1)
        clear hown' hgrow
        go_wp2_with fail
        go_roundw
        case rel => exact ⟨k + 1, _, by omega, by go_num, Lib.hid (by rw [HS.out, hl.out]), ho', hb'⟩
        case measure => simp [intOf]; omega
      | false =>
        have HT : Hid (tapC 1 i y = -2 - (i : Int)) := Lib.hid (by unfold tapC; rw [he]; rfl)
        rw [he] at HQ
        rw [HT.out] at HS
        clear he
        go_wp2_with (first | (go_at_call 75; refine (HQ.out _).mono ?_; rintro e w' ⟨rfl, rfl⟩) | (at_builtin; refine wpList_append_own _ rfl _ _ 65 rfl w.heap.size 3 i0 (.int .i64 0) 1 8 Try.underlying65 HI.out.1 HI.out.2.1 HI.out.2.2.1 HI.out.2.2.2 rfl (by decide) _ _ _ rfl (World.ownsRow.alloc ho _) ⟨wr.heap.size, 0, none⟩ 1 1 [.int .i64 (-2 - (i : Int))] rfl rfl (cell_one_new _ _ _) (one_i64 _) (by unfold maxLen; omega) (by omega) (le_alloc hb (Nat.le_refl _) _) ?_; intro v' w1 hown' hgrow _))
        have ho' := OwnI.snoc hown'
        have hb' := (hb.alloc hb.size (.cells #[.int .i64 (-2 - (i : Int))] 3)).grown hgrow (by simp; have := hb.size; omega) (fun k hk => (OwnI.lt ho k hk).1)
        clear hown' hgrow
        go_wp2_with fail
        go_roundw
        case rel => exact ⟨k + 1, _, by omega, by go_num, Lib.hid (by rw [HS.out, hl.out]), ho', hb'⟩
        case measure => simp [intOf]; omega
    · obtain rfl : k = r.length := by omega
      go_wp2_with fail
      go_ret
      exact ⟨_, rfl, by have := hl.out; rw [List.take_length] at this; unfold tapR; rw [← this]; exact ho, hb⟩
theorem toldApart_any (m : Int) (hm : m = 0 ∨ m = 1) (v : Value) (r : List Int) (i : Nat) (w : World) (hr : ReadI w v r) (h5 : r.length ≤ 5) (hi : i ≤ 1048576) :
    Calls Try.prog 65 #[eqFn m, v, .int .i64 (i : Int)] w (RetI (tapR m i r) w) := by
  rcases hm with rfl | rfl
  · exact toldApart0 v r i w hr h5 hi
  · exact toldApart1 v r i w hr h5 hi
end Go.Proofs.Ytficnbeciohpfaa
