/- Texts of this claim, merged: FltI, SpecT2, ImT. Conditions: as stated. -/
import Derived.Test.YtepokhdjglnlnaaSk15
import Derived.Maps.AppendAt
import Derived.Test.YtepokhdjglnlnaaSk3
namespace Go.Proofs.Ytepokhdjglnlnaa
open Go.RowKit

set_option maxHeartbeats 1600000 in
theorem filtPW_any (c1 : Value) (p : Int → Bool) (v : Value) (l : List Int) (w : World) (hr : ReadI w v l) (hl : l.length ≤ 1048576)
    (HP : ∀ x, x ∈ l → ∀ w', Below w.heap.size w w' → Calls Try.prog 83 #[.int .i64 x, c1] w' fun e w'' => e = .returned (.bool (p x)) ∧ Below w'.heap.size w' w'') :
    Calls Try.prog 52 #[v, .func (.func 83) #[] #[c1]] w (RetI (l.filter p) w) := by
  obtain ⟨i0, hi, hz0, hz1, hz2⟩ := info_parts info3i
  have HI : Hid (_ ∧ _ ∧ _ ∧ _) := Lib.hid ⟨hi, hz0, hz1, hz2⟩
  clear hi hz0 hz1 hz2
  have HQ := Lib.hid HP
  have HN := Lib.hid (fun k hk => filter_next p l 0 k hk)
  have HL := Lib.hid (fun k => List.length_filter_le p (l.take k))
  obtain ⟨a, cap, rfl, ha⟩ := hr
  have HA := Lib.hid ha
  clear ha HP
  go_enter Try.func52, Try.ntmps52
  go_wp2_with (at_make; refine wpList_make_own _ rfl _ _ 41 rfl w.heap.size 3 i0 (.int .i64 0) 1 Try.underlying41 HI.out.1 HI.out.2.1 HI.out.2.2.1 .i64 .i64 _ l.length rfl rfl rfl (by rw [HI.out.2.2.2]; omega) (by unfold maxLen; omega) (Nat.le_refl _) ?_; intro w0 hown0 hgrow0)
  have hb0 := (Below.refl w.heap.size w).grown hgrow0 (Nat.le_refl _) (by simp)
  have hown := OwnI.made hown0
  clear hown0 hgrow0
  go_loopw [5, 13] (fun ov iv wr => ∃ (k : Nat) (q : List Int), k ≤ l.length ∧ iv = .int .i64 (k : Int) ∧ Hid (q = (l.take k).filter p) ∧ OwnI wr w.heap.size ov q ∧ Below w.heap.size w wr) (fun _ iv _ => l.length - (intOf iv).toNat)
  case atStart => exact ⟨0, [], by omega, rfl, Lib.hid rfl, hown, hb0⟩
  case round =>
    clear hown hb0
    obtain ⟨k, q, hk, rfl, hq, ho, hb⟩ := hrel
    by_cases hlt : k < l.length
    · obtain ⟨x, rfl, hx⟩ := HA.out k hlt
      replace hx := (hb.cell (World.block_lt_of_cell? w _ hx)).trans hx
      rw [get_getD l k hlt] at hx
      have hm : l.getD k 0 ∈ l := by rw [← get_getD l k hlt]; exact List.getElem_mem hlt
      have hll : q.length ≤ 1048576 := by rw [hq.out]; have := HL.out k; rw [List.length_take] at this; omega
      have HS := Lib.hid (HN.out k hlt)
      obtain ⟨y, hy⟩ : ∃ y, y = l.getD k 0 := ⟨_, rfl⟩
      rw [← hy] at hx HS hm
      have HC := Lib.hid (HQ.out y hm)
      have HB := Lib.hid hb
      have HO := Lib.hid ho
      clear hy hm ho
      have z0 : (0 : Int) ≤ (k : Int) := by omega
      have z1 : (k : Int) < (l.length : Int) := by omega
      cases hp : p y with
      | true =>
        rw [hp] at HC HS
        rw [if_pos rfl] at HS
        clear hp
        go_wp2_with fail
        refine (HC.out _ HB.out).mono ?_
        rintro e w1 ⟨rfl, b1⟩
        have ho1 := HO.out.kept b1 (fun k hk => (HO.out.lt k hk).2)
        have hb1 := HB.out.trans (b1.mono HB.out.size)
        clear b1
        go_wp2_with (at_builtin; refine wpList_append_own _ rfl _ _ 41 rfl w.heap.size 3 i0 (.int .i64 0) 1 8 Try.underlying41 HI.out.1 HI.out.2.1 HI.out.2.2.1 HI.out.2.2.2 rfl (by decide) _ _ _ rfl (World.ownsRow.alloc ho1 _) ⟨w1.heap.size, 0, none⟩ 1 1 [.int .i64 y] rfl rfl (cell_one_new _ _ _) (one_i64 _) (by unfold maxLen; omega) (by omega) (le_alloc hb1 (Nat.le_refl _) _) ?_; intro v1 w2 hown1 hgrow1 _)
        have ho2 := OwnI.snoc hown1
        have hb2 := (hb1.alloc hb1.size (.cells #[.int .i64 y] 3)).grown hgrow1 (by simp; have := hb1.size; omega) (fun k hk => (OwnI.lt ho1 k hk).1)
        clear hown1 hgrow1
        go_wp2_with fail
        go_roundw
        case rel => exact ⟨k + 1, _, by omega, by go_num, Lib.hid (by rw [HS.out, ← hq.out]), ho2, hb2⟩
        case measure => simp [intOf]; omega
      | false =>
        rw [hp] at HC HS
        rw [if_neg (by decide)] at HS
        clear hp
        go_wp2_with fail
        refine (HC.out _ HB.out).mono ?_
        rintro e w1 ⟨rfl, b1⟩
        have ho1 := HO.out.kept b1 (fun k hk => (HO.out.lt k hk).2)
        have hb1 := HB.out.trans (b1.mono HB.out.size)
        clear b1
        go_wp2_with fail
        go_roundw
        case rel => exact ⟨k + 1, _, by omega, by go_num, Lib.hid (by rw [HS.out, ← hq.out]), ho1, hb1⟩
        case measure => simp [intOf]; omega
    · obtain rfl : k = l.length := by omega
      go_wp2_with fail
      go_ret
      exact ⟨_, rfl, by have := hq.out; rw [List.take_length] at this; rw [← this]; exact ho, hb⟩
set_option maxHeartbeats 1600000 in
theorem filtVB_any (c1 c2 c3 : Value) (p : Int → Bool) (v : Value) (l : List Int) (w : World) (hr : ReadI w v l) (hl : l.length ≤ 1048576)
    (HP : ∀ x, x ∈ l → ∀ w', Below w.heap.size w w' → Calls Try.prog 54 #[.int .i64 x, c1, c2, c3] w' fun e w'' => e = .returned (.bool (p x)) ∧ Below w'.heap.size w' w'') :
    Calls Try.prog 52 #[v, .func (.func 54) #[] #[c1, c2, c3]] w (RetI (l.filter p) w) := by
  obtain ⟨i0, hi, hz0, hz1, hz2⟩ := info_parts info3i
  have HI : Hid (_ ∧ _ ∧ _ ∧ _) := Lib.hid ⟨hi, hz0, hz1, hz2⟩
  clear hi hz0 hz1 hz2
  have HQ := Lib.hid HP
  have HN := Lib.hid (fun k hk => filter_next p l 0 k hk)
  have HL := Lib.hid (fun k => List.length_filter_le p (l.take k))
  obtain ⟨a, cap, rfl, ha⟩ := hr
  have HA := Lib.hid ha
  clear ha HP
  go_enter Try.func52, Try.ntmps52
  go_wp2_with (at_make; refine wpList_make_own _ rfl _ _ 41 rfl w.heap.size 3 i0 (.int .i64 0) 1 Try.underlying41 HI.out.1 HI.out.2.1 HI.out.2.2.1 .i64 .i64 _ l.length rfl rfl rfl (by rw [HI.out.2.2.2]; omega) (by unfold maxLen; omega) (Nat.le_refl _) ?_; intro w0 hown0 hgrow0)
  have hb0 := (Below.refl w.heap.size w).grown hgrow0 (Nat.le_refl _) (by simp)
  have hown := OwnI.made hown0
  clear hown0 hgrow0
  go_loopw [5, 13] (fun ov iv wr => ∃ (k : Nat) (q : List Int), k ≤ l.length ∧ iv = .int .i64 (k : Int) ∧ Hid (q = (l.take k).filter p) ∧ OwnI wr w.heap.size ov q ∧ Below w.heap.size w wr) (fun _ iv _ => l.length - (intOf iv).toNat)
  case atStart => exact ⟨0, [], by omega, rfl, Lib.hid rfl, hown, hb0⟩
  case round =>
    clear hown hb0
    obtain ⟨k, q, hk, rfl, hq, ho, hb⟩ := hrel
    by_cases hlt : k < l.length
    · obtain ⟨x, rfl, hx⟩ := HA.out k hlt
      replace hx := (hb.cell (World.block_lt_of_cell? w _ hx)).trans hx
      rw [get_getD l k hlt] at hx
      have hm : l.getD k 0 ∈ l := by rw [← get_getD l k hlt]; exact List.getElem_mem hlt
      have hll : q.length ≤ 1048576 := by rw [hq.out]; have := HL.out k; rw [List.length_take] at this; omega
      have HS := Lib.hid (HN.out k hlt)
      obtain ⟨y, hy⟩ : ∃ y, y = l.getD k 0 := ⟨_, rfl⟩
      rw [← hy] at hx HS hm
      have HC := Lib.hid (HQ.out y hm)
      have HB := Lib.hid hb
      have HO := Lib.hid ho
      clear hy hm ho
      have z0 : (0 : Int) ≤ (k : Int) := by omega
      have z1 : (k : Int) < (l.length : Int) := by omega
      cases hp : p y with
      | true =>
        rw [hp] at HC HS
        rw [if_pos rfl] at HS
        clear hp
        go_wp2_with fail
        refine (HC.out _ HB.out).mono ?_
        rintro e w1 ⟨rfl, b1⟩
        have ho1 := HO.out.kept b1 (fun k hk => (HO.out.lt k hk).2)
        have hb1 := HB.out.trans (b1.mono HB.out.size)
        clear b1
        go_wp2_with (at_builtin; refine wpList_append_own _ rfl _ _ 41 rfl w.heap.size 3 i0 (.int .i64 0) 1 8 Try.underlying41 HI.out.1 HI.out.2.1 HI.out.2.2.1 HI.out.2.2.2 rfl (by decide) _ _ _ rfl (World.ownsRow.alloc ho1 _) ⟨w1.heap.size, 0, none⟩ 1 1 [.int .i64 y] rfl rfl (cell_one_new _ _ _) (one_i64 _) (by unfold maxLen; omega) (by omega) (le_alloc hb1 (Nat.le_refl _) _) ?_; intro v1 w2 hown1 hgrow1 _)
        have ho2 := OwnI.snoc hown1
        have hb2 := (hb1.alloc hb1.size (.cells #[.int .i64 y] 3)).grown hgrow1 (by simp; have := hb1.size; omega) (fun k hk => (OwnI.lt ho1 k hk).1)
        clear hown1 hgrow1
        go_wp2_with fail
        go_roundw
        case rel => exact ⟨k + 1, _, by omega, by go_num, Lib.hid (by rw [HS.out, ← hq.out]), ho2, hb2⟩
        case measure => simp [intOf]; omega
      | false =>
        rw [hp] at HC HS
        rw [if_neg (by decide)] at HS
        clear hp
        go_wp2_with fail
        refine (HC.out _ HB.out).mono ?_
        rintro e w1 ⟨rfl, b1⟩
        have ho1 := HO.out.kept b1 (fun k hk => (HO.out.lt k hk).2)
        have hb1 := HB.out.trans (b1.mono HB.out.size)
        clear b1
        go_wp2_with fail
        go_roundw
        case rel => exact ⟨k + 1, _, by omega, by go_num, Lib.hid (by rw [HS.out, ← hq.out]), ho1, hb1⟩
        case measure => simp [intOf]; omega
    · obtain rfl : k = l.length := by omega
      go_wp2_with fail
      go_ret
      exact ⟨_, rfl, by have := hq.out; rw [List.take_length] at this; rw [← this]; exact ho, hb⟩
set_option maxHeartbeats 1600000 in
theorem filtMK_any (c1 c2 : Value) (p : Int → Bool) (v : Value) (l : List Int) (w : World) (hr : ReadI w v l) (hl : l.length ≤ 1048576)
    (HP : ∀ x, x ∈ l → ∀ w', Below w.heap.size w w' → Calls Try.prog 58 #[.int .i64 x, c1, c2] w' fun e w'' => e = .returned (.bool (p x)) ∧ Below w'.heap.size w' w'') :
    Calls Try.prog 52 #[v, .func (.func 58) #[] #[c1, c2]] w (RetI (l.filter p) w) := by
  obtain ⟨i0, hi, hz0, hz1, hz2⟩ := info_parts info3i
  have HI : Hid (_ ∧ _ ∧ _ ∧ _) := Lib.hid ⟨hi, hz0, hz1, hz2⟩
  clear hi hz0 hz1 hz2
  have HQ := Lib.hid HP
  have HN := Lib.hid (fun k hk => filter_next p l 0 k hk)
  have HL := Lib.hid (fun k => List.length_filter_le p (l.take k))
  obtain ⟨a, cap, rfl, ha⟩ := hr
  have HA := Lib.hid ha
  clear ha HP
  go_enter Try.func52, Try.ntmps52
  go_wp2_with (at_make; refine wpList_make_own _ rfl _ _ 41 rfl w.heap.size 3 i0 (.int .i64 0) 1 Try.underlying41 HI.out.1 HI.out.2.1 HI.out.2.2.1 .i64 .i64 _ l.length rfl rfl rfl (by rw [HI.out.2.2.2]; omega) (by unfold maxLen; omega) (Nat.le_refl _) ?_; intro w0 hown0 hgrow0)
  have hb0 := (Below.refl w.heap.size w).grown hgrow0 (Nat.le_refl _) (by simp)
  have hown := OwnI.made hown0
  clear hown0 hgrow0
  go_loopw [5, 13] (fun ov iv wr => ∃ (k : Nat) (q : List Int), k ≤ l.length ∧ iv = .int .i64 (k : Int) ∧ Hid (q = (l.take k).filter p) ∧ OwnI wr w.heap.size ov q ∧ Below w.heap.size w wr) (fun _ iv _ => l.length - (intOf iv).toNat)
  case atStart => exact ⟨0, [], by omega, rfl, Lib.hid rfl, hown, hb0⟩
  case round =>
    clear hown hb0
    obtain ⟨k, q, hk, rfl, hq, ho, hb⟩ := hrel
    by_cases hlt : k < l.length
    · obtain ⟨x, rfl, hx⟩ := HA.out k hlt
      replace hx := (hb.cell (World.block_lt_of_cell? w _ hx)).trans hx
      rw [get_getD l k hlt] at hx
      have hm : l.getD k 0 ∈ l := by rw [← get_getD l k hlt]; exact List.getElem_mem hlt
      have hll : q.length ≤ 1048576 := by rw [hq.out]; have := HL.out k; rw [List.length_take] at this; omega
      have HS := Lib.hid (HN.out k hlt)
      obtain ⟨y, hy⟩ : ∃ y, y = l.getD k 0 := ⟨_, rfl⟩
      rw [← hy] at hx HS hm
      have HC := Lib.hid (HQ.out y hm)
      have HB := Lib.hid hb
      have HO := Lib.hid ho
      clear hy hm ho
      have z0 : (0 : Int) ≤ (k : Int) := by omega
      have z1 : (k : Int) < (l.length : Int) := by omega
      cases hp : p y with
      | true =>
        rw [hp] at HC HS
        rw [if_pos rfl] at HS
        clear hp
        go_wp2_with fail
        refine (HC.out _ HB.out).mono ?_
        rintro e w1 ⟨rfl, b1⟩
        have ho1 := HO.out.kept b1 (fun k hk => (HO.out.lt k hk).2)
        have hb1 := HB.out.trans (b1.mono HB.out.size)
        clear b1
        go_wp2_with (at_builtin; refine wpList_append_own _ rfl _ _ 41 rfl w.heap.size 3 i0 (.int .i64 0) 1 8 Try.underlying41 HI.out.1 HI.out.2.1 HI.out.2.2.1 HI.out.2.2.2 rfl (by decide) _ _ _ rfl (World.ownsRow.alloc ho1 _) ⟨w1.heap.size, 0, none⟩ 1 1 [.int .i64 y] rfl rfl (cell_one_new _ _ _) (one_i64 _) (by unfold maxLen; omega) (by omega) (le_alloc hb1 (Nat.le_refl _) _) ?_; intro v1 w2 hown1 hgrow1 _)
        have ho2 := OwnI.snoc hown1
        have hb2 := (hb1.alloc hb1.size (.cells #[.int .i64 y] 3)).grown hgrow1 (by simp; have := hb1.size; omega) (fun k hk => (OwnI.lt ho1 k hk).1)
        clear hown1 hgrow1
        go_wp2_with fail
        go_roundw
        case rel => exact ⟨k + 1, _, by omega, by go_num, Lib.hid (by rw [HS.out, ← hq.out]), ho2, hb2⟩
        case measure => simp [intOf]; omega
      | false =>
        rw [hp] at HC HS
        rw [if_neg (by decide)] at HS
        clear hp
        go_wp2_with fail
        refine (HC.out _ HB.out).mono ?_
        rintro e w1 ⟨rfl, b1⟩
        have ho1 := HO.out.kept b1 (fun k hk => (HO.out.lt k hk).2)
        have hb1 := HB.out.trans (b1.mono HB.out.size)
        clear b1
        go_wp2_with fail
        go_roundw
        case rel => exact ⟨k + 1, _, by omega, by go_num, Lib.hid (by rw [HS.out, ← hq.out]), ho1, hb1⟩
        case measure => simp [intOf]; omega
    · obtain rfl : k = l.length := by omega
      go_wp2_with fail
      go_ret
      exact ⟨_, rfl, by have := hq.out; rw [List.take_length] at this; rw [← this]; exact ho, hb⟩
end Go.Proofs.Ytepokhdjglnlnaa
namespace Go.Proofs.Ytepokhdjglnlnaa
open Go.RowKit

/-- The cells of two boxed tables, later. -/
theorem box4 {w wr : World} {c c' : Int} {v v' : Value} {T : TypeId} (hb : Below ((w.alloc (.cells #[.int .i64 c, v] T)).alloc (.cells #[.int .i64 c', v'] T)).heap.size ((w.alloc (.cells #[.int .i64 c, v] T)).alloc (.cells #[.int .i64 c', v'] T)) wr) :
    (wr.cell? ⟨w.heap.size, 0, none⟩ = some (.int .i64 c) ∧ wr.cell? ⟨w.heap.size, 1, none⟩ = some v) ∧ wr.cell? ⟨w.heap.size + 1, 0, none⟩ = some (.int .i64 c') ∧ wr.cell? ⟨w.heap.size + 1, 1, none⟩ = some v' := by
  have h1 := box2 (w := w) ((Below.refl _ _).alloc (Nat.le_refl _) (.cells #[.int .i64 c', v'] T) |>.trans (hb.mono (by simp)))
  have h2 := box2 (w := w.alloc (.cells #[.int .i64 c, v] T)) hb
  exact ⟨h1, by simpa using h2⟩
/-- What is held of a region in which tables are loaded and copied: the cells of two boxes, and the second table's rows. -/
theorem keepT {w5 w6 w7 : World} {p q r t : Addr} {u0 u1 u2 u3 : Value} {vx : Value} {ll : List (List Int)} (h : (w6.cell? p = some u0 ∧ w6.cell? q = some u1) ∧ (w6.cell? r = some u2 ∧ w6.cell? t = some u3) ∧ ReadSS w6 vx ll ∧ Below w5.heap.size w5 w6) (hb : Below w6.heap.size w6 w7) :
    (w7.cell? p = some u0 ∧ w7.cell? q = some u1) ∧ (w7.cell? r = some u2 ∧ w7.cell? t = some u3) ∧ ReadSS w7 vx ll ∧ Below w5.heap.size w5 w7 := by
  have k : ∀ {a : Addr} {u : Value}, w6.cell? a = some u → w7.cell? a = some u := fun e => (hb.cell (World.block_lt_of_cell? w6 _ e)).trans e
  exact ⟨⟨k h.1.1, k h.1.2⟩, ⟨k h.2.1.1, k h.2.1.2⟩, h.2.2.1.kept hb, h.2.2.2.trans (hb.mono h.2.2.2.size)⟩
theorem keepQ {w5 w6 w7 : World} {p q r t : Addr} {u0 u1 u2 u3 : Value} (h : ((w6.cell? p = some u0 ∧ w6.cell? q = some u1) ∧ w6.cell? r = some u2 ∧ w6.cell? t = some u3) ∧ Below w5.heap.size w5 w6) (hb : Below w6.heap.size w6 w7) :
    ((w7.cell? p = some u0 ∧ w7.cell? q = some u1) ∧ w7.cell? r = some u2 ∧ w7.cell? t = some u3) ∧ Below w5.heap.size w5 w7 := by
  have k : ∀ {a : Addr} {u : Value}, w6.cell? a = some u → w7.cell? a = some u := fun e => (hb.cell (World.block_lt_of_cell? w6 _ e)).trans e
  exact ⟨⟨⟨k h.1.1.1, k h.1.1.2⟩, k h.1.2.1, k h.1.2.2⟩, h.2.trans (hb.mono h.2.size)⟩
end Go.Proofs.Ytepokhdjglnlnaa
namespace Go.Proofs.Ytepokhdjglnlnaa
open Go.RowKit

theorem implValue_any (x : Int) (w : World) :
    Calls Try.prog 123 #[.int .i64 x] w fun e w' => e = .returned (.bool (decide (0 ≤ x ∧ x ≤ 40))) ∧ w = w' := by
  by_cases h1 : 0 ≤ x <;> by_cases h2 : x ≤ 40
  all_goals
    go_enter Try.func123, Try.ntmps123
    go_wp2
    go_ret
    exact ⟨by simp [h1, h2], rfl⟩
theorem implCell_any (x : Int) (w : World) :
    Calls Try.prog 115 #[.int .i64 x] w fun e w' => e = .returned (.bool (cellOk x)) ∧ w = w' := by
  by_cases h1 : 0 ≤ x ∧ x ≤ 40
  · have HV := Lib.hid (implValue_any x w)
    rw [decide_eq_true h1] at HV
    go_enter Try.func115, Try.ntmps115
    go_wp2_with fail
    refine HV.out.mono ?_
    rintro e w' ⟨rfl, rfl⟩
    go_wp2_with fail
    go_ret
    exact ⟨ret_b (by unfold cellOk; simp; omega), rfl⟩
  · have HV := Lib.hid (implValue_any x w)
    rw [decide_eq_false h1] at HV
    have HN := Lib.hid h1
    clear h1
    by_cases h2 : x = -1
    · subst h2
      go_enter Try.func115, Try.ntmps115
      go_wp2_with fail
      refine HV.out.mono ?_
      rintro e w' ⟨rfl, rfl⟩
      go_wp2_with fail
      go_ret
      exact ⟨rfl, rfl⟩
    · have hx : (x == -1) = false := by simpa using h2
      have HN2 := Lib.hid h2
      clear h2
      go_enter Try.func115, Try.ntmps115
      go_wp2_with fail
      refine HV.out.mono ?_
      rintro e w' ⟨rfl, rfl⟩
      go_wp2_with fail
      go_ret
      exact ⟨ret_b (by unfold cellOk; have := HN.out; have := HN2.out; simp; omega), rfl⟩
set_option maxHeartbeats 800000 in
theorem implRow_any (v : Value) (r : List Int) (c : Int) (w : World) (hr : ReadI w v r) (hl : r.length ≤ 1048576) :
    Calls Try.prog 100 #[v, .int .i64 c] w fun e w' => e = .returned (.bool (rowOk c r)) ∧ w = w' := by
  obtain ⟨a, cap, rfl, ha⟩ := hr
  have HA := Lib.hid ha
  clear ha
  by_cases hc : (r.length : Int) = c
  · have hd : ((r.length : Int) != c) = false := by simp [hc]
    have HC := Lib.hid hc
    clear hc
    go_enter Try.func100, Try.ntmps100
    go_wp2_with fail
    go_loop [13] (fun iv => ∃ k : Nat, k ≤ r.length ∧ iv = .int .i64 (k : Int) ∧ Hid ((r.take k).all cellOk = true)) (fun iv => r.length - (intOf iv).toNat)
    case atStart => exact ⟨0, by omega, rfl, Lib.hid rfl⟩
    case round =>
      obtain ⟨k, hk, rfl, hall⟩ := hrel
      by_cases hlt : k < r.length
      · obtain ⟨x, rfl, hx⟩ := HA.out k hlt
        have z0 : (0 : Int) ≤ (k : Int) := by omega
        have z1 : (k : Int) < (r.length : Int) := by omega
        have HI := Lib.hid (implCell_any r[k] w)
        have HOK := Lib.hid (fun h => all_snoc (p := cellOk) hlt hall.out h)
        have HNO := Lib.hid (fun h => all_not (p := cellOk) hlt h)
        obtain ⟨y, hy⟩ : ∃ y : Int, r[k] = y := ⟨_, rfl⟩
        rw [hy] at hx HI HOK HNO
        clear hy
        cases hro : cellOk y with
        | true =>
          rw [hro] at HI
          have HX := Lib.hid (HOK.out hro)
          clear hro
          go_wp2_with fail
          refine HI.out.mono ?_
          rintro e w' ⟨rfl, rfl⟩
          go_wp2_with fail
          go_round
          case rel => exact ⟨k + 1, by omega, by go_num, HX⟩
          case measure => simp [intOf]; omega
        | false =>
          rw [hro] at HI
          have HX := Lib.hid (HNO.out hro)
          clear hro
          go_wp2_with fail
          refine HI.out.mono ?_
          rintro e w' ⟨rfl, rfl⟩
          go_wp2_with fail
          go_ret
          exact ⟨ret_b (by unfold rowOk; rw [HX.out]; rfl), rfl⟩
      · obtain rfl : k = r.length := by omega
        have HX : Hid (r.all cellOk = true) := Lib.hid (by have := hall.out; rwa [List.take_length] at this)
        go_wp2_with fail
        go_ret
        exact ⟨ret_b (by unfold rowOk; rw [HX.out, decide_eq_true HC.out]; rfl), rfl⟩
  · have hd : ((r.length : Int) != c) = true := by simpa using hc
    have HC := Lib.hid hc
    clear hc
    go_enter Try.func100, Try.ntmps100
    go_wp2_with fail
    go_ret
    exact ⟨ret_b (by unfold rowOk; rw [decide_eq_false HC.out]; simp), rfl⟩

set_option maxHeartbeats 1600000 in
theorem implIsTable_any (c : Int) (v : Value) (ll : List (List Int)) (w : World) (hr : ReadSS w v ll) (hl : ll.length ≤ 1048576) (ht : ∀ i, i < ll.length → (ll.getD i []).length ≤ 1048576) :
    Calls Try.prog 74 #[.agg #[.int .i64 c, v]] w fun e w' => e = .returned (.bool (isT c ll)) ∧ Below w.heap.size w w' := by
  obtain ⟨a, cap, rfl, ha⟩ := hr
  have HA := Lib.hid ha
  have HT := Lib.hid ht
  clear ha ht
  have hb1 := (Below.refl w.heap.size w).alloc (Nat.le_refl _) (.cells #[.int .i64 c, .slice a ll.length cap] 28)
  obtain ⟨w1, hw1⟩ : ∃ w1, w1 = w.alloc (.cells #[.int .i64 c, .slice a ll.length cap] 28) := ⟨_, rfl⟩
  have hbx := box2 (w := w) (wr := w1) (c := c) (v := .slice a ll.length cap) (T := 28) (by rw [hw1]; exact Below.refl _ _)
  have hb2 : Below w.heap.size w w1 := by rw [hw1]; exact hb1
  by_cases h1 : 1 ≤ c
  · have g1 : ¬ c < 1 := by omega
    by_cases h5 : c ≤ 5
    · have HCC := Lib.hid (fun w' => colCount_any c w')
      rw [show decide (0 ≤ c ∧ c ≤ 5) = true by simp; omega] at HCC
      by_cases h40 : ll.length ≤ 40
      · have g40 : ¬ (40 : Int) < (ll.length : Int) := by omega
        have HD : Hid ((decide (1 ≤ c ∧ c ≤ 5) && decide (ll.length ≤ 40)) = true) := Lib.hid (by simp; omega)
        clear h5
        go_enter Try.func74, Try.ntmps74
        go_wp2_with fail
        refine (HCC.out _).mono ?_
        rintro e w' ⟨rfl, rfl⟩
        go_wp2_with fail
        rw [← hw1]
        clear hw1 hb1
        go_loop [23] (fun iv => ∃ k : Nat, k ≤ ll.length ∧ iv = .int .i64 (k : Int) ∧ Hid ((ll.take k).all (rowOk c) = true)) (fun iv => ll.length - (intOf iv).toNat)
        case atStart => exact ⟨0, by omega, rfl, Lib.hid rfl⟩
        case round =>
          obtain ⟨k, hk, rfl, hall⟩ := hrel
          by_cases hlt : k < ll.length
          · obtain ⟨x, u, rfl, hx, hu⟩ := HA.out k hlt
            have hy := (hb2.cell (World.block_lt_of_cell? w _ hx)).trans hx
            have z0 : (0 : Int) ≤ (k : Int) := by omega
            have z1 : (k : Int) < (ll.length : Int) := by omega
            have hg : ll[k] = ll.getD k [] := by rw [List.getD_eq_getElem?_getD, List.getElem?_eq_getElem hlt]; rfl
            have HQ := Lib.hid (implRow_any u (ll.getD k []) c w1 (hu.kept hb2) (HT.out k hlt))
            have HOK := Lib.hid (fun h => all_snoc (p := rowOk c) hlt hall.out h)
            have HNO := Lib.hid (fun h => all_not (p := rowOk c) hlt h)
            rw [hg] at HOK HNO
            obtain ⟨r, hrr⟩ : ∃ r, ll.getD k [] = r := ⟨_, rfl⟩
            rw [hrr] at HQ HOK HNO
            clear hx hu hg hrr
            cases hro : rowOk c r with
            | true =>
              rw [hro] at HQ
              have HX := Lib.hid (HOK.out hro)
              clear hro
              go_wp2_with fail
              refine HQ.out.mono ?_
              rintro e w' ⟨rfl, rfl⟩
              go_wp2_with fail
              go_round
              case rel => exact ⟨k + 1, by omega, by go_num, HX⟩
              case measure => simp [intOf]; omega
            | false =>
              rw [hro] at HQ
              have HX := Lib.hid (HNO.out hro)
              clear hro
              go_wp2_with fail
              refine HQ.out.mono ?_
              rintro e w' ⟨rfl, rfl⟩
              go_wp2_with fail
              go_ret
              exact ⟨ret_b (by unfold isT; rw [HX.out]; rfl), hb2⟩
          · obtain rfl : k = ll.length := by omega
            have HX : Hid (ll.all (rowOk c) = true) := Lib.hid (by have := hall.out; rwa [List.take_length] at this)
            go_wp2_with fail
            go_ret
            exact ⟨ret_b (by unfold isT; rw [HX.out, HD.out]; rfl), hb2⟩
      · have g40 : (40 : Int) < (ll.length : Int) := by omega
        have HD : Hid (isT c ll = false) := Lib.hid (by unfold isT; rw [decide_eq_false h40]; simp)
        go_enter Try.func74, Try.ntmps74
        go_wp2_with fail
        refine (HCC.out _).mono ?_
        rintro e w' ⟨rfl, rfl⟩
        go_wp2_with fail
        go_ret
        exact ⟨ret_b HD.out, hb1⟩
    · have HCC := Lib.hid (fun w' => colCount_any c w')
      rw [show decide (0 ≤ c ∧ c ≤ 5) = false by simp; omega] at HCC
      have HD : Hid (isT c ll = false) := Lib.hid (by unfold isT; rw [decide_eq_false (p := 1 ≤ c ∧ c ≤ 5) (by omega)]; simp)
      go_enter Try.func74, Try.ntmps74
      go_wp2_with fail
      refine (HCC.out _).mono ?_
      rintro e w' ⟨rfl, rfl⟩
      go_wp2_with fail
      go_ret
      exact ⟨ret_b HD.out, hb1⟩
  · have g1 : c < 1 := by omega
    have HD : Hid (isT c ll = false) := Lib.hid (by unfold isT; rw [decide_eq_false (p := 1 ≤ c ∧ c ≤ 5) (by omega)]; simp)
    go_enter Try.func74, Try.ntmps74
    go_wp2_with fail
    go_ret
    exact ⟨ret_b HD.out, hb1⟩
end Go.Proofs.Ytepokhdjglnlnaa
