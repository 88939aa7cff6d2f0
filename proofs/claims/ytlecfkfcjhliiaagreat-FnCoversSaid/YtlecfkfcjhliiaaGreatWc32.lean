/- Texts of this claim, merged: FltI, ImB, CvA. Conditions: as stated. -/
import Derived.Test.YtlecfkfcjhliiaaGreatWc29
import Derived.Maps.AppendAt
import Derived.Test.YtlecfkfcjhliiaaGreatWc13
import Derived.Test.YtlecfkfcjhliiaaGreatWc14
import Derived.Deep.Quiet
import Derived.Deep.RegionLaw
namespace Go.Proofs.YtlecfkfcjhliiaaGreat
open Go.RowKit

set_option maxHeartbeats 1600000 in
theorem filtPW_any (c1 : Value) (p : Int → Bool) (v : Value) (l : List Int) (w : World) (hr : ReadI w v l) (hl : l.length ≤ 1048576)
    (HP : ∀ x, x ∈ l → ∀ w', Below w.heap.size w w' → Calls Tryz.prog 61 #[.int .i64 x, c1] w' fun e w'' => e = .returned (.bool (p x)) ∧ Below w'.heap.size w' w'') :
    Calls Tryz.prog 26 #[v, .func (.func 61) #[] #[c1]] w (RetI (l.filter p) w) := by
  obtain ⟨i0, hi, hz0, hz1, hz2⟩ := info_parts info3i
  have HI : Hid (_ ∧ _ ∧ _ ∧ _) := Lib.hid ⟨hi, hz0, hz1, hz2⟩
  clear hi hz0 hz1 hz2
  have HQ := Lib.hid HP
  have HN := Lib.hid (fun k hk => filter_next p l 0 k hk)
  have HL := Lib.hid (fun k => List.length_filter_le p (l.take k))
  obtain ⟨a, cap, rfl, ha⟩ := hr
  have HA := Lib.hid ha
  clear ha HP
  go_enter Tryz.func26, Tryz.ntmps26
  go_wp2_with (at_make; refine wpList_make_own _ rfl _ _ 29 rfl w.heap.size 3 i0 (.int .i64 0) 1 Tryz.underlying29 HI.out.1 HI.out.2.1 HI.out.2.2.1 .i64 .i64 _ l.length rfl rfl rfl (by rw [HI.out.2.2.2]; omega) (by unfold maxLen; omega) (Nat.le_refl _) ?_; intro w0 hown0 hgrow0)
  have hb0 := (Below.refl w.heap.size w).grown hgrow0 (Nat.le_refl _) (by simp)
  have hown := OwnI.made hown0
  clear hown0 hgrow0
  go_loopw [5, 13] (fun ov iv wr => ∃ (k : Nat) (q : List Int), k ≤ l.length ∧ iv = .int .i64 (k : Int) ∧ Hid (q = (l.take k).filter p) ∧ OwnI wr w.heap.size ov q ∧ Below w.heap.size w wr) (fun _ iv _ => l.length - (intOf iv).toNat)
  case atStart => exact ⟨0, [], by omega, rfl, Lib.hid rfl, hown, hb0⟩
  case round =>
    clear hown hb0
    obtain ⟨k, q, hk, rfl, hq, ho, hb⟩ := hrel
    by_cases hlt : k < l.length
    · obtain ⟨x, rfl, hx⟩ := HA.out k hlt
      replace hx := (hb.cell (World.block_lt_of_cell? w _ hx)).trans hx
      rw [get_getD l k hlt] at hx
      have hm : l.getD k 0 ∈ l := by rw [← get_getD l k hlt]; exact List.getElem_mem hlt
      have hll : q.length ≤ 1048576 := by rw [hq.out]; have := HL.out k; rw [List.length_take] at this; omega
      have HS := Lib.hid (HN.out k hlt)
      obtain ⟨y, hy⟩ : ∃ y, y = l.getD k 0 := ⟨_, rfl⟩
      rw [← hy] at hx HS hm
      have HC := Lib.hid (HQ.out y hm)
      have HB := Lib.hid hb
      have HO := Lib.hid ho
      clear hy hm ho
      have z0 : (0 : Int) ≤ (k : Int) := by omega
      have z1 : (k : Int) < (l.length : Int) := by omega
      cases hp : p y with
      | true =>
        rw [hp] at HC HS
        rw [if_pos rfl] at HS
        clear hp
        go_wp2_with fail
        refine (HC.out _ HB.out).mono ?_
        rintro e w1 ⟨rfl, b1⟩
        have ho1 := HO.out.kept b1 (fun k hk => (HO.out.lt k hk).2)
        have hb1 := HB.out.trans (b1.mono HB.out.size)
        clear b1
        go_wp2_with (at_builtin; refine wpList_append_own _ rfl _ _ 29 rfl w.heap.size 3 i0 (.int .i64 0) 1 8 Tryz.underlying29 HI.out.1 HI.out.2.1 HI.out.2.2.1 HI.out.2.2.2 rfl (by decide) _ _ _ rfl (World.ownsRow.alloc ho1 _) ⟨w1.heap.size, 0, none⟩ 1 1 [.int .i64 y] rfl rfl (cell_one_new _ _ _) (one_i64 _) (by unfold maxLen; omega) (by omega) (le_alloc hb1 (Nat.le_refl _) _) ?_; intro v1 w2 hown1 hgrow1 _)
        have ho2 := OwnI.snoc hown1
        have hb2 := (hb1.alloc hb1.size (.cells #[.int .i64 y] 3)).grown hgrow1 (by simp; have := hb1.size; omega) (fun k hk => (OwnI.lt ho1 k hk).1)
        clear hown1 hgrow1
        go_wp2_with fail
        go_roundw
        case rel => exact ⟨k + 1, _, by omega, by go_num, Lib.hid (by rw [HS.out, ← hq.out]), ho2, hb2⟩
        case measure => simp [intOf]; omega
      | false =>
        rw [hp] at HC HS
        rw [if_neg (by decide)] at HS
        clear hp
        go_wp2_with fail
        refine (HC.out _ HB.out).mono ?_
        rintro e w1 ⟨rfl, b1⟩
        have ho1 := HO.out.kept b1 (fun k hk => (HO.out.lt k hk).2)
        have hb1 := HB.out.trans (b1.mono HB.out.size)
        clear b1
        go_wp2_with fail
        go_roundw
        case rel => exact ⟨k + 1, _, by omega, by go_num, Lib.hid (by rw [HS.out, ← hq.out]), ho1, hb1⟩
        case measure => simp [intOf]; omega
    · obtain rfl : k = l.length := by omega
      go_wp2_with fail
      go_ret
      exact ⟨_, rfl, by have := hq.out; rw [List.take_length] at this; rw [← this]; exact ho, hb⟩
set_option maxHeartbeats 1600000 in
theorem filtVB_any (c1 c2 c3 : Value) (p : Int → Bool) (v : Value) (l : List Int) (w : World) (hr : ReadI w v l) (hl : l.length ≤ 1048576)
    (HP : ∀ x, x ∈ l → ∀ w', Below w.heap.size w w' → Calls Tryz.prog 28 #[.int .i64 x, c1, c2, c3] w' fun e w'' => e = .returned (.bool (p x)) ∧ Below w'.heap.size w' w'') :
    Calls Tryz.prog 26 #[v, .func (.func 28) #[] #[c1, c2, c3]] w (RetI (l.filter p) w) := by
  obtain ⟨i0, hi, hz0, hz1, hz2⟩ := info_parts info3i
  have HI : Hid (_ ∧ _ ∧ _ ∧ _) := Lib.hid ⟨hi, hz0, hz1, hz2⟩
  clear hi hz0 hz1 hz2
  have HQ := Lib.hid HP
  have HN := Lib.hid (fun k hk => filter_next p l 0 k hk)
  have HL := Lib.hid (fun k => List.length_filter_le p (l.take k))
  obtain ⟨a, cap, rfl, ha⟩ := hr
  have HA := Lib.hid ha
  clear ha HP
  go_enter Tryz.func26, Tryz.ntmps26
  go_wp2_with (at_make; refine wpList_make_own _ rfl _ _ 29 rfl w.heap.size 3 i0 (.int .i64 0) 1 Tryz.underlying29 HI.out.1 HI.out.2.1 HI.out.2.2.1 .i64 .i64 _ l.length rfl rfl rfl (by rw [HI.out.2.2.2]; omega) (by unfold maxLen; omega) (Nat.le_refl _) ?_; intro w0 hown0 hgrow0)
  have hb0 := (Below.refl w.heap.size w).grown hgrow0 (Nat.le_refl _) (by simp)
  have hown := OwnI.made hown0
  clear hown0 hgrow0
  go_loopw [5, 13] (fun ov iv wr => ∃ (k : Nat) (q : List Int), k ≤ l.length ∧ iv = .int .i64 (k : Int) ∧ Hid (q = (l.take k).filter p) ∧ OwnI wr w.heap.size ov q ∧ Below w.heap.size w wr) (fun _ iv _ => l.length - (intOf iv).toNat)
  case atStart => exact ⟨0, [], by omega, rfl, Lib.hid rfl, hown, hb0⟩
  case round =>
    clear hown hb0
    obtain ⟨k, q, hk, rfl, hq, ho, hb⟩ := hrel
    by_cases hlt : k < l.length
    · obtain ⟨x, rfl, hx⟩ := HA.out k hlt
      replace hx := (hb.cell (World.block_lt_of_cell? w _ hx)).trans hx
      rw [get_getD l k hlt] at hx
      have hm : l.getD k 0 ∈ l := by rw [← get_getD l k hlt]; exact List.getElem_mem hlt
      have hll : q.length ≤ 1048576 := by rw [hq.out]; have := HL.out k; rw [List.length_take] at this; omega
      have HS := Lib.hid (HN.out k hlt)
      obtain ⟨y, hy⟩ : ∃ y, y = l.getD k 0 := ⟨_, rfl⟩
      rw [← hy] at hx HS hm
      have HC := Lib.hid (HQ.out y hm)
      have HB := Lib.hid hb
      have HO := Lib.hid ho
      clear hy hm ho
      have z0 : (0 : Int) ≤ (k : Int) := by omega
      have z1 : (k : Int) < (l.length : Int) := by omega
      cases hp : p y with
      | true =>
        rw [hp] at HC HS
        rw [if_pos rfl] at HS
        clear hp
        go_wp2_with fail
        refine (HC.out _ HB.out).mono ?_
        rintro e w1 ⟨rfl, b1⟩
        have ho1 := HO.out.kept b1 (fun k hk => (HO.out.lt k hk).2)
        have hb1 := HB.out.trans (b1.mono HB.out.size)
        clear b1
        go_wp2_with (at_builtin; refine wpList_append_own _ rfl _ _ 29 rfl w.heap.size 3 i0 (.int .i64 0) 1 8 Tryz.underlying29 HI.out.1 HI.out.2.1 HI.out.2.2.1 HI.out.2.2.2 rfl (by decide) _ _ _ rfl (World.ownsRow.alloc ho1 _) ⟨w1.heap.size, 0, none⟩ 1 1 [.int .i64 y] rfl rfl (cell_one_new _ _ _) (one_i64 _) (by unfold maxLen; omega) (by omega) (le_alloc hb1 (Nat.le_refl _) _) ?_; intro v1 w2 hown1 hgrow1 _)
        have ho2 := OwnI.snoc hown1
        have hb2 := (hb1.alloc hb1.size (.cells #[.int .i64 y] 3)).grown hgrow1 (by simp; have := hb1.size; omega) (fun k hk => (OwnI.lt ho1 k hk).1)
        clear hown1 hgrow1
        go_wp2_with fail
        go_roundw
        case rel => exact ⟨k + 1, _, by omega, by go_num, Lib.hid (by rw [HS.out, ← hq.out]), ho2, hb2⟩
        case measure => simp [intOf]; omega
      | false =>
        rw [hp] at HC HS
        rw [if_neg (by decide)] at HS
        clear hp
        go_wp2_with fail
        refine (HC.out _ HB.out).mono ?_
        rintro e w1 ⟨rfl, b1⟩
        have ho1 := HO.out.kept b1 (fun k hk => (HO.out.lt k hk).2)
        have hb1 := HB.out.trans (b1.mono HB.out.size)
        clear b1
        go_wp2_with fail
        go_roundw
        case rel => exact ⟨k + 1, _, by omega, by go_num, Lib.hid (by rw [HS.out, ← hq.out]), ho1, hb1⟩
        case measure => simp [intOf]; omega
    · obtain rfl : k = l.length := by omega
      go_wp2_with fail
      go_ret
      exact ⟨_, rfl, by have := hq.out; rw [List.take_length] at this; rw [← this]; exact ho, hb⟩
end Go.Proofs.YtlecfkfcjhliiaaGreat
namespace Go.Proofs.YtlecfkfcjhliiaaGreat
open Go.RowKit

set_option maxHeartbeats 800000 in
theorem members_any (X : Nat) (hX : X < 32) (w : World) :
    Calls Tryz.prog 40 #[.int .i64 (X : Int)] w (RetI (mems (X : Int)) w) := by
  obtain ⟨i0, hi, hz0, hz1, hz2⟩ := info_parts info3i
  have HI : Hid (_ ∧ _ ∧ _ ∧ _) := Lib.hid ⟨hi, hz0, hz1, hz2⟩
  clear hi hz0 hz1 hz2
  have he : mems (X : Int) = memN X 5 := by unfold mems; rw [if_pos (by omega)]; rfl
  have HE := Lib.hid he
  clear he
  have HH := Lib.hid (fun (k : Nat) (hk : k ≤ 62) (w : World) => has_any X k hk w)
  go_enter Tryz.func40, Tryz.ntmps40
  go_wp2_with (at_make; refine wpList_make_own _ rfl _ _ 29 rfl w.heap.size 3 i0 (.int .i64 0) 1 Tryz.underlying29 HI.out.1 HI.out.2.1 HI.out.2.2.1 .i64 .i64 _ 5 rfl rfl (by omega) (by rw [HI.out.2.2.2]; omega) (by unfold maxLen; omega) (Nat.le_refl _) ?_; intro w0 hown0 hgrow0)
  have hb0 := (Below.refl w.heap.size w).grown hgrow0 (Nat.le_refl _) (by simp)
  have hown := OwnI.made hown0
  clear hown0 hgrow0
  go_loopw [3, 4] (fun ov iv wr => ∃ (k : Nat) (l : List Int), k ≤ 5 ∧ iv = .int .i64 (k : Int) ∧ Hid (l = memN X k) ∧ OwnI wr w.heap.size ov l ∧ Below w.heap.size w wr) (fun _ iv _ => (5 - intOf iv).toNat)
  case atStart => exact ⟨0, [], by omega, rfl, Lib.hid rfl, hown, hb0⟩
  case round =>
    obtain ⟨k, l, hk, rfl, hl, ho, hb⟩ := hrel
    by_cases hlt : k < 5
    · have hll : l.length ≤ 5 := by rw [hl.out]; have := memN_len X k; omega
      by_cases hB : bitB X k = true
      · go_wp2_with fail
        refine (HH.out k (by omega) _).mono ?_
        rintro e w' ⟨rfl, rfl⟩
        go_wp2_with (at_builtin; refine wpList_append_own _ rfl _ _ 29 rfl w.heap.size 3 i0 (.int .i64 0) 1 8 Tryz.underlying29 HI.out.1 HI.out.2.1 HI.out.2.2.1 HI.out.2.2.2 rfl (by decide) _ _ _ rfl (World.ownsRow.alloc ho _) ⟨wr.heap.size, 0, none⟩ 1 1 [.int .i64 (k : Int)] rfl rfl (cell_one_new _ _ _) (one_i64 _) (by unfold maxLen; omega) (by omega) (le_alloc hb (Nat.le_refl _) _) ?_; intro v' w1 hown' hgrow _)
        have ho' := OwnI.snoc hown'
        have hb' := (hb.alloc hb.size (.cells #[.int .i64 (k : Int)] 3)).grown hgrow (by simp; have := hb.size; omega) (fun k hk => (OwnI.lt ho k hk).1)
        clear hown' hgrow
        go_wp2_with fail
        go_roundw
        case rel => exact ⟨k + 1, _, by omega, by go_num, Lib.hid (by rw [memN_succ, if_pos hB, ← hl.out]), ho', hb'⟩
        case measure => simp [intOf]; omega
      · have hB2 : bitB X k = false := by simpa using hB
        go_wp2_with fail
        refine (HH.out k (by omega) _).mono ?_
        rintro e w' ⟨rfl, rfl⟩
        go_wp2_with fail
        go_roundw
        case rel => exact ⟨k + 1, _, by omega, by go_num, Lib.hid (by rw [memN_succ, if_neg hB, ← hl.out]), ho, hb⟩
        case measure => simp [intOf]; omega
    · obtain rfl : k = 5 := by omega
      go_wp2_with fail
      go_ret
      exact ⟨_, rfl, by rw [HE.out, ← hl.out]; exact ho, hb⟩
theorem OwnI.none (w : World) (B : Nat) : OwnI w B (.slice .none 0 0) [] := World.ownsRow_nil _ _ _ _
set_option maxHeartbeats 1600000 in
theorem implParts_any (n : Int) (w : World) :
    Calls Tryz.prog 60 #[.int .i64 n] w (RetI (parts n) w) := by
  obtain ⟨i0, hi, hz0, hz1, hz2⟩ := info_parts info3i
  have HI : Hid (_ ∧ _ ∧ _ ∧ _) := Lib.hid ⟨hi, hz0, hz1, hz2⟩
  clear hi hz0 hz1 hz2
  by_cases hn : 0 ≤ n ∧ n ≤ 5
  · obtain ⟨N, rfl⟩ : ∃ N : Nat, n = (N : Int) := ⟨n.toNat, by omega⟩
    have hN : N ≤ 5 := by omega
    have h1 : decide (0 ≤ (N : Int) ∧ (N : Int) ≤ 5) = true := by simp; omega
    have HE : Hid (parts (N : Int) = bySize N (N + 1)) := Lib.hid (by unfold parts; rw [if_pos hn]; rfl)
    obtain ⟨M, hM, hM31⟩ : ∃ M : Nat, M + 1 = 2 ^ N ∧ M ≤ 31 := by
      have : 2 ^ N ≤ 2 ^ 5 := Nat.pow_le_pow_right (by omega) hN
      have : 0 < 2 ^ N := Nat.pow_pos (by omega)
      exact ⟨2 ^ N - 1, by omega, by omega⟩
    have HM := Lib.hid hM
    have HA : Hid (∀ w, Calls Tryz.prog 86 #[.int .i64 (N : Int)] w fun e w' => e = .returned (.int .i64 (M : Int)) ∧ w = w') :=
      Lib.hid fun w => (first_any (N : Int) w hn.1 hn.2).mono fun _ _ ⟨a, b⟩ => ⟨by
        rw [a, show (N : Int).toNat = N from rfl, show ((2 : Int) ^ N - 1) = (M : Int) by
          have h3 : ((2 ^ N : Nat) : Int) = (2 : Int) ^ N := by rw [Int.natCast_pow]; rfl
          omega], b⟩
    have HIN : Hid (∀ w, Calls Tryz.prog 84 #[.int .i64 (N : Int)] w fun e w' => e = .returned (.bool true) ∧ w = w') := Lib.hid fun w => (colCount_any (N : Int) w).mono fun _ _ ⟨a, b⟩ => ⟨by rw [a, h1], b⟩
    have HS : Hid (∀ X : Nat, X ≤ M → ∀ w, _) := Lib.hid fun X hX w => size_any X (by omega) w
    clear hM hn h1
    go_enter Tryz.func60, Tryz.ntmps60
    go_wp2_with fail
    refine (HIN.out _).mono ?_
    rintro e w' ⟨rfl, rfl⟩
    go_wp2_with fail
    refine (HA.out _).mono ?_
    rintro e w' ⟨rfl, rfl⟩
    go_wp2_with (at_make; refine wpList_make_own _ rfl _ _ 29 rfl w.heap.size 3 i0 (.int .i64 0) 1 Tryz.underlying29 HI.out.1 HI.out.2.1 HI.out.2.2.1 .i64 .i64 _ (M + 1) rfl rfl (by omega) (by rw [HI.out.2.2.2]; omega) (by unfold maxLen; omega) (Nat.le_refl _) ?_; intro w0 hown0 hgrow0)
    have hb0 := (Below.refl w.heap.size w).grown hgrow0 (Nat.le_refl _) (by simp)
    have hown := OwnI.made hown0
    clear hown0 hgrow0
    go_loopw [4, 5] (fun ov sv wr => ∃ (s : Nat) (l : List Int), s ≤ N + 1 ∧ sv = .int .i64 (s : Int) ∧ Hid (l = bySize N s) ∧ OwnI wr w.heap.size ov l ∧ Below w.heap.size w wr) (fun _ sv _ => (N + 1 - intOf sv).toNat)
    case atStart => exact ⟨0, [], by omega, rfl, Lib.hid rfl, hown, hb0⟩
    case round =>
      obtain ⟨s, l, hs, rfl, hl, ho, hb⟩ := hrel
      by_cases hlt : s ≤ N
      · go_wp2_with fail
        obtain ⟨wo, rfl⟩ : ∃ wo : World, wo = wr := ⟨_, rfl⟩
        go_loopw [4, 6] (fun ov xv wr => ∃ (x : Nat) (l2 : List Int), x ≤ M + 1 ∧ xv = .int .i64 (x : Int) ∧ Hid (l2 = l ++ ofSize s x) ∧ OwnI wr w.heap.size ov l2 ∧ Below w.heap.size w wr) (fun _ xv _ => (M + 1 - intOf xv).toNat)
        case atStart => exact ⟨0, l, by omega, rfl, Lib.hid (by simp [ofSize]), ho, hb⟩
        case round =>
          clear ho hb
          obtain ⟨x, l2, hx, rfl, hl2, ho, hb⟩ := hrel
          have hll : l2.length ≤ 1000 := by
            rw [hl2.out, List.length_append, hl.out]
            have a1 := bySize_len N s
            have a2 := ofSize_len s x
            have a3 : s * 2 ^ N ≤ 5 * 32 := Nat.mul_le_mul (by omega) (by have := HM.out; omega)
            omega
          by_cases hxm : x ≤ M
          · by_cases hc : cnt (x : Int) = s
            · have heq : ((cnt (x : Int) : Int) == (s : Int)) = true := by simp [hc]
              have HCN := Lib.hid hc
              clear hc
              go_wp2_with fail
              refine (HS.out x hxm _).mono ?_
              rintro e w' ⟨rfl, rfl⟩
              go_wp2_with (at_builtin; refine wpList_append_own _ rfl _ _ 29 rfl w.heap.size 3 i0 (.int .i64 0) 1 8 Tryz.underlying29 HI.out.1 HI.out.2.1 HI.out.2.2.1 HI.out.2.2.2 rfl (by decide) _ _ _ rfl (World.ownsRow.alloc ho _) ⟨wr.heap.size, 0, none⟩ 1 1 [.int .i64 (x : Int)] rfl rfl (cell_one_new _ _ _) (one_i64 _) (by unfold maxLen; omega) (by omega) (le_alloc hb (Nat.le_refl _) _) ?_; intro v' w2 hown' hgrow _)
              have ho' := OwnI.snoc hown'
              have hb' := (hb.alloc hb.size (.cells #[.int .i64 (x : Int)] 3)).grown hgrow (by simp; have := hb.size; omega) (fun k hk => (OwnI.lt ho k hk).1)
              clear hown' hgrow
              go_wp2_with fail
              go_roundw
              case rel => exact ⟨x + 1, _, by omega, by go_num, Lib.hid (by rw [ofSize_succ, if_pos (by simp [HCN.out]), hl2.out, List.append_assoc]), ho', hb'⟩
              case measure => simp [intOf]; omega
            · have heq : ((cnt (x : Int) : Int) == (s : Int)) = false := by simp; omega
              have HCN := Lib.hid hc
              clear hc
              go_wp2_with fail
              refine (HS.out x hxm _).mono ?_
              rintro e w' ⟨rfl, rfl⟩
              go_wp2_with fail
              go_roundw
              case rel => exact ⟨x + 1, _, by omega, by go_num, Lib.hid (by rw [ofSize_succ, if_neg (by simp [HCN.out]), hl2.out]), ho, hb⟩
              case measure => simp [intOf]; omega
          · obtain rfl : x = M + 1 := by omega
            go_wp2_with fail
            go_roundw
            case rel => exact ⟨s + 1, _, by omega, by go_num, Lib.hid (by rw [bySize_succ, hl2.out, hl.out, HM.out]), ho, hb⟩
            case measure => simp [intOf]; omega
      · obtain rfl : s = N + 1 := by omega
        go_wp2_with fail
        go_ret
        exact ⟨_, rfl, by rw [HE.out, ← hl.out]; exact ho, hb⟩
  · have h1 : decide (0 ≤ n ∧ n ≤ 5) = false := by simp only [hn, decide_false]
    have HE : Hid (parts n = []) := Lib.hid (by unfold parts; rw [if_neg hn])
    have HIN : Hid (∀ w, Calls Tryz.prog 84 #[.int .i64 n] w fun e w' => e = .returned (.bool false) ∧ w = w') := Lib.hid fun w => (colCount_any n w).mono fun _ _ ⟨a, b⟩ => ⟨by rw [a, h1], b⟩
    clear hn
    go_enter Tryz.func60, Tryz.ntmps60
    go_wp2_with fail
    refine (HIN.out _).mono ?_
    rintro e w' ⟨rfl, rfl⟩
    go_wp2_with fail
    go_ret
    exact ⟨_, rfl, by rw [HE.out]; exact OwnI.none _ _, Below.refl _ _⟩
end Go.Proofs.YtlecfkfcjhliiaaGreat
namespace Go.Proofs.YtlecfkfcjhliiaaGreat
open Go.RowKit

set_option maxHeartbeats 1600000 in
theorem inMode_any (c m : Int) (v : Value) (ll : List (List Int)) (w : World) (hr : ReadSS w v ll) (hl : ll.length ≤ 1048576) (ht : ∀ i, i < ll.length → (ll.getD i []).length ≤ 1048576) :
    Calls Tryz.prog 24 #[.agg #[.int .i64 c, v], .int .i64 m] w fun e w' => e = .returned (.bool (fineT c ll m)) ∧ Below w.heap.size w w' := by
  have HO := Lib.hid (eqOf_any m)
  have hb1 := (Below.refl w.heap.size w).alloc (Nat.le_refl _) (.cells #[.int .i64 c, v] 26)
  have HV := Lib.hid (fun w' (hb : Below w.heap.size w w') => implIsTable_any c v ll w' (hr.kept hb) hl ht)
  have HB1 := Lib.hid hb1
  obtain ⟨c0, c1⟩ := zero2 w 26 (.int .i64 c) v
  obtain ⟨a, cap, rfl, -⟩ := hr
  obtain ⟨F, hF⟩ : ∃ F, eqFn m = F := ⟨_, rfl⟩
  rw [hF] at HO
  clear hb1 hF
  cases hm : modeOk m with
  | false =>
    have HE : Hid (fineT c ll m = false) := Lib.hid (by unfold fineT; rw [hm]; simp)
    rw [hm] at HO
    clear hm
    go_enter Tryz.func24, Tryz.ntmps24
    go_wp2_with fail
    refine (HO.out _).mono ?_
    rintro e w' ⟨rfl, rfl⟩
    go_wp2_with fail
    go_ret
    exact ⟨ret_b HE.out, HB1.out⟩
  | true =>
    have HE : Hid (fineT c ll m = isT c ll) := Lib.hid (by unfold fineT; rw [hm]; simp)
    rw [hm] at HO
    clear hm
    go_enter Tryz.func24, Tryz.ntmps24
    go_wp2_with fail
    refine (HO.out _).mono ?_
    rintro e w' ⟨rfl, rfl⟩
    go_wp2_with fail
    refine (HV.out _ HB1.out).mono ?_
    rintro e w2 ⟨rfl, b2⟩
    have hb2 := HB1.out.trans (b2.mono HB1.out.size)
    go_wp2_with fail
    go_ret
    exact ⟨ret_b HE.out, hb2⟩
theorem withoutFun_any (X R b : Nat) (hR : R ≤ 62) (w : World) (hc : w.cell? ⟨b, 0, none⟩ = some (.int .i64 (R : Int))) :
    Calls Tryz.prog 61 #[.int .i64 (X : Int), .pointer (some ⟨b, 0, none⟩)] w fun e w' => e = .returned (.bool (!bitB X R)) ∧ Below w.heap.size w w' := by
  have HH := Lib.hid (fun w' => has_any X R hR w')
  cases hB : bitB X R with
  | true =>
    rw [hB] at HH
    clear hB
    go_enter Tryz.func61, Tryz.ntmps61
    go_wp2_with fail
    refine (HH.out _).mono ?_
    rintro e w' ⟨rfl, rfl⟩
    go_wp2_with fail
    go_ret
    exact ⟨rfl, Below.refl _ _⟩
  | false =>
    rw [hB] at HH
    clear hB
    go_enter Tryz.func61, Tryz.ntmps61
    go_wp2_with fail
    refine (HH.out _).mono ?_
    rintro e w' ⟨rfl, rfl⟩
    go_wp2_with fail
    go_ret
    exact ⟨rfl, Below.refl _ _⟩
set_option maxHeartbeats 1600000 in
theorem partsW_any (n : Int) (R : Nat) (hR : R ≤ 62) (w : World) :
    Calls Tryz.prog 27 #[.int .i64 n, .int .i64 (R : Int)] w (RetI ((parts n).filter (fun S => !bitB S.toNat R)) w) := by
  have hb1 := (Below.refl w.heap.size w).alloc (Nat.le_refl _) (.cells #[.int .i64 (R : Int)] 3)
  have HP := Lib.hid (implParts_any n (w.alloc (.cells #[.int .i64 (R : Int)] 3)))
  have HC := Lib.hid (one_at w 3 (.int .i64 (R : Int)))
  have HF := Lib.hid (fun v w' (hr : ReadI w' v (parts n)) (hc : w'.cell? ⟨w.heap.size, 0, none⟩ = some (.int .i64 (R : Int))) (hl : (parts n).length ≤ 1048576) =>
    filtPW_any (.pointer (some ⟨w.heap.size, 0, none⟩)) (fun S => !bitB S.toNat R) v (parts n) w' hr hl (fun x hx w'' hb => by
      obtain ⟨X, rfl, -⟩ := parts_small n x hx
      exact withoutFun_any X R w.heap.size hR w'' ((hb.cell (World.block_lt_of_cell? _ _ hc)).trans hc)))
  have hlen : (parts n).length ≤ 1048576 := by
    by_cases hn : 0 ≤ n ∧ n ≤ 5
    · obtain ⟨C, rfl⟩ : ∃ C : Nat, n = (C : Int) := ⟨n.toNat, by omega⟩
      have := parts_len32 (C := C) (by omega)
      omega
    · unfold parts; rw [if_neg hn]; simp
  go_enter Tryz.func27, Tryz.ntmps27
  go_wp2_with fail
  refine HP.out.mono ?_
  rintro e w1 ⟨v1, rfl, ho1, b1⟩
  have hb2 := hb1.trans (b1.mono hb1.size)
  have hc1 := (b1.cell (World.block_lt_of_cell? _ _ HC.out)).trans HC.out
  have HG := Lib.hid (HF.out v1 w1 ho1.read hc1 hlen)
  clear ho1 b1
  go_wp2_with fail
  refine HG.out.mono ?_
  rintro e w2 ⟨v2, rfl, ho2, b2⟩
  have hb3 := hb2.trans (b2.mono hb2.size)
  have ho3 := ho2.base hb2.size
  clear b2 ho2
  go_wp2_with fail
  go_ret
  exact ⟨_, rfl, ho3, hb3⟩
theorem pw_next (ps : List Int) (r k : Nat) (h : k < ps.length) : (ps.take (k + 1)).map (fun S => (S, (r : Int))) = (ps.take k).map (fun S => (S, (r : Int))) ++ [(ps.getD k 0, (r : Int))] := by
  rw [take_succ_getD ps 0 k h, List.map_append]; rfl
theorem cand_len (C r : Nat) (hC : C ≤ 5) (hr : r ≤ C) : (mdOut (fun S r => !bitB S.toNat r) (parts (C : Int)) r).length ≤ 160 := by
  have h1 := mdOut_len (fun S r => !bitB S.toNat r) (parts (C : Int)) r
  have h2 := parts_len32 hC
  have h3 : r * (parts (C : Int)).length ≤ 5 * 32 := Nat.mul_le_mul (by omega) h2
  omega
set_option maxHeartbeats 3200000 in
theorem candOf_any (C : Nat) (hC : C ≤ 5) (w : World) :
    Calls Tryz.prog 67 #[.int .i64 (C : Int)] w (RetD (candL C) w) := by
  obtain ⟨i0, hi, hz0, hz1, hz2⟩ := info_parts infoDp
  have HI : Hid (_ ∧ _ ∧ _ ∧ _) := Lib.hid ⟨hi, hz0, hz1, hz2⟩
  clear hi hz0 hz1 hz2
  have HP := Lib.hid (fun (R : Nat) (hR : R ≤ 62) w' => partsW_any (C : Int) R hR w')
  have HN := Lib.hid (fun r => mdOut_succ (fun S r => !bitB S.toNat r) (parts (C : Int)) r)
  have HL := Lib.hid (fun r hr => cand_len C r hC hr)
  have HPL := Lib.hid (fun (r : Nat) => Nat.le_trans (List.length_filter_le (fun S => !bitB S.toNat r) (parts (C : Int))) (parts_len32 hC))
  go_enter Tryz.func67, Tryz.ntmps67
  go_wp2_with fail
  go_loopw [3, 4] (fun ov iv wr => ∃ (r : Nat) (q : List (Int × Int)), r ≤ C ∧ iv = .int .i64 (r : Int) ∧ Hid (q = mdOut (fun S r => !bitB S.toNat r) (parts (C : Int)) r) ∧ OwnD wr w.heap.size ov q ∧ Below w.heap.size w wr) (fun _ iv _ => C - (intOf iv).toNat)
  case atStart => exact ⟨0, [], by omega, rfl, Lib.hid rfl, OwnD.nil _ _, Below.refl _ _⟩
  case round =>
    obtain ⟨r, q, hr, rfl, hq, ho, hb⟩ := hrel
    by_cases hlt : r < C
    · have HPR := Lib.hid (HP.out r (by omega))
      have HNR := Lib.hid (HN.out r)
      have hll := HL.out r (by omega)
      rw [← hq.out] at hll
      have hpl := HPL.out r
      obtain ⟨ps, hps⟩ : ∃ ps, ps = (parts (C : Int)).filter (fun S => !bitB S.toNat r) := ⟨_, rfl⟩
      rw [← hps] at HPR HNR hpl
      rw [← hq.out] at HNR
      have HO := Lib.hid ho
      have HB := Lib.hid hb
      clear hps ho hb
      have z0 : (0 : Int) ≤ (r : Int) := by omega
      have z1 : (r : Int) < (C : Int) := by omega
      go_wp2_with fail
      refine (HPR.out _).mono ?_
      rintro e w1 ⟨v1, rfl, o1, b1⟩
      have ho1 := HO.out.below b1 (fun k hk => (HO.out.lt k hk).2)
      have hb1 := HB.out.trans (b1.mono HB.out.size)
      have o1' := o1.base (B' := w.heap.size) HB.out.size
      obtain ⟨a1, cap1, hv1, -⟩ := o1.read
      subst hv1
      have HO1 := Lib.hid ho1
      have HB1 := Lib.hid hb1
      have HI1 := Lib.hid o1'
      clear b1 o1 ho1 hb1 o1'
      go_wp2_with fail
      go_loopw [3, 16] (fun ov jv wr => ∃ (k : Nat) (q2 : List (Int × Int)), k ≤ ps.length ∧ jv = .int .i64 (k : Int) ∧ Hid (q2 = q ++ (ps.take k).map (fun S => (S, (r : Int)))) ∧ OwnD wr w.heap.size ov q2 ∧ OwnI wr w.heap.size (.slice a1 ps.length cap1) ps ∧ Below w.heap.size w wr) (fun _ jv _ => ps.length - (intOf jv).toNat)
      case atStart => exact ⟨0, q, by omega, rfl, Lib.hid (by simp), HO1.out, HI1.out, HB1.out⟩
      case round =>
        obtain ⟨k, q2, hk, rfl, hq2, ho, hio, hbw⟩ := hrel
        obtain ⟨w2, hw2⟩ : ∃ w', w' = wr := ⟨_, rfl⟩
        rw [← hw2] at ho hio hbw ⊢
        clear hw2
        by_cases hlt2 : k < ps.length
        · obtain ⟨x, hx⟩ : ∃ x, a1 = some x ∧ w2.cell? (x.add k) = some (.int .i64 (ps.getD k 0)) := by
            obtain ⟨a', cap', hv, hc⟩ := hio.read
            cases hv
            obtain ⟨x, e1, e2⟩ := hc k hlt2
            rw [get_getD ps k hlt2] at e2
            exact ⟨x, e1, e2⟩
          obtain ⟨rfl, hx⟩ := hx
          have hl2 : q2.length ≤ 1000 := by rw [hq2.out, List.length_append, List.length_map, List.length_take]; omega
          have HS := Lib.hid (pw_next ps r k hlt2)
          obtain ⟨y, hy⟩ : ∃ y, y = ps.getD k 0 := ⟨_, rfl⟩
          rw [← hy] at hx HS
          clear hy
          have HOD := Lib.hid ho
          have HIO := Lib.hid hio
          clear hio
          have z2 : (0 : Int) ≤ (k : Int) := by omega
          have z3 : (k : Int) < (ps.length : Int) := by omega
          go_wp2_with (at_builtin; refine wpList_append_own _ rfl _ _ 31 rfl w.heap.size 37 i0 (.agg #[.int .i64 0, .int .i64 0]) 2 16 Tryz.underlying31 HI.out.1 HI.out.2.1 HI.out.2.2.1 HI.out.2.2.2 rfl (by decide) _ _ _ rfl (World.ownsRow.alloc ho _) ⟨w2.heap.size, 0, none⟩ 1 1 [.int .i64 y, .int .i64 (r : Int)] rfl rfl (cell_two_new _ _ _ _) (two_i64 _ _) (by unfold maxLen; omega) (by omega) (le_alloc hbw (Nat.le_refl _) _) ?_; intro v3 w3 hown3 hgrow3 _)
          have ho3 := OwnD.snoc hown3
          have hb3 := (hbw.alloc hbw.size (.cells #[.int .i64 y, .int .i64 (r : Int)] 37)).grown hgrow3 (by simp; have := hbw.size; omega) (fun k hk => (HOD.out.lt k hk).1)
          have hi2 := HIO.out.kept ((Below.refl w2.heap.size w2).alloc (Nat.le_refl _) (.cells #[.int .i64 y, .int .i64 (r : Int)] 37)) (fun k hk => (HIO.out.lt k hk).2)
          have hi3 := hi2.keptBy hgrow3 (fun g hg => dep_apart (World.ownsRow.alloc HOD.out _) hi2 g hg)
          clear hown3 hgrow3 hi2
          go_wp2_with fail
          go_roundw
          case rel => exact ⟨k + 1, _, by omega, by go_num, Lib.hid (by rw [HS.out, hq2.out, List.append_assoc]), ho3, hi3, hb3⟩
          case measure => simp [intOf]; omega
        · obtain rfl : k = ps.length := by omega
          go_wp2_with fail
          go_roundw
          case rel => exact ⟨r + 1, _, by omega, by go_num, Lib.hid (by rw [HNR.out, hq2.out, List.take_length]), ho, hbw⟩
          case measure => simp [intOf]; omega
    · obtain rfl : r = C := by omega
      go_wp2_with fail
      go_ret
      exact ⟨_, rfl, by unfold candL; rw [← hq.out]; exact ho, hb⟩
end Go.Proofs.YtlecfkfcjhliiaaGreat
