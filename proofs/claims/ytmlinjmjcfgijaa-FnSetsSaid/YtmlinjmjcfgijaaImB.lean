/- The program's Members, PartsBySize, by contract. Conditions: as stated. -/
import Derived.Test.YtmlinjmjcfgijaaImA
namespace Go.Proofs.Ytmlinjmjcfgijaa
open Go.RowKit

set_option maxHeartbeats 800000 in
theorem members_any (X : Nat) (hX : X < 32) (w : World) :
    Calls Try.prog 38 #[.int .i64 (X : Int)] w (RetI (mems (X : Int)) w) := by
  obtain ⟨i0, hi, hz0, hz1, hz2⟩ := info_parts info3i
  have HI : Hid (_ ∧ _ ∧ _ ∧ _) := Lib.hid ⟨hi, hz0, hz1, hz2⟩
  clear hi hz0 hz1 hz2
  have he : mems (X : Int) = memN X 5 := by unfold mems; rw [if_pos (by omega)]; rfl
  have HE := Lib.hid he
  clear he
  have HH := Lib.hid (fun (k : Nat) (hk : k ≤ 62) (w : World) => has_any X k hk w)
  go_enter Try.func38, Try.ntmps38
  go_wp2_with (at_make; refine wpList_make_own _ rfl _ _ 29 rfl w.heap.size 3 i0 (.int .i64 0) 1 Try.underlying29 HI.out.1 HI.out.2.1 HI.out.2.2.1 .i64 .i64 _ 5 rfl rfl (by omega) (by rw [HI.out.2.2.2]; omega) (by unfold maxLen; omega) (Nat.le_refl _) ?_; intro w0 hown0 hgrow0)
  have hb0 := (Below.refl w.heap.size w).grown hgrow0 (Nat.le_refl _) (by simp)
  have hown := OwnI.made hown0
  clear hown0 hgrow0
  go_loopw [3, 4] (fun ov iv wr => ∃ (k : Nat) (l : List Int), k ≤ 5 ∧ iv = .int .i64 (k : Int) ∧ Hid (l = memN X k) ∧ OwnI wr w.heap.size ov l ∧ Below w.heap.size w wr) (fun _ iv _ => (5 - intOf iv).toNat)
  case atStart => exact ⟨0, [], by omega, rfl, Lib.hid rfl, hown, hb0⟩
  case round =>
    obtain ⟨k, l, hk, rfl, hl, ho, hb⟩ := hrel
    by_cases hlt : k < 5
    · have hll : l.length ≤ 5 := by rw [hl.out]; have := memN_len X k; omega
      by_cases hB : bitB X k = true
      · go_wp2_with fail
        refine (HH.out k (by omega) _).mono ?_
        rintro e w' ⟨rfl, rfl⟩
        go_wp2_with (at_builtin; refine wpList_append_own _ rfl _ _ 29 rfl w.heap.size 3 i0 (.int .i64 0) 1 8 Try.underlying29 HI.out.1 HI.out.2.1 HI.out.2.2.1 HI.out.2.2.2 rfl (by decide) _ _ _ rfl (World.ownsRow.alloc ho _) ⟨wr.heap.size, 0, none⟩ 1 1 [.int .i64 (k : Int)] rfl rfl (cell_one_new _ _ _) (one_i64 _) (by unfold maxLen; omega) (by omega) (le_alloc hb (Nat.le_refl _) _) ?_; intro v' w1 hown' hgrow _)
        have ho' := OwnI.snoc hown'
        have hb' := (hb.alloc hb.size (.cells #[.int .i64 (k : Int)] 3)).grown hgrow (by simp; have := hb.size; omega) (fun k hk => (OwnI.lt ho k hk).1)
        clear hown' hgrow
        go_wp2_with fail
        go_roundw
        case rel => exact ⟨k + 1, _, by omega, by go_num, Lib.hid (by rw [memN_succ, if_pos hB, ← hl.out]), ho', hb'⟩
        case measure => simp [intOf]; omega
      · have hB2 : bitB X k = false := by simpa using hB
        go_wp2_with fail
        refine (HH.out k (by omega) _).mono ?_
        rintro e w' ⟨rfl, rfl⟩
        go_wp2_with fail
        go_roundw
        case rel => exact ⟨k + 1, _, by omega, by go_num, Lib.hid (by rw [memN_succ, if_neg hB, ← hl.out]), ho, hb⟩
        case measure => simp [intOf]; omega
    · obtain rfl : k = 5 := by omega
      go_wp2_with fail
      go_ret
      exact ⟨_, rfl, by rw [HE.out, ← hl.out]; exact ho, hb⟩
theorem OwnI.none (w : World) (B : Nat) : OwnI w B (.slice .none 0 0) [] := World.ownsRow_nil _ _ _ _
theorem implMembers_any (x : Int) (h0 : -9223372036854775808 ≤ x) (h1 : x ≤ 9223372036854775807) (w : World) :
    Calls Try.prog 16 #[.int .i64 x] w (RetI (mems x) w) := by
  have HV := Lib.hid (isValid_any x h0 h1)
  by_cases hx : 0 ≤ x ∧ x ≤ 31
  · obtain ⟨X, rfl⟩ : ∃ X : Nat, x = (X : Int) := ⟨x.toNat, by omega⟩
    have hv : valB (X : Int) = true := by unfold valB; simp [hx]
    have HS := Lib.hid (members_any X (by omega))
    go_enter Try.func16, Try.ntmps16
    go_wp2_with fail
    refine (HV.out _).mono ?_
    rintro e w' ⟨rfl, rfl⟩
    go_wp2_with fail
    refine (HS.out _).mono ?_
    rintro e w' ⟨v, rfl, ho, hb⟩
    go_wp2_with fail
    go_ret
    exact ⟨_, rfl, ho, hb⟩
  · have hv : valB x = false := by unfold valB; simp only [hx, decide_false]
    have HE : Hid (mems x = []) := Lib.hid (by unfold mems; rw [if_neg hx])
    go_enter Try.func16, Try.ntmps16
    go_wp2_with fail
    refine (HV.out _).mono ?_
    rintro e w' ⟨rfl, rfl⟩
    go_wp2_with fail
    go_ret
    exact ⟨_, rfl, by rw [HE.out]; exact OwnI.none _ _, Below.refl _ _⟩

set_option maxHeartbeats 1600000 in
theorem implParts_any (n : Int) (w : World) :
    Calls Try.prog 24 #[.int .i64 n] w (RetI (parts n) w) := by
  obtain ⟨i0, hi, hz0, hz1, hz2⟩ := info_parts info3i
  have HI : Hid (_ ∧ _ ∧ _ ∧ _) := Lib.hid ⟨hi, hz0, hz1, hz2⟩
  clear hi hz0 hz1 hz2
  by_cases hn : 0 ≤ n ∧ n ≤ 5
  · obtain ⟨N, rfl⟩ : ∃ N : Nat, n = (N : Int) := ⟨n.toNat, by omega⟩
    have hN : N ≤ 5 := by omega
    have h1 : decide (0 ≤ (N : Int) ∧ (N : Int) ≤ 5) = true := by simp; omega
    have HE : Hid (parts (N : Int) = bySize N (N + 1)) := Lib.hid (by unfold parts; rw [if_pos hn]; rfl)
    obtain ⟨M, hM, hM31⟩ : ∃ M : Nat, M + 1 = 2 ^ N ∧ M ≤ 31 := by
      have : 2 ^ N ≤ 2 ^ 5 := Nat.pow_le_pow_right (by omega) hN
      have : 0 < 2 ^ N := Nat.pow_pos (by omega)
      exact ⟨2 ^ N - 1, by omega, by omega⟩
    have HM := Lib.hid hM
    have HA : Hid (∀ w, Calls Try.prog 42 #[.int .i64 (N : Int)] w fun e w' => e = .returned (.int .i64 (M : Int)) ∧ w = w') :=
      Lib.hid fun w => (first_any (N : Int) w hn.1 hn.2).mono fun _ _ ⟨a, b⟩ => ⟨by
        rw [a, show (N : Int).toNat = N from rfl, show ((2 : Int) ^ N - 1) = (M : Int) by
          have h3 : ((2 ^ N : Nat) : Int) = (2 : Int) ^ N := by rw [Int.natCast_pow]; rfl
          omega], b⟩
    have HIN : Hid (∀ w, Calls Try.prog 41 #[.int .i64 (N : Int)] w fun e w' => e = .returned (.bool true) ∧ w = w') := Lib.hid fun w => (colCount_any (N : Int) w).mono fun _ _ ⟨a, b⟩ => ⟨by rw [a, h1], b⟩
    have HS : Hid (∀ X : Nat, X ≤ M → ∀ w, _) := Lib.hid fun X hX w => size_any X (by omega) w
    clear hM hn h1
    go_enter Try.func24, Try.ntmps24
    go_wp2_with fail
    refine (HIN.out _).mono ?_
    rintro e w' ⟨rfl, rfl⟩
    go_wp2_with fail
    refine (HA.out _).mono ?_
    rintro e w' ⟨rfl, rfl⟩
    go_wp2_with (at_make; refine wpList_make_own _ rfl _ _ 29 rfl w.heap.size 3 i0 (.int .i64 0) 1 Try.underlying29 HI.out.1 HI.out.2.1 HI.out.2.2.1 .i64 .i64 _ (M + 1) rfl rfl (by omega) (by rw [HI.out.2.2.2]; omega) (by unfold maxLen; omega) (Nat.le_refl _) ?_; intro w0 hown0 hgrow0)
    have hb0 := (Below.refl w.heap.size w).grown hgrow0 (Nat.le_refl _) (by simp)
    have hown := OwnI.made hown0
    clear hown0 hgrow0
    go_loopw [4, 5] (fun ov sv wr => ∃ (s : Nat) (l : List Int), s ≤ N + 1 ∧ sv = .int .i64 (s : Int) ∧ Hid (l = bySize N s) ∧ OwnI wr w.heap.size ov l ∧ Below w.heap.size w wr) (fun _ sv _ => (N + 1 - intOf sv).toNat)
    case atStart => exact ⟨0, [], by omega, rfl, Lib.hid rfl, hown, hb0⟩
    case round =>
      obtain ⟨s, l, hs, rfl, hl, ho, hb⟩ := hrel
      by_cases hlt : s ≤ N
      · go_wp2_with fail
        obtain ⟨wo, rfl⟩ : ∃ wo : World, wo = wr := ⟨_, rfl⟩
        go_loopw [4, 6] (fun ov xv wr => ∃ (x : Nat) (l2 : List Int), x ≤ M + 1 ∧ xv = .int .i64 (x : Int) ∧ Hid (l2 = l ++ ofSize s x) ∧ OwnI wr w.heap.size ov l2 ∧ Below w.heap.size w wr) (fun _ xv _ => (M + 1 - intOf xv).toNat)
        case atStart => exact ⟨0, l, by omega, rfl, Lib.hid (by simp [ofSize]), ho, hb⟩
        case round =>
          clear ho hb
          obtain ⟨x, l2, hx, rfl, hl2, ho, hb⟩ := hrel
          have hll : l2.length ≤ 1000 := by
            rw [hl2.out, List.length_append, hl.out]
            have a1 := bySize_len N s
            have a2 := ofSize_len s x
            have a3 : s * 2 ^ N ≤ 5 * 32 := Nat.mul_le_mul (by omega) (by have := HM.out; omega)
            omega
          by_cases hxm : x ≤ M
          · by_cases hc : cnt (x : Int) = s
            · have heq : ((cnt (x : Int) : Int) == (s : Int)) = true := by simp [hc]
              have HCN := Lib.hid hc
              clear hc
              go_wp2_with fail
              refine (HS.out x hxm _).mono ?_
              rintro e w' ⟨rfl, rfl⟩
              go_wp2_with (at_builtin; refine wpList_append_own _ rfl _ _ 29 rfl w.heap.size 3 i0 (.int .i64 0) 1 8 Try.underlying29 HI.out.1 HI.out.2.1 HI.out.2.2.1 HI.out.2.2.2 rfl (by decide) _ _ _ rfl (World.ownsRow.alloc ho _) ⟨wr.heap.size, 0, none⟩ 1 1 [.int .i64 (x : Int)] rfl rfl (cell_one_new _ _ _) (one_i64 _) (by unfold maxLen; omega) (by omega) (le_alloc hb (Nat.le_refl _) _) ?_; intro v' w2 hown' hgrow _)
              have ho' := OwnI.snoc hown'
              have hb' := (hb.alloc hb.size (.cells #[.int .i64 (x : Int)] 3)).grown hgrow (by simp; have := hb.size; omega) (fun k hk => (OwnI.lt ho k hk).1)
              clear hown' hgrow
              go_wp2_with fail
              go_roundw
              case rel => exact ⟨x + 1, _, by omega, by go_num, Lib.hid (by rw [ofSize_succ, if_pos (by simp [HCN.out]), hl2.out, List.append_assoc]), ho', hb'⟩
              case measure => simp [intOf]; omega
            · have heq : ((cnt (x : Int) : Int) == (s : Int)) = false := by simp; omega
              have HCN := Lib.hid hc
              clear hc
              go_wp2_with fail
              refine (HS.out x hxm _).mono ?_
              rintro e w' ⟨rfl, rfl⟩
              go_wp2_with fail
              go_roundw
              case rel => exact ⟨x + 1, _, by omega, by go_num, Lib.hid (by rw [ofSize_succ, if_neg (by simp [HCN.out]), hl2.out]), ho, hb⟩
              case measure => simp [intOf]; omega
          · obtain rfl : x = M + 1 := by omega
            go_wp2_with fail
            go_roundw
            case rel => exact ⟨s + 1, _, by omega, by go_num, Lib.hid (by rw [bySize_succ, hl2.out, hl.out, HM.out]), ho, hb⟩
            case measure => simp [intOf]; omega
      · obtain rfl : s = N + 1 := by omega
        go_wp2_with fail
        go_ret
        exact ⟨_, rfl, by rw [HE.out, ← hl.out]; exact ho, hb⟩
  · have h1 : decide (0 ≤ n ∧ n ≤ 5) = false := by simp only [hn, decide_false]
    have HE : Hid (parts n = []) := Lib.hid (by unfold parts; rw [if_neg hn])
    have HIN : Hid (∀ w, Calls Try.prog 41 #[.int .i64 n] w fun e w' => e = .returned (.bool false) ∧ w = w') := Lib.hid fun w => (colCount_any n w).mono fun _ _ ⟨a, b⟩ => ⟨by rw [a, h1], b⟩
    clear hn
    go_enter Try.func24, Try.ntmps24
    go_wp2_with fail
    refine (HIN.out _).mono ?_
    rintro e w' ⟨rfl, rfl⟩
    go_wp2_with fail
    go_ret
    exact ⟨_, rfl, by rw [HE.out]; exact OwnI.none _ _, Below.refl _ _⟩
end Go.Proofs.Ytmlinjmjcfgijaa
