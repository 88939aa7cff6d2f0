/- Texts of this claim, merged: DepE, ImB, ImC, DdA, PcB. Conditions: as stated. -/
import Derived.Test.YtnbjcelfdppkcadGreatXz3
import Derived.Test.YtnbjcelfdppkcadGreatXz4
import Derived.Test.YtnbjcelfdppkcadGreatXz13
import Derived.Lib.OthersKept
import Derived.Test.YtnbjcelfdppkcadGreatXz5
namespace Go.Proofs.YtnbjcelfdppkcadGreat
open Go.RowKit

theorem fmtA_empty (x : Int) : (fmtA x).toList.isEmpty = !valB x := by
  rw [ByteArray.toList_eq]
  unfold fmtA valB
  by_cases h : 0 ≤ x ∧ x ≤ 31
  · rw [if_pos h, decide_eq_true h]
    split
    · rfl
    · next hl =>
      cases hq : lets x.toNat 5 with
      | nil => exact absurd hq hl
      | cons a b => rfl
  · rw [if_neg h, decide_eq_false h]; rfl
/-- The text of a dependency, empty if it has none. -/
def fmtD (l r : Int) : ByteArray := if valB l = true ∧ 0 ≤ r ∧ r ≤ 4 then fmtA l ++ ⟨#[62]⟩ ++ fmtA (2 ^ r.toNat : Nat) else ⟨#[]⟩
theorem fmtA_size (x : Int) : (fmtA x).size ≤ 5 := by
  rw [str_size]
  unfold fmtA
  split
  · split
    · decide
    · have := lets_len x.toNat 5; simpa using this
  · decide
end Go.Proofs.YtnbjcelfdppkcadGreat
namespace Go.Proofs.YtnbjcelfdppkcadGreat
open Go.RowKit

set_option maxHeartbeats 800000 in
theorem members_any (X : Nat) (hX : X < 32) (w : World) :
    Calls Tryz.prog 105 #[.int .i64 (X : Int)] w (RetI (mems (X : Int)) w) := by
  obtain ⟨i0, hi, hz0, hz1, hz2⟩ := info_parts info3i
  have HI : Hid (_ ∧ _ ∧ _ ∧ _) := Lib.hid ⟨hi, hz0, hz1, hz2⟩
  clear hi hz0 hz1 hz2
  have he : mems (X : Int) = memN X 5 := by unfold mems; rw [if_pos (by omega)]; rfl
  have HE := Lib.hid he
  clear he
  have HH := Lib.hid (fun (k : Nat) (hk : k ≤ 62) (w : World) => has_any X k hk w)
  go_enter Tryz.func105, Tryz.ntmps105
  go_wp2_with (at_make; refine wpList_make_own _ rfl _ _ 40 rfl w.heap.size 3 i0 (.int .i64 0) 1 Tryz.underlying40 HI.out.1 HI.out.2.1 HI.out.2.2.1 .i64 .i64 _ 5 rfl rfl (by omega) (by rw [HI.out.2.2.2]; omega) (by unfold maxLen; omega) (Nat.le_refl _) ?_; intro w0 hown0 hgrow0)
  have hb0 := (Below.refl w.heap.size w).grown hgrow0 (Nat.le_refl _) (by simp)
  have hown := OwnI.made hown0
  clear hown0 hgrow0
  go_loopw [3, 4] (fun ov iv wr => ∃ (k : Nat) (l : List Int), k ≤ 5 ∧ iv = .int .i64 (k : Int) ∧ Hid (l = memN X k) ∧ OwnI wr w.heap.size ov l ∧ Below w.heap.size w wr) (fun _ iv _ => (5 - intOf iv).toNat)
  case atStart => exact ⟨0, [], by omega, rfl, Lib.hid rfl, hown, hb0⟩
  case round =>
    obtain ⟨k, l, hk, rfl, hl, ho, hb⟩ := hrel
    by_cases hlt : k < 5
    · have hll : l.length ≤ 5 := by rw [hl.out]; have := memN_len X k; omega
      by_cases hB : bitB X k = true
      · go_wp2_with fail
        refine (HH.out k (by omega) _).mono ?_
        rintro e w' ⟨rfl, rfl⟩
        go_wp2_with (at_builtin; refine wpList_append_own _ rfl _ _ 40 rfl w.heap.size 3 i0 (.int .i64 0) 1 8 Tryz.underlying40 HI.out.1 HI.out.2.1 HI.out.2.2.1 HI.out.2.2.2 rfl (by decide) _ _ _ rfl (World.ownsRow.alloc ho _) ⟨wr.heap.size, 0, none⟩ 1 1 [.int .i64 (k : Int)] rfl rfl (cell_one_new _ _ _) (one_i64 _) (by unfold maxLen; omega) (by omega) (le_alloc hb (Nat.le_refl _) _) ?_; intro v' w1 hown' hgrow _)
        have ho' := OwnI.snoc hown'
        have hb' := (hb.alloc hb.size (.cells #[.int .i64 (k : Int)] 3)).grown hgrow (by simp; have := hb.size; omega) (fun k hk => (OwnI.lt ho k hk).1)
        clear hown' hgrow
        go_wp2_with fail
        go_roundw
        case rel => exact ⟨k + 1, _, by omega, by go_num, Lib.hid (by rw [memN_succ, if_pos hB, ← hl.out]), ho', hb'⟩
        case measure => simp [intOf]; omega
      · have hB2 : bitB X k = false := by simpa using hB
        go_wp2_with fail
        refine (HH.out k (by omega) _).mono ?_
        rintro e w' ⟨rfl, rfl⟩
        go_wp2_with fail
        go_roundw
        case rel => exact ⟨k + 1, _, by omega, by go_num, Lib.hid (by rw [memN_succ, if_neg hB, ← hl.out]), ho, hb⟩
        case measure => simp [intOf]; omega
    · obtain rfl : k = 5 := by omega
      go_wp2_with fail
      go_ret
      exact ⟨_, rfl, by rw [HE.out, ← hl.out]; exact ho, hb⟩
theorem OwnI.none (w : World) (B : Nat) : OwnI w B (.slice .none 0 0) [] := World.ownsRow_nil _ _ _ _
set_option maxHeartbeats 1600000 in
theorem implParts_any (n : Int) (w : World) :
    Calls Tryz.prog 116 #[.int .i64 n] w (RetI (parts n) w) := by
  obtain ⟨i0, hi, hz0, hz1, hz2⟩ := info_parts info3i
  have HI : Hid (_ ∧ _ ∧ _ ∧ _) := Lib.hid ⟨hi, hz0, hz1, hz2⟩
  clear hi hz0 hz1 hz2
  by_cases hn : 0 ≤ n ∧ n ≤ 5
  · obtain ⟨N, rfl⟩ : ∃ N : Nat, n = (N : Int) := ⟨n.toNat, by omega⟩
    have hN : N ≤ 5 := by omega
    have h1 : decide (0 ≤ (N : Int) ∧ (N : Int) ≤ 5) = true := by simp; omega
    have HE : Hid (parts (N : Int) = bySize N (N + 1)) := Lib.hid (by unfold parts; rw [if_pos hn]; rfl)
    obtain ⟨M, hM, hM31⟩ : ∃ M : Nat, M + 1 = 2 ^ N ∧ M ≤ 31 := by
      have : 2 ^ N ≤ 2 ^ 5 := Nat.pow_le_pow_right (by omega) hN
      have : 0 < 2 ^ N := Nat.pow_pos (by omega)
      exact ⟨2 ^ N - 1, by omega, by omega⟩
    have HM := Lib.hid hM
    have HA : Hid (∀ w, Calls Tryz.prog 61 #[.int .i64 (N : Int)] w fun e w' => e = .returned (.int .i64 (M : Int)) ∧ w = w') :=
      Lib.hid fun w => (first_any (N : Int) w hn.1 hn.2).mono fun _ _ ⟨a, b⟩ => ⟨by
        rw [a, show (N : Int).toNat = N from rfl, show ((2 : Int) ^ N - 1) = (M : Int) by
          have h3 : ((2 ^ N : Nat) : Int) = (2 : Int) ^ N := by rw [Int.natCast_pow]; rfl
          omega], b⟩
    have HIN : Hid (∀ w, Calls Tryz.prog 42 #[.int .i64 (N : Int)] w fun e w' => e = .returned (.bool true) ∧ w = w') := Lib.hid fun w => (colCount_any (N : Int) w).mono fun _ _ ⟨a, b⟩ => ⟨by rw [a, h1], b⟩
    have HS : Hid (∀ X : Nat, X ≤ M → ∀ w, _) := Lib.hid fun X hX w => size_any X (by omega) w
    clear hM hn h1
    go_enter Tryz.func116, Tryz.ntmps116
    go_wp2_with fail
    refine (HIN.out _).mono ?_
    rintro e w' ⟨rfl, rfl⟩
    go_wp2_with fail
    refine (HA.out _).mono ?_
    rintro e w' ⟨rfl, rfl⟩
    go_wp2_with (at_make; refine wpList_make_own _ rfl _ _ 40 rfl w.heap.size 3 i0 (.int .i64 0) 1 Tryz.underlying40 HI.out.1 HI.out.2.1 HI.out.2.2.1 .i64 .i64 _ (M + 1) rfl rfl (by omega) (by rw [HI.out.2.2.2]; omega) (by unfold maxLen; omega) (Nat.le_refl _) ?_; intro w0 hown0 hgrow0)
    have hb0 := (Below.refl w.heap.size w).grown hgrow0 (Nat.le_refl _) (by simp)
    have hown := OwnI.made hown0
    clear hown0 hgrow0
    go_loopw [4, 5] (fun ov sv wr => ∃ (s : Nat) (l : List Int), s ≤ N + 1 ∧ sv = .int .i64 (s : Int) ∧ Hid (l = bySize N s) ∧ OwnI wr w.heap.size ov l ∧ Below w.heap.size w wr) (fun _ sv _ => (N + 1 - intOf sv).toNat)
    case atStart => exact ⟨0, [], by omega, rfl, Lib.hid rfl, hown, hb0⟩
    case round =>
      obtain ⟨s, l, hs, rfl, hl, ho, hb⟩ := hrel
      by_cases hlt : s ≤ N
      · go_wp2_with fail
        obtain ⟨wo, rfl⟩ : ∃ wo : World, wo = wr := ⟨_, rfl⟩
        go_loopw [4, 6] (fun ov xv wr => ∃ (x : Nat) (l2 : List Int), x ≤ M + 1 ∧ xv = .int .i64 (x : Int) ∧ Hid (l2 = l ++ ofSize s x) ∧ OwnI wr w.heap.size ov l2 ∧ Below w.heap.size w wr) (fun _ xv _ => (M + 1 - intOf xv).toNat)
        case atStart => exact ⟨0, l, by omega, rfl, Lib.hid (by simp [ofSize]), ho, hb⟩
        case round =>
          clear ho hb
          obtain ⟨x, l2, hx, rfl, hl2, ho, hb⟩ := hrel
          have hll : l2.length ≤ 1000 := by
            rw [hl2.out, List.length_append, hl.out]
            have a1 := bySize_len N s
            have a2 := ofSize_len s x
            have a3 : s * 2 ^ N ≤ 5 * 32 := Nat.mul_le_mul (by omega) (by have := HM.out; omega)
            omega
          by_cases hxm : x ≤ M
          · by_cases hc : cnt (x : Int) = s
            · have heq : ((cnt (x : Int) : Int) == (s : Int)) = true := by simp [hc]
              have HCN := Lib.hid hc
              clear hc
              go_wp2_with fail
              refine (HS.out x hxm _).mono ?_
              rintro e w' ⟨rfl, rfl⟩
              go_wp2_with (at_builtin; refine wpList_append_own _ rfl _ _ 40 rfl w.heap.size 3 i0 (.int .i64 0) 1 8 Tryz.underlying40 HI.out.1 HI.out.2.1 HI.out.2.2.1 HI.out.2.2.2 rfl (by decide) _ _ _ rfl (World.ownsRow.alloc ho _) ⟨wr.heap.size, 0, none⟩ 1 1 [.int .i64 (x : Int)] rfl rfl (cell_one_new _ _ _) (one_i64 _) (by unfold maxLen; omega) (by omega) (le_alloc hb (Nat.le_refl _) _) ?_; intro v' w2 hown' hgrow _)
              have ho' := OwnI.snoc hown'
              have hb' := (hb.alloc hb.size (.cells #[.int .i64 (x : Int)] 3)).grown hgrow (by simp; have := hb.size; omega) (fun k hk => (OwnI.lt ho k hk).1)
              clear hown' hgrow
              go_wp2_with fail
              go_roundw
              case rel => exact ⟨x + 1, _, by omega, by go_num, Lib.hid (by rw [ofSize_succ, if_pos (by simp [HCN.out]), hl2.out, List.append_assoc]), ho', hb'⟩
              case measure => simp [intOf]; omega
            · have heq : ((cnt (x : Int) : Int) == (s : Int)) = false := by simp; omega
              have HCN := Lib.hid hc
              clear hc
              go_wp2_with fail
              refine (HS.out x hxm _).mono ?_
              rintro e w' ⟨rfl, rfl⟩
              go_wp2_with fail
              go_roundw
              case rel => exact ⟨x + 1, _, by omega, by go_num, Lib.hid (by rw [ofSize_succ, if_neg (by simp [HCN.out]), hl2.out]), ho, hb⟩
              case measure => simp [intOf]; omega
          · obtain rfl : x = M + 1 := by omega
            go_wp2_with fail
            go_roundw
            case rel => exact ⟨s + 1, _, by omega, by go_num, Lib.hid (by rw [bySize_succ, hl2.out, hl.out, HM.out]), ho, hb⟩
            case measure => simp [intOf]; omega
      · obtain rfl : s = N + 1 := by omega
        go_wp2_with fail
        go_ret
        exact ⟨_, rfl, by rw [HE.out, ← hl.out]; exact ho, hb⟩
  · have h1 : decide (0 ≤ n ∧ n ≤ 5) = false := by simp only [hn, decide_false]
    have HE : Hid (parts n = []) := Lib.hid (by unfold parts; rw [if_neg hn])
    have HIN : Hid (∀ w, Calls Tryz.prog 42 #[.int .i64 n] w fun e w' => e = .returned (.bool false) ∧ w = w') := Lib.hid fun w => (colCount_any n w).mono fun _ _ ⟨a, b⟩ => ⟨by rw [a, h1], b⟩
    clear hn
    go_enter Tryz.func116, Tryz.ntmps116
    go_wp2_with fail
    refine (HIN.out _).mono ?_
    rintro e w' ⟨rfl, rfl⟩
    go_wp2_with fail
    go_ret
    exact ⟨_, rfl, by rw [HE.out]; exact OwnI.none _ _, Below.refl _ _⟩
end Go.Proofs.YtnbjcelfdppkcadGreat
namespace Go.Proofs.YtnbjcelfdppkcadGreat
open Go.RowKit

theorem info8s : (Tryz.prog.info? 5).map (fun i => (i.zero, i.size, i.bytes)) = some (some (.int .u8 0), 1, 1) := by kernel_rfl
/-- The letters of columns. -/
def ltr (l : List Int) : List UInt8 := l.map fun i => UInt8.ofNat (65 + i).toNat
theorem ltr_take {l : List Int} {k : Nat} (h : k < l.length) : ltr (l.take (k + 1)) = ltr (l.take k) ++ [UInt8.ofNat (65 + l[k]).toNat] := by
  unfold ltr; rw [List.take_succ_eq_append_getElem h, List.map_append]; rfl
theorem ltr_len (l : List Int) (k : Nat) : (ltr (l.take k)).length ≤ k := by
  unfold ltr; rw [List.length_map]; exact List.length_take_le _ _
theorem ltr_fmt : ∀ X : Fin 32, X.val ≠ 0 → (⟨(ltr (mems ((X.val : Nat) : Int))).toArray⟩ : ByteArray) = fmtA ((X.val : Nat) : Int) := by
  intro X h
  apply str_ext
  revert X
  decide +kernel
theorem own_apart {w : World} {B B' : Nat} {v v' : Value} {l : List UInt8} {l' : List Int} (h : OwnB w B 5 v l) (h' : OwnI w B' v' l') : ∀ g, v.ownBlock = some g → v'.ownBlock ≠ some g := by
  intro g hg hg'
  rcases h.2 with ⟨rfl, _⟩ | ⟨g1, cap, cur, rfl, hB, hgg, rest⟩
  · cases hg
  · rcases h'.2 with ⟨rfl, _⟩ | ⟨g2, cap2, cur2, rfl, hB2, hgg2, rest2⟩
    · cases hg'
    · simp [Value.ownBlock] at hg hg'
      subst hg hg'
      rw [hgg] at hgg2
      simp at hgg2
end Go.Proofs.YtnbjcelfdppkcadGreat
namespace Go.Proofs.YtnbjcelfdppkcadGreat
open Go.RowKit

theorem isA_cols {n x : Int} (h : isA n x = true) : 0 ≤ n ∧ n ≤ 5 := by unfold isA at h; rw [decide_eq_true_iff] at h; exact h.1
theorem depB_eq (n l r : Int) : depB n l r = (isA n l && (decide (0 ≤ r) && decide (r < n))) := by
  rw [Bool.eq_iff_iff, depB_iff, Bool.and_eq_true, Bool.and_eq_true, decide_eq_true_iff, decide_eq_true_iff]
  constructor
  · rintro ⟨h1, h2, h3, h4⟩; exact ⟨h2, h3, by omega⟩
  · rintro ⟨h1, h2, h3⟩
    have hn := isA_cols h1
    exact ⟨by omega, h1, h2, by omega⟩
set_option maxHeartbeats 800000 in
theorem implIsDep_all (n l r : Int) (_w1 : (Lit.int .i64 l).wf = true) (w : World) :
    Calls Tryz.prog 32 #[.int .i64 n, .agg #[.int .i64 l, .int .i64 r]] w fun e w' => e = .returned (.bool (depB n l r)) ∧ Below w.heap.size w w' := by
  have hb1 := (Below.refl w.heap.size w).alloc (Nat.le_refl _) (.cells #[.int .i64 l, .int .i64 r] 35)
  obtain ⟨c0, c1⟩ := zero2 w 35 (.int .i64 l) (.int .i64 r)
  have HBX := Lib.hid (fun w' (hb : Below (w.alloc (.cells #[.int .i64 l, .int .i64 r] 35)).heap.size (w.alloc (.cells #[.int .i64 l, .int .i64 r] 35)) w') => And.intro (hb1.trans (hb.mono hb1.size)) (box2 hb))
  have HA := Lib.hid (implIsA_any n l (wf_i64_ge _w1) (wf_i64_le _w1))
  have hE := depB_eq n l r
  cases ha : isA n l with
  | false =>
    rw [ha] at HA hE
    have HE : Hid (depB n l r = false) := Lib.hid (by rw [hE]; rfl)
    clear hE ha
    go_enter Tryz.func32, Tryz.ntmps32
    go_wp2_with fail
    refine (HA.out _).mono ?_
    rintro e w1 ⟨rfl, b1⟩
    obtain ⟨hb2, d0, d1⟩ := HBX.out _ b1
    clear b1 c0 c1
    go_wp2_with fail
    go_ret
    exact ⟨ret_b HE.out, hb2⟩
  | true =>
    rw [ha] at HA hE
    rw [Bool.true_and] at hE
    by_cases h0 : 0 ≤ r
    · by_cases h1 : r < n
      · have HE : Hid (depB n l r = true) := Lib.hid (by rw [hE, decide_eq_true h0, decide_eq_true h1]; rfl)
        clear hE ha
        go_enter Tryz.func32, Tryz.ntmps32
        go_wp2_with fail
        refine (HA.out _).mono ?_
        rintro e w1 ⟨rfl, b1⟩
        obtain ⟨hb2, d0, d1⟩ := HBX.out _ b1
        clear b1 c0 c1
        go_wp2_with fail
        go_ret
        exact ⟨ret_b HE.out, hb2⟩
      · have HE : Hid (depB n l r = false) := Lib.hid (by rw [hE, decide_eq_false h1]; simp)
        clear hE ha
        go_enter Tryz.func32, Tryz.ntmps32
        go_wp2_with fail
        refine (HA.out _).mono ?_
        rintro e w1 ⟨rfl, b1⟩
        obtain ⟨hb2, d0, d1⟩ := HBX.out _ b1
        clear b1 c0 c1
        go_wp2_with fail
        go_ret
        exact ⟨ret_b (by rw [HE.out, decide_eq_false (Int.not_lt.2 h1)]), hb2⟩
    · have HE : Hid (depB n l r = false) := Lib.hid (by rw [hE, decide_eq_false h0]; rfl)
      clear hE ha
      go_enter Tryz.func32, Tryz.ntmps32
      go_wp2_with fail
      refine (HA.out _).mono ?_
      rintro e w1 ⟨rfl, b1⟩
      obtain ⟨hb2, d0, d1⟩ := HBX.out _ b1
      clear b1 c0 c1
      go_wp2_with fail
      go_ret
      exact ⟨ret_b HE.out, hb2⟩
theorem implIsDep_any (n l r : Int) (_w0 : (Lit.int .i64 n).wf = true) (_w1 : (Lit.int .i64 l).wf = true) (_w2 : (Lit.int .i64 r).wf = true) (w : World) :
    Calls Tryz.prog 32 #[.int .i64 n, .agg #[.int .i64 l, .int .i64 r]] w fun e w' => e = .returned (.bool (depB n l r)) ∧ Below w.heap.size w w' := implIsDep_all n l r _w1 w
theorem depB_five {l r : Int} (h : depB 5 l r = true) : ∃ L R : Nat, l = (L : Int) ∧ r = (R : Int) ∧ L < 32 ∧ R ≤ 4 := by
  rw [depB_iff] at h
  obtain ⟨-, h2, h3, h4⟩ := h
  unfold isA at h2
  rw [decide_eq_true_iff] at h2
  obtain ⟨-, h5, h6⟩ := h2
  have h7 : l ≤ 31 := h6
  exact ⟨l.toNat, r.toNat, by omega, by omega, by omega, by omega⟩
theorem fmtD_dep (l r : Int) : fmtD l r = if depB 5 l r = true then fmtA l ++ ⟨#[62]⟩ ++ fmtA (2 ^ r.toNat : Nat) else ⟨#[]⟩ := by
  have h : (depB 5 l r = true) ↔ (valB l = true ∧ 0 ≤ r ∧ r ≤ 4) := by
    rw [depB_iff]
    unfold isA valB
    rw [decide_eq_true_iff, decide_eq_true_iff]
    have : (2 : Int) ^ (5 : Int).toNat - 1 = 31 := rfl
    rw [this]
    constructor
    · rintro ⟨-, ⟨-, h1⟩, h2, h3⟩; exact ⟨h1, h2, by omega⟩
    · rintro ⟨h1, h2, h3⟩; exact ⟨by omega, ⟨by omega, h1⟩, h2, by omega⟩
  unfold fmtD
  by_cases h' : depB 5 l r = true
  · rw [if_pos h', if_pos (h.1 h')]
  · rw [if_neg h', if_neg (fun e => h' (h.2 e))]
end Go.Proofs.YtnbjcelfdppkcadGreat
namespace Go.Proofs.YtnbjcelfdppkcadGreat
open Go.RowKit

section
set_option maxRecDepth 20000
set_option maxHeartbeats 3200000
theorem partP_sub {L X : Nat} (hL : L < 32) (hX : X < 32) (w : World) : Calls Tryz.prog 97 #[.int .i64 (L : Int), .int .i64 (X : Int)] w fun e w' => e = .returned (.bool (subN L X)) ∧ w = w' := by
  have h := partOf_any (L : Int) (X : Int) w
  rw [partZ_eq (L : Int) (X : Int) (by omega) (by omega), sub_and ⟨L, hL⟩ ⟨X, hX⟩] at h
  exact h
theorem applies10_any (L X : Nat) (r : Int) (hL : L < 32) (hX : X < 32) (w : World) :
    Calls Tryz.prog 89 #[.agg #[.int .i64 (L : Int), .int .i64 r], .int .i64 (X : Int)] w fun e w' => e = .returned (.bool (subN L X)) ∧ Below w.heap.size w w' := by
  have HB := Lib.hid ((Below.refl w.heap.size w).alloc (Nat.le_refl _) (.cells #[.int .i64 (L : Int), .int .i64 r] 35))
  obtain ⟨c0, c1⟩ := zero2 w 35 (.int .i64 (L : Int)) (.int .i64 r)
  have HP := Lib.hid (fun w' => partP_sub hL hX w')
  clear hL hX
  go_enter Tryz.func89, Tryz.ntmps89
  go_wp2_with fail
  refine (HP.out _).mono ?_
  rintro e w' ⟨rfl, rfl⟩
  go_wp2_with fail
  go_ret
  exact ⟨rfl, HB.out⟩
theorem added10_any (X R : Nat) (l : Int) (hX : X < 32) (hR : R < 5) (w : World) :
    Calls Tryz.prog 98 #[.agg #[.int .i64 l, .int .i64 (R : Int)], .int .i64 (X : Int)] w fun e w' => e = .returned (.int .i64 (orN X R : Int)) ∧ Below w.heap.size w w' := by
  have HB := Lib.hid ((Below.refl w.heap.size w).alloc (Nat.le_refl _) (.cells #[.int .i64 l, .int .i64 (R : Int)] 35))
  obtain ⟨c0, c1⟩ := zero2 w 35 (.int .i64 l) (.int .i64 (R : Int))
  have HOW : Hid (bits .or .i64 (X : Int) (wrap64 (2 ^ R)) = (orN X R : Int)) := Lib.hid (or_w ⟨X, hX⟩ ⟨R, hR⟩)
  have zR : (0 : Int) ≤ (R : Int) := by omega
  clear hX
  go_enter Tryz.func98, Tryz.ntmps98
  go_wp2_with fail
  go_ret
  exact ⟨ret_int HOW.out, HB.out⟩
theorem outside10_any (n l r : Int) (_w1 : (Lit.int .i64 l).wf = true) (w : World) :
    Calls Tryz.prog 60 #[.agg #[.int .i64 l, .int .i64 r], .int .i64 n] w fun e w' => e = .returned (.bool (!depB n l r)) ∧ Below w.heap.size w w' := by
  have HB := Lib.hid ((Below.refl w.heap.size w).alloc (Nat.le_refl _) (.cells #[.int .i64 l, .int .i64 r] 35))
  obtain ⟨c0, c1⟩ := zero2 w 35 (.int .i64 l) (.int .i64 r)
  have HP := Lib.hid (fun w' => implIsDep_all n l r _w1 w')
  go_enter Tryz.func60, Tryz.ntmps60
  go_wp2_with fail
  refine (HP.out _).mono ?_
  rintro e w2 ⟨rfl, b2⟩
  have hb2 := HB.out.trans (b2.mono HB.out.size)
  clear b2 c0 c1
  go_wp2_with fail
  go_ret
  exact ⟨rfl, hb2⟩
theorem enlarges10_any (L R X : Nat) (hL : L < 32) (hR : R < 5) (hX : X < 32) (w : World) :
    Calls Tryz.prog 53 #[.agg #[.int .i64 (L : Int), .int .i64 (R : Int)], .int .i64 (X : Int)] w fun e w' => e = .returned (.bool (subN L X && !bitB X R)) ∧ Below w.heap.size w w' := by
  have hb1 := (Below.refl w.heap.size w).alloc (Nat.le_refl _) (.cells #[.int .i64 (L : Int), .int .i64 (R : Int)] 35)
  have HB := Lib.hid hb1
  obtain ⟨c0, c1⟩ := zero2 w 35 (.int .i64 (L : Int)) (.int .i64 (R : Int))
  have HC := Lib.hid (And.intro c0 c1)
  have HP := Lib.hid (fun w' => applies10_any L X (R : Int) hL hX w')
  have HH := Lib.hid (fun w' => has_any X R (by omega) w')
  clear hb1 hL hX hR
  cases hs : subN L X with
  | false =>
    rw [hs] at HP
    clear hs
    go_enter Tryz.func53, Tryz.ntmps53
    go_wp2_with fail
    refine (HP.out _).mono ?_
    rintro e w2 ⟨rfl, b2⟩
    have hb2 := HB.out.trans (b2.mono HB.out.size)
    clear b2 c0 c1
    go_wp2_with fail
    go_ret
    exact ⟨rfl, hb2⟩
  | true =>
    rw [hs] at HP
    clear hs
    go_enter Tryz.func53, Tryz.ntmps53
    go_wp2_with fail
    refine (HP.out _).mono ?_
    rintro e w2 ⟨rfl, b2⟩
    have d0 := keep_in HC.out.1 b2
    have d1 := keep_in HC.out.2 b2
    have hb2 := HB.out.trans (b2.mono HB.out.size)
    clear b2 c0 c1
    go_wp2_with fail
    refine (HH.out _).mono ?_
    rintro e w3 ⟨rfl, rfl⟩
    go_wp2_with fail
    go_ret
    exact ⟨ret_b (by rw [Bool.true_and]), hb2⟩
/-- The index of the first element with a property, or -1. -/
def ixZ {α : Type} (p : α → Bool) (l : List α) : Int := if l.findIdx p < l.length then (l.findIdx p : Int) else -1
theorem ixZ_at {p : Int × Int → Bool} {l : List (Int × Int)} {i : Nat} (hi : i < l.length) (h : p (l.getD i (0, 0)) = true) (hn : ∀ j, j < i → p (l.getD j (0, 0)) = false) : ixZ p l = (i : Int) := by
  have hg : ∀ j (hj : j < l.length), l.getD j (0, 0) = l[j] := fun j hj => by rw [List.getD_eq_getElem?_getD, List.getElem?_eq_getElem hj]; rfl
  have e : l.findIdx p = i := by
    rw [List.findIdx_eq hi]
    refine ⟨by rw [← hg i hi]; exact h, fun j hj => ?_⟩
    rw [← hg j (by omega)]; exact hn j hj
  unfold ixZ
  rw [e, if_pos hi]
theorem ixZ_none {p : Int × Int → Bool} {l : List (Int × Int)} (hn : ∀ j, j < l.length → p (l.getD j (0, 0)) = false) : ixZ p l = -1 := by
  unfold ixZ
  rw [if_neg]
  intro h
  have h1 := List.findIdx_getElem (w := h)
  have h2 := hn _ h
  rw [List.getD_eq_getElem?_getD, List.getElem?_eq_getElem h] at h2
  have : p l[l.findIdx p] = false := h2
  rw [this] at h1
  cases h1
theorem ixZ_neg {p : Int × Int → Bool} {l : List (Int × Int)} : decide (ixZ p l < 0) = l.all (fun d => !p d) := by
  unfold ixZ
  split
  · rename_i h
    have h1 := List.findIdx_getElem (w := h)
    have e : l.all (fun d => !p d) = false := by
      rw [List.all_eq_false]
      exact ⟨_, List.getElem_mem h, by rw [h1]; decide⟩
    rw [e]
    exact decide_eq_false (by omega)
  · rename_i h
    have e : l.all (fun d => !p d) = true := by
      rw [List.all_eq_true]
      intro d hd
      cases hp : p d with
      | false => rfl
      | true => exact absurd (List.findIdx_lt_length_of_exists ⟨d, hd, hp⟩) h
    rw [e]
    exact decide_eq_true (by omega)
theorem index_out (v c1 c2 : Value) (p : Int × Int → Bool) (l : List (Int × Int)) (w : World) (hr : ReadD w v l) (hl : l.length ≤ 1048576)
    (HP : ∀ x, x ∈ l → ∀ w', Below w.heap.size w w' → Calls Tryz.prog 91 #[.agg #[.int .i64 x.1, .int .i64 x.2], c1, c2] w' fun e w'' => e = .returned (.bool (p x)) ∧ Below w'.heap.size w' w'') :
    Calls Tryz.prog 81 #[v, .func (.func 91) #[] #[c1, c2]] w fun e w' => e = .returned (.int .i64 (ixZ p l)) ∧ Below w.heap.size w w' := by
  have HQ := Lib.hid HP
  obtain ⟨a, cap, rfl, ha⟩ := hr
  have HA := Lib.hid ha
  clear ha HP
  go_enter Tryz.func81, Tryz.ntmps81
  go_wp2_with fail
  go_loopw [8] (fun iv wr => ∃ (k : Nat), k ≤ l.length ∧ iv = .int .i64 (k : Int) ∧ Hid (∀ j, j < k → p (l.getD j (0, 0)) = false) ∧ Below w.heap.size w wr) (fun iv _ => l.length - (intOf iv).toNat)
  case atStart => exact ⟨0, by omega, rfl, Lib.hid (fun j hj => absurd hj (by omega)), Below.refl _ _⟩
  case round =>
    obtain ⟨k, hk, rfl, hno, hb⟩ := hrel
    by_cases hlt : k < l.length
    · obtain ⟨b, o, rfl, h0, h1⟩ := HA.out k hlt
      replace h0 := (hb.cell (World.block_lt_of_cell? w _ h0)).trans h0
      replace h1 := (hb.cell (World.block_lt_of_cell? w _ h1)).trans h1
      have hm : l.getD k (0, 0) ∈ l := by rw [List.getD_eq_getElem?_getD, List.getElem?_eq_getElem hlt]; exact List.getElem_mem hlt
      obtain ⟨⟨y0, y1⟩, hy⟩ : ∃ y, y = l.getD k (0, 0) := ⟨_, rfl⟩
      have HNO : Hid (p (y0, y1) = false → ∀ j, j < k + 1 → p (l.getD j (0, 0)) = false) := Lib.hid (fun h j hj => by
        by_cases e : j = k
        · subst e; rw [← hy]; exact h
        · exact hno.out j (by omega))
      have HYE : Hid (p (y0, y1) = true → ixZ p l = (k : Int)) := Lib.hid (fun h => ixZ_at hlt (by rw [← hy]; exact h) hno.out)
      rw [← hy] at h0 h1 hm
      simp only at h0 h1
      have HC := Lib.hid (HQ.out (y0, y1) hm)
      have HB := Lib.hid hb
      clear hy hm hb
      have z0 : (0 : Int) ≤ (k : Int) := by omega
      have z1 : (k : Int) < (l.length : Int) := by omega
      cases hp : p (y0, y1) with
      | true =>
        have HE := Lib.hid (HYE.out hp)
        rw [hp] at HC
        clear hp
        go_wp2_with fail
        refine (HC.out _ HB.out).mono ?_
        rintro e w1 ⟨rfl, b1⟩
        have hb1 := HB.out.trans (b1.mono HB.out.size)
        clear b1 h0 h1
        go_wp2_with fail
        go_ret
        exact ⟨ret_int HE.out.symm, hb1⟩
      | false =>
        have HE := Lib.hid (HNO.out hp)
        rw [hp] at HC
        clear hp
        go_wp2_with fail
        refine (HC.out _ HB.out).mono ?_
        rintro e w1 ⟨rfl, b1⟩
        have hb1 := HB.out.trans (b1.mono HB.out.size)
        clear b1 h0 h1
        go_wp2_with fail
        go_roundw
        case rel => exact ⟨k + 1, by omega, by go_num, HE, hb1⟩
        case measure => simp [intOf]; omega
    · obtain rfl : k = l.length := by omega
      have HE := Lib.hid (ixZ_none hno.out)
      go_wp2_with fail
      go_ret
      exact ⟨ret_int HE.out.symm, hb⟩
theorem index_enl (v c1 c2 : Value) (p : Int × Int → Bool) (l : List (Int × Int)) (w : World) (hr : ReadD w v l) (hl : l.length ≤ 1048576)
    (HP : ∀ x, x ∈ l → ∀ w', Below w.heap.size w w' → Calls Tryz.prog 92 #[.agg #[.int .i64 x.1, .int .i64 x.2], c1, c2] w' fun e w'' => e = .returned (.bool (p x)) ∧ Below w'.heap.size w' w'') :
    Calls Tryz.prog 81 #[v, .func (.func 92) #[] #[c1, c2]] w fun e w' => e = .returned (.int .i64 (ixZ p l)) ∧ Below w.heap.size w w' := by
  have HQ := Lib.hid HP
  obtain ⟨a, cap, rfl, ha⟩ := hr
  have HA := Lib.hid ha
  clear ha HP
  go_enter Tryz.func81, Tryz.ntmps81
  go_wp2_with fail
  go_loopw [8] (fun iv wr => ∃ (k : Nat), k ≤ l.length ∧ iv = .int .i64 (k : Int) ∧ Hid (∀ j, j < k → p (l.getD j (0, 0)) = false) ∧ Below w.heap.size w wr) (fun iv _ => l.length - (intOf iv).toNat)
  case atStart => exact ⟨0, by omega, rfl, Lib.hid (fun j hj => absurd hj (by omega)), Below.refl _ _⟩
  case round =>
    obtain ⟨k, hk, rfl, hno, hb⟩ := hrel
    by_cases hlt : k < l.length
    · obtain ⟨b, o, rfl, h0, h1⟩ := HA.out k hlt
      replace h0 := (hb.cell (World.block_lt_of_cell? w _ h0)).trans h0
      replace h1 := (hb.cell (World.block_lt_of_cell? w _ h1)).trans h1
      have hm : l.getD k (0, 0) ∈ l := by rw [List.getD_eq_getElem?_getD, List.getElem?_eq_getElem hlt]; exact List.getElem_mem hlt
      obtain ⟨⟨y0, y1⟩, hy⟩ : ∃ y, y = l.getD k (0, 0) := ⟨_, rfl⟩
      have HNO : Hid (p (y0, y1) = false → ∀ j, j < k + 1 → p (l.getD j (0, 0)) = false) := Lib.hid (fun h j hj => by
        by_cases e : j = k
        · subst e; rw [← hy]; exact h
        · exact hno.out j (by omega))
      have HYE : Hid (p (y0, y1) = true → ixZ p l = (k : Int)) := Lib.hid (fun h => ixZ_at hlt (by rw [← hy]; exact h) hno.out)
      rw [← hy] at h0 h1 hm
      simp only at h0 h1
      have HC := Lib.hid (HQ.out (y0, y1) hm)
      have HB := Lib.hid hb
      clear hy hm hb
      have z0 : (0 : Int) ≤ (k : Int) := by omega
      have z1 : (k : Int) < (l.length : Int) := by omega
      cases hp : p (y0, y1) with
      | true =>
        have HE := Lib.hid (HYE.out hp)
        rw [hp] at HC
        clear hp
        go_wp2_with fail
        refine (HC.out _ HB.out).mono ?_
        rintro e w1 ⟨rfl, b1⟩
        have hb1 := HB.out.trans (b1.mono HB.out.size)
        clear b1 h0 h1
        go_wp2_with fail
        go_ret
        exact ⟨ret_int HE.out.symm, hb1⟩
      | false =>
        have HE := Lib.hid (HNO.out hp)
        rw [hp] at HC
        clear hp
        go_wp2_with fail
        refine (HC.out _ HB.out).mono ?_
        rintro e w1 ⟨rfl, b1⟩
        have hb1 := HB.out.trans (b1.mono HB.out.size)
        clear b1 h0 h1
        go_wp2_with fail
        go_roundw
        case rel => exact ⟨k + 1, by omega, by go_num, HE, hb1⟩
        case measure => simp [intOf]; omega
    · obtain rfl : k = l.length := by omega
      have HE := Lib.hid (ixZ_none hno.out)
      go_wp2_with fail
      go_ret
      exact ⟨ret_int HE.out.symm, hb⟩
theorem outFun_any (n l r : Int) (_w1 : (Lit.int .i64 l).wf = true) (bf bv : Nat) (w : World) (hf : w.cell? ⟨bf, 0, none⟩ = some (.func (.func 60) #[] #[])) (hv : w.cell? ⟨bv, 0, none⟩ = some (.int .i64 n)) :
    Calls Tryz.prog 91 #[.agg #[.int .i64 l, .int .i64 r], .pointer (some ⟨bf, 0, none⟩), .pointer (some ⟨bv, 0, none⟩)] w fun e w' => e = .returned (.bool (!depB n l r)) ∧ Below w.heap.size w w' := by
  have hb1 := (Below.refl w.heap.size w).alloc (Nat.le_refl _) (.cells #[.int .i64 l, .int .i64 r] 35)
  have HB := Lib.hid hb1
  obtain ⟨c0, c1⟩ := zero2 w 35 (.int .i64 l) (.int .i64 r)
  replace hf := keep_in hf hb1
  replace hv := keep_in hv hb1
  have HC := Lib.hid (fun w' => outside10_any n l r _w1 w')
  clear hb1
  go_enter Tryz.func91, Tryz.ntmps91
  go_wp2_with fail
  refine (HC.out _).mono ?_
  rintro e w2 ⟨rfl, b2⟩
  have hb2 := HB.out.trans (b2.mono HB.out.size)
  clear b2 c0 c1 hf hv
  go_wp2_with fail
  go_ret
  exact ⟨rfl, hb2⟩
theorem two_boxes {w : World} {T T' : TypeId} {a b : Value} : ((w.alloc (.cells #[a] T)).alloc (.cells #[b] T')).cell? ⟨w.heap.size, 0, none⟩ = some a ∧ ((w.alloc (.cells #[a] T)).alloc (.cells #[b] T')).cell? ⟨w.heap.size + 1, 0, none⟩ = some b := by
  have hb2 := (Below.refl (w.alloc (.cells #[a] T)).heap.size (w.alloc (.cells #[a] T))).alloc (Nat.le_refl _) (.cells #[b] T')
  have hm := one_at (w.alloc (.cells #[a] T)) T' b
  rw [World.size_alloc] at hm
  exact ⟨keep_in (one_at w T a) hb2, hm⟩
theorem firstOut_any (v : Value) (n : Int) (l : List (Int × Int)) (bd : ∀ d ∈ l, (Lit.int .i64 d.1).wf = true ∧ (Lit.int .i64 d.2).wf = true) (w : World) (hr : ReadD w v l) (hl : l.length ≤ 1048576) :
    Calls Tryz.prog 59 #[v, .int .i64 n, .func (.func 60) #[] #[]] w fun e w' => e = .returned (.int .i64 (ixZ (fun d => !depB n d.1 d.2) l)) ∧ Below w.heap.size w w' := by
  have hb2 := ((Below.refl w.heap.size w).alloc (Nat.le_refl _) (.cells #[.int .i64 n] 3)).alloc (by simp) (.cells #[.func (.func 60) #[] #[]] 86)
  obtain ⟨c0, c1⟩ := two_boxes (w := w) (T := 3) (T' := 86) (a := .int .i64 n) (b := .func (.func 60) #[] #[])
  have HI := Lib.hid (index_out v (.pointer (some ⟨w.heap.size + 1, 0, none⟩)) (.pointer (some ⟨w.heap.size, 0, none⟩)) (fun d => !depB n d.1 d.2) l _ (hr.kept hb2) hl (fun x hx w' hb => outFun_any n x.1 x.2 (bd x hx).1 (w.heap.size + 1) w.heap.size w' (keep_in c1 hb) (keep_in c0 hb)))
  have HB := Lib.hid hb2
  obtain ⟨a, cap, rfl, -⟩ := hr
  clear hb2 c0 c1 bd
  go_enter Tryz.func59, Tryz.ntmps59
  go_wp2_with fail
  refine HI.out.mono ?_
  rintro e w2 ⟨rfl, b2⟩
  have hb2 := HB.out.trans (b2.mono HB.out.size)
  clear b2
  go_wp2_with fail
  go_ret
  exact ⟨rfl, hb2⟩
theorem enlFun_any (L R X : Nat) (hL : L < 32) (hR : R < 5) (hX : X < 32) (bf bv : Nat) (w : World) (hf : w.cell? ⟨bf, 0, none⟩ = some (.func (.func 53) #[] #[])) (hv : w.cell? ⟨bv, 0, none⟩ = some (.int .i64 (X : Int))) :
    Calls Tryz.prog 92 #[.agg #[.int .i64 (L : Int), .int .i64 (R : Int)], .pointer (some ⟨bf, 0, none⟩), .pointer (some ⟨bv, 0, none⟩)] w fun e w' => e = .returned (.bool (subN L X && !bitB X R)) ∧ Below w.heap.size w w' := by
  have hb1 := (Below.refl w.heap.size w).alloc (Nat.le_refl _) (.cells #[.int .i64 (L : Int), .int .i64 (R : Int)] 35)
  have HB := Lib.hid hb1
  obtain ⟨c0, c1⟩ := zero2 w 35 (.int .i64 (L : Int)) (.int .i64 (R : Int))
  replace hf := keep_in hf hb1
  replace hv := keep_in hv hb1
  have HC := Lib.hid (fun w' => enlarges10_any L R X hL hR hX w')
  clear hb1
  go_enter Tryz.func92, Tryz.ntmps92
  go_wp2_with fail
  refine (HC.out _).mono ?_
  rintro e w2 ⟨rfl, b2⟩
  have hb2 := HB.out.trans (b2.mono HB.out.size)
  clear b2 c0 c1 hf hv
  go_wp2_with fail
  go_ret
  exact ⟨rfl, hb2⟩
theorem firstEnl_any (C : Nat) (hC : C ≤ 5) (v : Value) (l : List (Int × Int)) (hd : DepsN C l) (X : Nat) (hX : X < 32) (w : World) (hr : ReadD w v l) (hl : l.length ≤ 1048576) :
    Calls Tryz.prog 62 #[v, .int .i64 (X : Int), .func (.func 53) #[] #[]] w fun e w' => e = .returned (.int .i64 (ixZ (fun d : Int × Int => subN d.1.toNat X && !bitB X d.2.toNat) l)) ∧ Below w.heap.size w w' := by
  have hb2 := ((Below.refl w.heap.size w).alloc (Nat.le_refl _) (.cells #[.int .i64 (X : Int)] 60)).alloc (by simp) (.cells #[.func (.func 53) #[] #[]] 89)
  obtain ⟨c0, c1⟩ := two_boxes (w := w) (T := 60) (T' := 89) (a := .int .i64 (X : Int)) (b := .func (.func 53) #[] #[])
  have HI := Lib.hid (index_enl v (.pointer (some ⟨w.heap.size + 1, 0, none⟩)) (.pointer (some ⟨w.heap.size, 0, none⟩)) (fun d : Int × Int => subN d.1.toNat X && !bitB X d.2.toNat) l _ (hr.kept hb2) hl (fun x hx w' hb => by
    obtain ⟨L, R, rfl, hL, hR⟩ := hd x hx
    have h32 := two5 hC
    exact enlFun_any L R X (by omega) (by omega) hX (w.heap.size + 1) w.heap.size w' (keep_in c1 hb) (keep_in c0 hb)))
  have HB := Lib.hid hb2
  obtain ⟨a, cap, rfl, -⟩ := hr
  clear hb2 c0 c1 hd
  go_enter Tryz.func62, Tryz.ntmps62
  go_wp2_with fail
  refine HI.out.mono ?_
  rintro e w2 ⟨rfl, b2⟩
  have hb2 := HB.out.trans (b2.mono HB.out.size)
  clear b2
  go_wp2_with fail
  go_ret
  exact ⟨rfl, hb2⟩
end
end Go.Proofs.YtnbjcelfdppkcadGreat
