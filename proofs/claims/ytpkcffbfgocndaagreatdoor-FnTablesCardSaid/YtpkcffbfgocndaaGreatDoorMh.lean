/- Texts of this claim, merged: ImA, ImB, ImC, ImD. Conditions: as stated. -/
import Derived.Test.YtpkcffbfgocndaaGreatDoorMc
import Derived.Lib.OthersKept
namespace Go.Proofs.YtpkcffbfgocndaaGreatDoor
open Go.RowKit

theorem bits_andNot (a b : Int) : bits .andNot .i64 a b = IntKind.i64.wrap ((BitVec.ofInt 64 a &&& ~~~BitVec.ofInt 64 b).toNat : Int) := rfl
theorem bits_and (a b : Int) : bits .and .i64 a b = IntKind.i64.wrap ((BitVec.ofInt 64 a &&& BitVec.ofInt 64 b).toNat : Int) := rfl
theorem bv_part (x y : BitVec 64) : (x &&& ~~~y = 0#64) ↔ (x &&& y = x) := by
  constructor
  · intro h
    apply BitVec.eq_of_getLsbD_eq
    intro i hi
    have h2 : (x &&& ~~~y).getLsbD i = (0#64).getLsbD i := by rw [h]
    simp [hi] at h2 ⊢
    intro hx; exact h2 hx
  · intro h
    rw [← h, BitVec.and_assoc]
    simp
theorem wrap_nat_zero (n : Nat) (h : n < 2 ^ 64) : (IntKind.i64.wrap (n : Int) = 0) ↔ n = 0 := by
  rw [IntKind.wrap_i64]; omega
theorem bv_zero (x : BitVec 64) : (IntKind.i64.wrap (x.toNat : Int) = 0) ↔ x = 0#64 := by
  rw [wrap_nat_zero _ x.isLt]
  constructor
  · intro h; exact BitVec.eq_of_toNat_eq (by simpa using h)
  · intro h; rw [h]; rfl
theorem bv_self (v : BitVec 64) (x : Int) (h0 : -9223372036854775808 ≤ x) (h1 : x ≤ 9223372036854775807) : (IntKind.i64.wrap (v.toNat : Int) = x) ↔ v = BitVec.ofInt 64 x := by
  rw [IntKind.wrap_i64]
  have e := BitVec.toNat_ofInt (n := 64) x
  have l := v.isLt
  constructor
  · intro h
    apply BitVec.eq_of_toNat_eq
    rw [e]; omega
  · intro h
    rw [h, e]; omega
/-- 'x &^ y == 0': the same as 'x & y == x'. -/
def partZ (x y : Int) : Bool := bits .andNot .i64 x y == 0
theorem partZ_eq (x y : Int) (h0 : -9223372036854775808 ≤ x) (h1 : x ≤ 9223372036854775807) : partZ x y = (bits .and .i64 x y == x) := by
  unfold partZ
  rw [Bool.eq_iff_iff, beq_iff_eq, beq_iff_eq, bits_andNot, bits_and, bv_zero, bv_self _ x h0 h1, bv_part]
theorem and_mask (n : Nat) (hn : n < 63) (x : Int) : bits .and .i64 x (2 ^ n - 1) = x % 2 ^ n := by
  have p1 : (2 : Nat) ^ n < 2 ^ 63 := Nat.pow_lt_pow_right (by omega) hn
  have p0 : 0 < (2 : Nat) ^ n := Nat.pow_pos (by omega)
  have hc : ((2 : Int) ^ n) = ((2 ^ n : Nat) : Int) := by rw [Int.natCast_pow]; rfl
  have h : (BitVec.ofInt 64 (2 ^ n - 1)).toNat = 2 ^ n - 1 := by
    rw [BitVec.toNat_ofInt, hc]; omega
  have key : (BitVec.ofInt 64 x &&& BitVec.ofInt 64 (2 ^ n - 1)).toNat = (x % ((2 ^ 64 : Nat) : Int)).toNat % 2 ^ n := by
    rw [BitVec.toNat_and, BitVec.toNat_ofInt, h, Nat.and_two_pow_sub_one_eq_mod]
  rw [bits_and, key, IntKind.wrap_i64, hc]
  have hd : ((2 ^ n : Nat) : Int) ∣ ((2 ^ 64 : Nat) : Int) := by
    rw [show 64 = n + (64 - n) by omega, Nat.pow_add, Int.natCast_mul]; exact Int.dvd_mul_right _ _
  have e : (((x % ((2 ^ 64 : Nat) : Int)).toNat % 2 ^ n : Nat) : Int) = x % ((2 ^ n : Nat) : Int) := by
    rw [Int.natCast_emod, Int.toNat_of_nonneg (Int.emod_nonneg _ (by decide)), Int.emod_emod_of_dvd _ hd]
  rw [e]
  have q0 := Int.emod_nonneg x (b := ((2 ^ n : Nat) : Int)) (by omega)
  have q1 := Int.emod_lt_of_pos x (b := ((2 ^ n : Nat) : Int)) (by omega)
  omega
theorem partZ_first (n : Nat) (hn : n ≤ 5) (x : Int) (h0 : -9223372036854775808 ≤ x) (h1 : x ≤ 9223372036854775807) : partZ x (2 ^ n - 1) = decide (0 ≤ x ∧ x ≤ 2 ^ n - 1) := by
  rw [partZ_eq x _ h0 h1, and_mask n (by omega), Bool.eq_iff_iff, beq_iff_eq, decide_eq_true_iff]
  have p0 : 0 < (2 : Nat) ^ n := Nat.pow_pos (by omega)
  have hc : ((2 : Int) ^ n) = ((2 ^ n : Nat) : Int) := by rw [Int.natCast_pow]; rfl
  rw [hc]
  constructor
  · intro h
    have q0 := Int.emod_nonneg x (b := ((2 ^ n : Nat) : Int)) (by omega)
    have q1 := Int.emod_lt_of_pos x (b := ((2 ^ n : Nat) : Int)) (by omega)
    omega
  · rintro ⟨a, b⟩; exact Int.emod_eq_of_lt a (by omega)
theorem partZ_31 (x : Int) (h0 : -9223372036854775808 ≤ x) (h1 : x ≤ 9223372036854775807) : partZ x 31 = valB x := partZ_first 5 (by omega) x h0 h1

theorem partOf_any (x y : Int) (w : World) :
    Calls Tryz.prog 65 #[.int .i64 x, .int .i64 y] w fun e w' => e = .returned (.bool (partZ x y)) ∧ w = w' := by
  go_enter Tryz.func65, Tryz.ntmps65
  go_wp2_with fail
  go_ret
  exact ⟨rfl, rfl⟩
theorem colCount_any (n : Int) (w : World) :
    Calls Tryz.prog 37 #[.int .i64 n] w fun e w' => e = .returned (.bool (decide (0 ≤ n ∧ n ≤ 5))) ∧ w = w' := by
  by_cases h1 : 0 ≤ n <;> by_cases h2 : n ≤ 5
  all_goals
    go_enter Tryz.func37, Tryz.ntmps37
    go_wp2
    go_ret
    exact ⟨by simp [h1, h2], rfl⟩
theorem first_any (n : Int) (w : World) (h0 : 0 ≤ n) (h1 : n ≤ 5) :
    Calls Tryz.prog 23 #[.int .i64 n] w fun e w' => e = .returned (.int .i64 (2 ^ n.toNat - 1)) ∧ w = w' := by
  rcases (show n = 0 ∨ n = 1 ∨ n = 2 ∨ n = 3 ∨ n = 4 ∨ n = 5 by omega) with rfl | rfl | rfl | rfl | rfl | rfl
  all_goals
    go_enter Tryz.func23, Tryz.ntmps23
    go_wp2
    go_ret
    exact ⟨rfl, rfl⟩
/-- The number of ones. -/
theorem ones_any (X : Fin 32) (w : World) :
    Calls Tryz.prog 88 #[.int .u64 ((X.val : Nat) : Int)] w fun e w' => e = .returned (.int .i64 (cnt ((X.val : Nat) : Int) : Int)) ∧ w = w' := by
  go_enter Tryz.func88, Tryz.ntmps88
  go_wp2_with fail
  go_ret
  refine ⟨ret_int ?_, rfl⟩
  revert X
  decide +kernel
theorem onesCount_any (X : Nat) (h : X < 32) (w : World) :
    Calls Tryz.prog 74 #[.int .u64 (X : Int)] w fun e w' => e = .returned (.int .i64 (cnt (X : Int) : Int)) ∧ w = w' := by
  go_enter Tryz.func74, Tryz.ntmps74
  go_wp2_with fail
  refine (ones_any ⟨X, h⟩ _).mono ?_
  rintro e w' ⟨rfl, rfl⟩
  go_wp2_with fail
  go_ret
  exact ⟨rfl, rfl⟩
theorem size_any (X : Nat) (h : X < 32) (w : World) :
    Calls Tryz.prog 58 #[.int .i64 (X : Int)] w fun e w' => e = .returned (.int .i64 (cnt (X : Int) : Int)) ∧ w = w' := by
  go_enter Tryz.func58, Tryz.ntmps58
  go_wp2_with fail
  refine (onesCount_any X h _).mono ?_
  rintro e w' ⟨rfl, rfl⟩
  go_wp2_with fail
  go_ret
  exact ⟨rfl, rfl⟩
theorem has_any (X k : Nat) (hk : k ≤ 62) (w : World) :
    Calls Tryz.prog 66 #[.int .i64 (X : Int), .int .i64 (k : Int)] w fun e w' => e = .returned (.bool (bitB X k)) ∧ w = w' := by
  have hb : (bits BinOp.and IntKind.i64 ((X : Int) / 2 ^ k) 1 != 0) = bitB X k := by
    rw [← bit_test, i64_and_1, Bool.eq_iff_iff, bne_iff_ne, beq_iff_eq]; omega
  go_enter Tryz.func66, Tryz.ntmps66
  go_wp2_with fail
  go_ret
  exact ⟨rfl, rfl⟩
theorem implIsA_any (n x : Int) (h0 : -9223372036854775808 ≤ x) (h1 : x ≤ 9223372036854775807) (w : World) :
    Calls Tryz.prog 42 #[.int .i64 n, .int .i64 x] w fun e w' => e = .returned (.bool (isA n x)) ∧ Below w.heap.size w w' := by
  by_cases hn : 0 ≤ n ∧ n ≤ 5
  · have hd : decide (0 ≤ n ∧ n ≤ 5) = true := by simp [hn]
    have HZ : Hid (isA n x = partZ x (2 ^ n.toNat - 1)) := Lib.hid (by rw [partZ_first n.toNat (by omega) x h0 h1]; unfold isA; simp [hn])
    go_enter Tryz.func42, Tryz.ntmps42
    go_wp2_with fail
    refine (colCount_any _ _).mono ?_
    rintro e w' ⟨rfl, rfl⟩
    go_wp2_with fail
    refine (first_any _ _ hn.1 hn.2).mono ?_
    rintro e w' ⟨rfl, rfl⟩
    go_wp2_with fail
    refine (partOf_any _ _ _).mono ?_
    rintro e w' ⟨rfl, rfl⟩
    go_wp2_with fail
    go_ret
    exact ⟨ret_b HZ.out, Below.refl _ _⟩
  · have hd : decide (0 ≤ n ∧ n ≤ 5) = false := by simp only [hn, decide_false]
    go_enter Tryz.func42, Tryz.ntmps42
    go_wp2_with fail
    refine (colCount_any _ _).mono ?_
    rintro e w' ⟨rfl, rfl⟩
    go_wp2_with fail
    go_ret
    exact ⟨ret_b (by unfold isA; simp only [hn, false_and, decide_false]), Below.refl _ _⟩
end Go.Proofs.YtpkcffbfgocndaaGreatDoor
namespace Go.Proofs.YtpkcffbfgocndaaGreatDoor
open Go.RowKit

set_option maxHeartbeats 800000 in
theorem members_any (X : Nat) (hX : X < 32) (w : World) :
    Calls Tryz.prog 43 #[.int .i64 (X : Int)] w (RetI (mems (X : Int)) w) := by
  obtain ⟨i0, hi, hz0, hz1, hz2⟩ := info_parts info3i
  have HI : Hid (_ ∧ _ ∧ _ ∧ _) := Lib.hid ⟨hi, hz0, hz1, hz2⟩
  clear hi hz0 hz1 hz2
  have he : mems (X : Int) = memN X 5 := by unfold mems; rw [if_pos (by omega)]; rfl
  have HE := Lib.hid he
  clear he
  have HH := Lib.hid (fun (k : Nat) (hk : k ≤ 62) (w : World) => has_any X k hk w)
  go_enter Tryz.func43, Tryz.ntmps43
  go_wp2_with (at_make; refine wpList_make_own _ rfl _ _ 37 rfl w.heap.size 3 i0 (.int .i64 0) 1 Tryz.underlying37 HI.out.1 HI.out.2.1 HI.out.2.2.1 .i64 .i64 _ 5 rfl rfl (by omega) (by rw [HI.out.2.2.2]; omega) (by unfold maxLen; omega) (Nat.le_refl _) ?_; intro w0 hown0 hgrow0)
  have hb0 := (Below.refl w.heap.size w).grown hgrow0 (Nat.le_refl _) (by simp)
  have hown := OwnI.made hown0
  clear hown0 hgrow0
  go_loopw [3, 4] (fun ov iv wr => ∃ (k : Nat) (l : List Int), k ≤ 5 ∧ iv = .int .i64 (k : Int) ∧ Hid (l = memN X k) ∧ OwnI wr w.heap.size ov l ∧ Below w.heap.size w wr) (fun _ iv _ => (5 - intOf iv).toNat)
  case atStart => exact ⟨0, [], by omega, rfl, Lib.hid rfl, hown, hb0⟩
  case round =>
    obtain ⟨k, l, hk, rfl, hl, ho, hb⟩ := hrel
    by_cases hlt : k < 5
    · have hll : l.length ≤ 5 := by rw [hl.out]; have := memN_len X k; omega
      by_cases hB : bitB X k = true
      · go_wp2_with fail
        refine (HH.out k (by omega) _).mono ?_
        rintro e w' ⟨rfl, rfl⟩
        go_wp2_with (at_builtin; refine wpList_append_own _ rfl _ _ 37 rfl w.heap.size 3 i0 (.int .i64 0) 1 8 Tryz.underlying37 HI.out.1 HI.out.2.1 HI.out.2.2.1 HI.out.2.2.2 rfl (by decide) _ _ _ rfl (World.ownsRow.alloc ho _) ⟨wr.heap.size, 0, none⟩ 1 1 [.int .i64 (k : Int)] rfl rfl (cell_one_new _ _ _) (one_i64 _) (by unfold maxLen; omega) (by omega) (le_alloc hb (Nat.le_refl _) _) ?_; intro v' w1 hown' hgrow _)
        have ho' := OwnI.snoc hown'
        have hb' := (hb.alloc hb.size (.cells #[.int .i64 (k : Int)] 3)).grown hgrow (by simp; have := hb.size; omega) (fun k hk => (OwnI.lt ho k hk).1)
        clear hown' hgrow
        go_wp2_with fail
        go_roundw
        case rel => exact ⟨k + 1, _, by omega, by go_num, Lib.hid (by rw [memN_succ, if_pos hB, ← hl.out]), ho', hb'⟩
        case measure => simp [intOf]; omega
      · have hB2 : bitB X k = false := by simpa using hB
        go_wp2_with fail
        refine (HH.out k (by omega) _).mono ?_
        rintro e w' ⟨rfl, rfl⟩
        go_wp2_with fail
        go_roundw
        case rel => exact ⟨k + 1, _, by omega, by go_num, Lib.hid (by rw [memN_succ, if_neg hB, ← hl.out]), ho, hb⟩
        case measure => simp [intOf]; omega
    · obtain rfl : k = 5 := by omega
      go_wp2_with fail
      go_ret
      exact ⟨_, rfl, by rw [HE.out, ← hl.out]; exact ho, hb⟩
theorem OwnI.none (w : World) (B : Nat) : OwnI w B (.slice .none 0 0) [] := World.ownsRow_nil _ _ _ _
end Go.Proofs.YtpkcffbfgocndaaGreatDoor
namespace Go.Proofs.YtpkcffbfgocndaaGreatDoor
open Go.RowKit

theorem info8s : (Tryz.prog.info? 5).map (fun i => (i.zero, i.size, i.bytes)) = some (some (.int .u8 0), 1, 1) := by kernel_rfl
/-- The letters of columns. -/
def ltr (l : List Int) : List UInt8 := l.map fun i => UInt8.ofNat (65 + i).toNat
theorem ltr_take {l : List Int} {k : Nat} (h : k < l.length) : ltr (l.take (k + 1)) = ltr (l.take k) ++ [UInt8.ofNat (65 + l[k]).toNat] := by
  unfold ltr; rw [List.take_succ_eq_append_getElem h, List.map_append]; rfl
theorem ltr_len (l : List Int) (k : Nat) : (ltr (l.take k)).length ≤ k := by
  unfold ltr; rw [List.length_map]; exact List.length_take_le _ _
theorem ltr_fmt : ∀ X : Fin 32, X.val ≠ 0 → (⟨(ltr (mems ((X.val : Nat) : Int))).toArray⟩ : ByteArray) = fmtA ((X.val : Nat) : Int) := by
  intro X h
  apply str_ext
  revert X
  decide +kernel
theorem own_apart {w : World} {B B' : Nat} {v v' : Value} {l : List UInt8} {l' : List Int} (h : OwnB w B 5 v l) (h' : OwnI w B' v' l') : ∀ g, v.ownBlock = some g → v'.ownBlock ≠ some g := by
  intro g hg hg'
  rcases h.2 with ⟨rfl, _⟩ | ⟨g1, cap, cur, rfl, hB, hgg, rest⟩
  · cases hg
  · rcases h'.2 with ⟨rfl, _⟩ | ⟨g2, cap2, cur2, rfl, hB2, hgg2, rest2⟩
    · cases hg'
    · simp [Value.ownBlock] at hg hg'
      subst hg hg'
      rw [hgg] at hgg2
      simp at hgg2
set_option maxHeartbeats 800000 in
theorem text_any (X : Nat) (hX : X < 32) (w : World) :
    Calls Tryz.prog 24 #[.int .i64 (X : Int)] w fun e w' => e = .returned (.string (fmtA (X : Int))) ∧ Below w.heap.size w w' := by
  obtain ⟨i0, hi, hz0, hz1, hz2⟩ := info_parts info8s
  have HI : Hid (_ ∧ _ ∧ _ ∧ _) := Lib.hid ⟨hi, hz0, hz1, hz2⟩
  clear hi hz0 hz1 hz2
  by_cases h0 : X = 0
  · subst h0
    go_enter Tryz.func24, Tryz.ntmps24
    go_wp2_with fail
    go_ret
    exact ⟨ret_s (by rfl), Below.refl _ _⟩
  · have hne : ((X : Int) == 0) = false := by simp; omega
    have HF := Lib.hid (ltr_fmt ⟨X, hX⟩ h0)
    have HM := Lib.hid (members_any X hX)
    have hml := mems_len (X : Int)
    have HB : Hid (∀ k (h : k < (mems (X : Int)).length), 0 ≤ (mems (X : Int))[k] ∧ (mems (X : Int))[k] ≤ 4) := Lib.hid fun k h => (mems_at h).2
    obtain ⟨l, hl⟩ : ∃ l, l = mems (X : Int) := ⟨_, rfl⟩
    rw [← hl] at HM HB hml
    simp only [← hl] at HF
    clear hl h0
    go_enter Tryz.func24, Tryz.ntmps24
    go_wp2_with (at_make; refine wpList_make_own _ rfl _ _ 22 rfl w.heap.size 5 i0 (.int .u8 0) 1 Tryz.underlying22 HI.out.1 HI.out.2.1 HI.out.2.2.1 .i64 .i64 _ 5 rfl rfl (by omega) (by rw [HI.out.2.2.2]; omega) (by unfold maxLen; omega) (Nat.le_refl _) ?_; intro w0 hown0 hgrow0)
    have hb0 := (Below.refl w.heap.size w).grown hgrow0 (Nat.le_refl _) (by simp)
    have hown := OwnB.made hown0
    clear hown0 hgrow0
    refine (HM.out _).mono ?_
    rintro e w1 ⟨v, rfl, om, hb1'⟩
    have hown1 := hown.kept hb1' (fun k hk => (OwnB.lt hown k hk).2)
    have hb1 := hb0.trans (hb1'.mono hb0.size)
    have om1 : OwnI w1 w.heap.size v l := om.base hb0.size
    obtain ⟨am, capm, rfl, -⟩ := om1.read
    clear hown hb0 hb1' om
    go_wp2_with fail
    go_loopw [3, 12] (fun ov iv wr => ∃ (k : Nat) (bs : List UInt8), k ≤ l.length ∧ iv = .int .i64 (k : Int) ∧ Hid (bs = ltr (l.take k)) ∧ OwnB wr w.heap.size 5 ov bs ∧ OwnI wr w.heap.size (.slice am l.length capm) l ∧ Below w.heap.size w wr) (fun _ iv _ => l.length - (intOf iv).toNat)
    case atStart => exact ⟨0, [], by omega, rfl, Lib.hid rfl, hown1, om1, hb1⟩
    case round =>
      obtain ⟨k, bs, hk, rfl, hbs, ho, om, hb⟩ := hrel
      clear hown1 hb1 om1
      have hll : bs.length ≤ 5 := by rw [hbs.out]; have := ltr_len l k; omega
      by_cases hlt : k < l.length
      · obtain ⟨ya, hya, hy⟩ : ∃ y, am = some y ∧ wr.cell? (y.add k) = some (.int .i64 l[k]) := by
          obtain ⟨a', cap', h1, h2⟩ := om.read
          simp at h1
          obtain ⟨rfl, -⟩ := h1
          exact h2 k hlt
        subst hya
        obtain ⟨c0, c4⟩ := HB.out k hlt
        have hstep := Lib.hid (ltr_take hlt)
        obtain ⟨c, hc⟩ : ∃ c : Int, c = l[k] := ⟨_, rfl⟩
        rw [← hc] at hy c0 c4 hstep
        clear hc
        have z0 : (0 : Int) ≤ (k : Int) := by omega
        have z1 : (k : Int) < (l.length : Int) := by omega
        go_wp2_with (at_builtin; refine wpList_append_own _ rfl _ _ 22 rfl w.heap.size 5 i0 (.int .u8 0) 1 1 Tryz.underlying22 HI.out.1 HI.out.2.1 HI.out.2.2.1 HI.out.2.2.2 rfl (by decide) _ _ _ rfl (World.ownsRow.alloc ho _) ⟨wr.heap.size, 0, none⟩ 1 1 [.int .u8 (65 + c)] rfl rfl (cell_one_new _ _ _) (one_u8 _) (by unfold maxLen; omega) (by omega) (le_alloc hb (Nat.le_refl _) _) ?_; intro v' w2 hown' hgrow _)
        have ho' := OwnB.snoc (by omega) (by omega) hown'
        have hb' := (hb.alloc hb.size (.cells #[.int .u8 (65 + c)] 5)).grown hgrow (by simp; have := hb.size; omega) (fun k hk => (OwnB.lt ho k hk).1)
        have om' := OwnI.keptBy (World.ownsRow.alloc om (.cells #[.int .u8 (65 + c)] 5)) hgrow (fun g hg => own_apart ho om g hg)
        clear hown' hgrow
        go_wp2_with fail
        go_roundw
        case rel => exact ⟨k + 1, _, by omega, by go_num, Lib.hid (by rw [hstep.out, ← hbs.out]), ho', om', hb'⟩
        case measure => simp [intOf]; omega
      · obtain rfl : k = l.length := by omega
        have hc := OwnB.conv (P := Tryz.prog) Tryz.underlying22 Tryz.underlying5 Tryz.underlying9 ho
        go_wp2_with fail
        go_ret
        exact ⟨ret_s (by rw [← HF.out, hbs.out, List.take_length]), hb⟩
end Go.Proofs.YtpkcffbfgocndaaGreatDoor
namespace Go.Proofs.YtpkcffbfgocndaaGreatDoor
open Go.RowKit

/-! ### The set that letters stand for -/
def letB (c : UInt8) : Bool := decide (65 ≤ c.toNat ∧ c.toNat ≤ 69)
def orL (l : List UInt8) : Nat := l.foldl (fun a c => a ||| 2 ^ (c.toNat - 65)) 0
theorem orL_snoc (l : List UInt8) (c : UInt8) : orL (l ++ [c]) = orL l ||| 2 ^ (c.toNat - 65) := by simp [orL]
theorem orL_lt (l : List UInt8) (h : l.all letB = true) : orL l < 32 := by
  unfold orL
  suffices ∀ a, a < 32 → l.foldl (fun a c => a ||| 2 ^ (c.toNat - 65)) a < 32 from this 0 (by omega)
  induction l with
  | nil => intro a ha; exact ha
  | cons c l ih =>
    intro a ha
    simp [List.all_cons] at h
    rw [List.foldl_cons]
    refine ih (by simpa using h.2) _ ?_
    have h1 := h.1
    unfold letB at h1
    simp at h1
    have h2 : 2 ^ (c.toNat - 65) < 2 ^ 5 := Nat.pow_lt_pow_right (by omega) (by omega)
    exact Nat.or_lt_two_pow (n := 5) ha h2
theorem texts_let : ∀ j : Fin 32, j.val ≠ 0 → ((fmtA ((j.val : Nat) : Int)).data.toList.all letB = true ∧ orL (fmtA ((j.val : Nat) : Int)).data.toList = j.val) := by decide +kernel
theorem text_zero : (fmtA 0).data.toList = [110, 111, 110, 101] := by decide +kernel
theorem take_all {l : List UInt8} {k : Nat} {p : UInt8 → Bool} (h : l.all p = true) : (l.take k).all p = true := by
  rw [List.all_eq_true] at *
  intro x hx; exact h x (List.mem_of_mem_take hx)
/-- A text that is not 'none' and has a byte that is no letter is no text of a set. -/
theorem PaA.bad {s : ByteArray} {k : Nat} (hn : s.data.toList ≠ [110, 111, 110, 101]) (hk : k < s.size) (hb : letB (s[k]'hk) = false) : PaA s 0 false := by
  refine .inr ⟨fun j hj => ?_, rfl, rfl⟩
  rw [isTx_eq]
  rw [beq_eq_false_iff_ne]
  intro e
  by_cases h0 : j = 0
  · subst h0; apply hn; rw [← e]; exact text_zero
  · have h := (texts_let ⟨j, hj⟩ h0).1
    simp only [e] at h
    rw [List.all_eq_true] at h
    have := h (s[k]'hk) (by rw [show s[k] = s.data.toList[k]'(by simpa using hk) from rfl]; exact List.getElem_mem _)
    rw [hb] at this; cases this
theorem PaA.good {s : ByteArray} {X : Nat} (hX : X < 32) (he : (fmtA (X : Int)).data.toList = s.data.toList) : PaA s (X : Int) true := by
  refine .inl ⟨X, hX, rfl, by rw [isTx_eq]; simp [he], fun j hj => ?_, rfl⟩
  rw [isTx_eq, ← he]
  have := texts_apart ⟨X, hX⟩ ⟨j, by omega⟩
  simp only at this
  rw [this]; simp; omega
theorem PaA.other {s : ByteArray} (hn : s.data.toList ≠ [110, 111, 110, 101]) (he : (fmtA (orL s.data.toList : Int)).data.toList ≠ s.data.toList) : PaA s 0 false := by
  refine .inr ⟨fun j hj => ?_, rfl, rfl⟩
  rw [isTx_eq, beq_eq_false_iff_ne]
  intro e
  by_cases h0 : j = 0
  · subst h0; apply hn; rw [← e]; exact text_zero
  · have h := (texts_let ⟨j, hj⟩ h0).2
    simp only [e] at h
    apply he
    rw [h, e]
theorem PaA.none {s : ByteArray} (h : s.data.toList = [110, 111, 110, 101]) : PaA s 0 true :=
  PaA.good (X := 0) (by omega) (by rw [h]; exact text_zero)
theorem take_snocB (s : ByteArray) (k : Nat) (h : k < s.size) : s.data.toList.take (k + 1) = s.data.toList.take k ++ [s[k]] := by
  rw [List.take_succ_eq_append_getElem (by simpa using h)]; rfl
theorem iter_pos {w : World} {k : Nat} {s : ByteArray} {p : Nat} (h : w.heap[k]? = some (.stringIter s p)) : w.iterPos k = p := by simp [World.iterPos, h]
/-- What ParseAttributes returns. -/
def RetP (s : ByteArray) (w : World) (e : Ending) (w' : World) : Prop := ∃ x ok, PaA s x ok ∧ e = .returned (.tuple #[.int .i64 x, .bool ok]) ∧ Below w.heap.size w w'
set_option maxHeartbeats 1600000 in
theorem implParseA_any (s : ByteArray) (w : World) :
    Calls Tryz.prog 57 #[.string s] w (RetP s w) := by
  by_cases hnone : s.data.toList = [110, 111, 110, 101]
  · have hs : s = ⟨#[110, 111, 110, 101]⟩ := str_ext hnone
    subst hs
    go_enter Tryz.func57, Tryz.ntmps57
    go_wp2_with fail
    go_ret2
    exact ⟨_, _, PaA.none rfl, rfl, Below.refl _ _⟩
  · have hne : (s.toList == [110, 111, 110, 101]) = false := by rw [ByteArray.toList_eq]; simpa using hnone
    have HN := Lib.hid hnone
    clear hnone
    go_enter Tryz.func57, Tryz.ntmps57
    go_wp2_with fail
    go_loopw [4] (fun av wr => ∃ pos : Nat, pos ≤ s.size ∧ wr.heap[w.heap.size]? = some (.stringIter s pos) ∧ av = .int .i64 (orL (s.data.toList.take pos) : Int) ∧ Hid ((s.data.toList.take pos).all letB = true) ∧ Below w.heap.size w wr) (fun _ wr => s.size - wr.iterPos w.heap.size)
    case atStart =>
      exact ⟨0, by omega, by have := World.iter_heap w s 0; simpa using this, rfl, Lib.hid rfl, (Below.refl _ _).alloc (Nat.le_refl _) _⟩
    case round =>
      obtain ⟨pos, hps, hit, rfl, hall, hb⟩ := hrel
      by_cases hp : pos < s.size
      · by_cases ha : (s[pos]'hp).toNat < 128
        · have hnx : ∀ ty, (Instr.next (.pointer (some ⟨w.heap.size, 0, none⟩)) true ty).run Tryz.prog wr = _ := fun ty => Lib.run_next_ascii_at wr w.heap.size s pos ty hit hp ha
          have hit2 := Lib.iterAt_heap wr w.heap.size s pos (pos + 1) hit
          have hb2 := Lib.below_iterAt hb (k := w.heap.size) (by omega) s (pos + 1)
          by_cases hc : letB (s[pos]'hp) = true
          · have hA : Hid ((s.data.toList.take (pos + 1)).all letB = true) := Lib.hid (by rw [take_snocB s pos hp, List.all_append, hall.out]; simp [hc])
            have hO : Hid (orL (s.data.toList.take (pos + 1)) = orL (s.data.toList.take pos) ||| 2 ^ ((s[pos]'hp).toNat - 65)) := Lib.hid (by rw [take_snocB s pos hp, orL_snoc])
            have hlt := orL_lt _ hall.out
            have hc2 : 65 ≤ (s[pos]'hp).toNat ∧ (s[pos]'hp).toNat ≤ 69 := by unfold letB at hc; simpa using hc
            obtain ⟨c, hcc⟩ : ∃ c : Nat, (s[pos]'hp).toNat = c := ⟨_, rfl⟩
            rw [hcc] at hnx hO hc2
            obtain ⟨a, haa⟩ : ∃ a : Nat, orL (s.data.toList.take pos) = a := ⟨_, rfl⟩
            rw [haa] at hO hlt
            simp only [haa]
            clear hcc haa ha hc
            rcases (show c = 65 ∨ c = 66 ∨ c = 67 ∨ c = 68 ∨ c = 69 by omega) with rfl | rfl | rfl | rfl | rfl
            · have hor : bits .or .i64 (a : Int) 1 = ((a ||| 1 : Nat) : Int) := i64_or_nat a 1 (by omega) (by omega)
              go_wp2_with fail
              go_roundw
              case rel => exact ⟨pos + 1, by omega, hit2, by rw [hO.out], hA, hb2⟩
              case measure => rw [iter_pos hit2, iter_pos hit]; omega
            · have hor : bits .or .i64 (a : Int) 2 = ((a ||| 2 : Nat) : Int) := i64_or_nat a 2 (by omega) (by omega)
              go_wp2_with fail
              go_roundw
              case rel => exact ⟨pos + 1, by omega, hit2, by rw [hO.out], hA, hb2⟩
              case measure => rw [iter_pos hit2, iter_pos hit]; omega
            · have hor : bits .or .i64 (a : Int) 4 = ((a ||| 4 : Nat) : Int) := i64_or_nat a 4 (by omega) (by omega)
              go_wp2_with fail
              go_roundw
              case rel => exact ⟨pos + 1, by omega, hit2, by rw [hO.out], hA, hb2⟩
              case measure => rw [iter_pos hit2, iter_pos hit]; omega
            · have hor : bits .or .i64 (a : Int) 8 = ((a ||| 8 : Nat) : Int) := i64_or_nat a 8 (by omega) (by omega)
              go_wp2_with fail
              go_roundw
              case rel => exact ⟨pos + 1, by omega, hit2, by rw [hO.out], hA, hb2⟩
              case measure => rw [iter_pos hit2, iter_pos hit]; omega
            · have hor : bits .or .i64 (a : Int) 16 = ((a ||| 16 : Nat) : Int) := i64_or_nat a 16 (by omega) (by omega)
              go_wp2_with fail
              go_roundw
              case rel => exact ⟨pos + 1, by omega, hit2, by rw [hO.out], hA, hb2⟩
              case measure => rw [iter_pos hit2, iter_pos hit]; omega
          · have HB := Lib.hid (PaA.bad HN.out hp (by simpa using hc))
            have hc2 : (s[pos]'hp).toNat < 65 ∨ 69 < (s[pos]'hp).toNat := by unfold letB at hc; simp at hc; omega
            obtain ⟨c, hcc⟩ : ∃ c : Nat, (s[pos]'hp).toNat = c := ⟨_, rfl⟩
            rw [hcc] at hnx hc2 ha
            clear hcc hc
            rcases hc2 with hc2 | hc2
            · go_wp2_with fail
              go_ret2
              exact ⟨_, _, HB.out, rfl, hb2⟩
            · go_wp2_with fail
              go_ret2
              exact ⟨_, _, HB.out, rfl, hb2⟩
        · have hnx : ∀ ty, (Instr.next (.pointer (some ⟨w.heap.size, 0, none⟩)) true ty).run Tryz.prog wr = _ := fun ty => Lib.run_next_any_at wr w.heap.size s pos ty hit hp
          have hb2 := Lib.below_iterAt hb (k := w.heap.size) (by omega) s (pos + (Utf8.decode s pos).2)
          have hhi := (decode_high s pos hp (by omega)).1
          have hle := decode_le s pos
          have HB := Lib.hid (PaA.bad HN.out hp (by unfold letB; simp; omega))
          go_wp2_with fail
          go_ret2
          exact ⟨_, _, HB.out, rfl, hb2⟩
      · have hnx : ∀ ty, (Instr.next (.pointer (some ⟨w.heap.size, 0, none⟩)) true ty).run Tryz.prog wr = _ := fun ty => Lib.run_next_end_at wr w.heap.size s pos ty hit hp
        have hlt := orL_lt _ hall.out
        have hfull : s.data.toList.take pos = s.data.toList := List.take_of_length_le (by rw [← str_size]; omega)
        rw [hfull] at hlt
        simp only [hfull]
        clear hfull
        have HT := Lib.hid (text_any _ hlt)
        by_cases he : (fmtA (orL s.data.toList : Int)).data.toList = s.data.toList
        · have HG := Lib.hid (PaA.good hlt he)
          obtain ⟨a, haa⟩ : ∃ a : Nat, orL s.data.toList = a := ⟨_, rfl⟩
          have he2 : ((fmtA (a : Int)).toList != s.toList) = false := by rw [ByteArray.toList_eq, ByteArray.toList_eq, ← haa, he]; simp
          have he3 : ((fmtA (a : Int)).toList == s.toList) = true := by rw [ByteArray.toList_eq, ByteArray.toList_eq, ← haa, he]; simp
          rw [haa] at HT HG hlt
          simp only [haa]
          clear he haa
          go_wp2_with fail
          refine (HT.out _).mono ?_
          rintro e w' ⟨rfl, hb3⟩
          go_wp2_with fail
          go_ret2
          exact ⟨_, _, HG.out, rfl, hb.trans (hb3.mono hb.size)⟩
        · have HG := Lib.hid (PaA.other HN.out he)
          obtain ⟨a, haa⟩ : ∃ a : Nat, orL s.data.toList = a := ⟨_, rfl⟩
          have he2 : ((fmtA (a : Int)).toList != s.toList) = true := by rw [ByteArray.toList_eq, ByteArray.toList_eq, ← haa]; simpa using he
          have he3 : ((fmtA (a : Int)).toList == s.toList) = false := by rw [ByteArray.toList_eq, ByteArray.toList_eq, ← haa]; simpa using he
          rw [haa] at HT hlt
          simp only [haa]
          clear he haa
          go_wp2_with fail
          refine (HT.out _).mono ?_
          rintro e w' ⟨rfl, hb3⟩
          go_wp2_with fail
          go_ret2
          exact ⟨_, _, HG.out, rfl, hb.trans (hb3.mono hb.size)⟩
end Go.Proofs.YtpkcffbfgocndaaGreatDoor
