/- Sets of columns: the model's functions of chapter 2, by contract. Conditions: none (invalid sets are separate cases). -/
import Derived.Test.YtficnbeciohpfaaLeaf
import Derived.Test.YtficnbeciohpfaaInts
import Derived.Test.YtficnbeciohpfaaBits
namespace Go.Proofs.Ytficnbeciohpfaa
open Go.RowKit

theorem i64_and_1 (n : Int) : bits .and .i64 n 1 = n % 2 := by
  have h : (BitVec.ofInt 64 1).toNat = 2 ^ 1 - 1 := by decide
  have key : (BitVec.ofInt 64 n &&& BitVec.ofInt 64 1).toNat = (n % ((2 ^ 64 : Nat) : Int)).toNat % 2 ^ 1 := by
    rw [BitVec.toNat_and, BitVec.toNat_ofInt, h, Nat.and_two_pow_sub_one_eq_mod]
  show IntKind.i64.wrap ((BitVec.ofInt 64 n &&& BitVec.ofInt 64 1).toNat : Nat) = n % 2
  rw [key, IntKind.wrap_i64]
  omega
/-- Column k is in the set X. -/
def bitB (X k : Nat) : Bool := X / 2 ^ k % 2 == 1
theorem bit_test (X k : Nat) : (bits BinOp.and IntKind.i64 ((X : Int) / 2 ^ k) 1 == 1) = bitB X k := by
  rw [i64_and_1]
  have e : (X : Int) / 2 ^ k % 2 = ((X / 2 ^ k % 2 : Nat) : Int) := by
    rw [Int.natCast_emod, Int.natCast_ediv, Int.natCast_pow]; rfl
  rw [e]; unfold bitB
  rw [Bool.eq_iff_iff, beq_iff_eq, beq_iff_eq]; omega
def memN (X k : Nat) : List Int := ((List.range k).filter (bitB X)).map fun (i : Nat) => (i : Int)
theorem memN_succ (X k : Nat) : memN X (k + 1) = if bitB X k = true then memN X k ++ [(k : Int)] else memN X k := by
  unfold memN
  rw [List.range_succ, List.filter_append, List.map_append]
  by_cases h : bitB X k = true
  · rw [if_pos h]; simp [h]
  · rw [if_neg h]; simp [h]
theorem memN_len (X k : Nat) : (memN X k).length ≤ k := by
  have := List.length_filter_le (bitB X) (List.range k)
  simpa [memN] using this
/-- The members of x, as a list; none if x is no set of columns. -/
def mems (x : Int) : List Int := if 0 ≤ x ∧ x ≤ 31 then memN x.toNat 5 else []
theorem mems_len (x : Int) : (mems x).length ≤ 5 := by unfold mems; split; exact memN_len _ _; simp
theorem info3i : (Try.prog.info? 3).map (fun i => (i.zero, i.size, i.bytes)) = some (some (.int .i64 0), 1, 8) := by kernel_rfl
/-- A result that is a slice of ints of the call's own. -/
def RetI (l : List Int) (w : World) (e : Ending) (w' : World) : Prop := ∃ v, e = .returned v ∧ OwnI w' w.heap.size v l ∧ Below w.heap.size w w'

theorem all_any (n : Int) (w : World) (h0 : 0 ≤ n) (h1 : n ≤ 5) :
    Calls Try.prog 54 #[.int .i64 n] w fun e w' => e = .returned (.int .i64 (2 ^ n.toNat - 1)) ∧ w = w' := by
  rcases (show n = 0 ∨ n = 1 ∨ n = 2 ∨ n = 3 ∨ n = 4 ∨ n = 5 by omega) with rfl | rfl | rfl | rfl | rfl | rfl
  all_goals
    go_enter Try.func54, Try.ntmps54
    go_wp2
    go_ret
    exact ⟨rfl, rfl⟩
/-- x is a set of the first n columns. -/
def isA (n x : Int) : Bool := decide ((0 ≤ n ∧ n ≤ 5) ∧ 0 ≤ x ∧ x ≤ 2 ^ n.toNat - 1)
theorem isA_any (n x : Int) (w : World) :
    Calls Try.prog 33 #[.int .i64 n, .int .i64 x] w fun e w' => e = .returned (.bool (isA n x)) ∧ w = w' := by
  by_cases hn : 0 ≤ n ∧ n ≤ 5
  · have h1 : decide (0 ≤ n ∧ n ≤ 5) = true := by simp [hn]
    go_enter Try.func33, Try.ntmps33
    go_wp2_with fail
    refine (in_any _ _ _ _).mono ?_
    rintro e w' ⟨rfl, rfl⟩
    go_wp2_with fail
    refine (all_any n _ hn.1 hn.2).mono ?_
    rintro e w' ⟨rfl, rfl⟩
    go_wp2_with fail
    refine (in_any _ _ _ _).mono ?_
    rintro e w' ⟨rfl, rfl⟩
    go_wp2_with fail
    go_ret
    exact ⟨ret_b (by unfold isA; simp [hn]), rfl⟩
  · have h1 : decide (0 ≤ n ∧ n ≤ 5) = false := by simp only [hn, decide_false]
    go_enter Try.func33, Try.ntmps33
    go_wp2_with fail
    refine (in_any _ _ _ _).mono ?_
    rintro e w' ⟨rfl, rfl⟩
    go_wp2_with fail
    go_ret
    exact ⟨ret_b (by unfold isA; simp only [hn, false_and, decide_false]), rfl⟩
def valB (x : Int) : Bool := decide (0 ≤ x ∧ x ≤ 31)
theorem valid_any (x : Int) (w : World) :
    Calls Try.prog 71 #[.int .i64 x] w fun e w' => e = .returned (.bool (valB x)) ∧ w = w' := by
  go_enter Try.func71, Try.ntmps71
  go_wp2_with fail
  refine (isA_any _ _ _).mono ?_
  rintro e w' ⟨rfl, rfl⟩
  go_wp2_with fail
  go_ret
  exact ⟨ret_b (by unfold isA valB; simp), rfl⟩

set_option maxHeartbeats 800000 in
theorem membersS_any (x : Int) (w : World) :
    Calls Try.prog 49 #[.int .i64 x] w (RetI (mems x) w) := by
  obtain ⟨i0, hi, hz0, hz1, hz2⟩ := info_parts info3i
  have HI : Hid (_ ∧ _ ∧ _ ∧ _) := Lib.hid ⟨hi, hz0, hz1, hz2⟩
  clear hi hz0 hz1 hz2
  by_cases hx : 0 ≤ x ∧ x ≤ 31
  · obtain ⟨X, rfl⟩ : ∃ X : Nat, x = (X : Int) := ⟨x.toNat, by omega⟩
    have hv : valB (X : Int) = true := by unfold valB; simp [hx]
    have he : mems (X : Int) = memN X 5 := by unfold mems; rw [if_pos hx]; rfl
    have HE := Lib.hid he
    clear he
    have HV := Lib.hid (valid_any (X : Int))
    go_enter Try.func49, Try.ntmps49
    go_wp2_with fail
    go_loopw [3, 4] (fun ov iv wr => ∃ (k : Nat) (l : List Int), k ≤ 5 ∧ iv = .int .i64 (k : Int) ∧ Hid (l = memN X k) ∧ OwnI wr w.heap.size ov l ∧ Below w.heap.size w wr) (fun _ iv _ => (5 - intOf iv).toNat)
    case atStart => exact ⟨0, [], by omega, rfl, Lib.hid rfl, OwnI.made (World.ownsRow_made w #[] 0 (Nat.le_refl _) (by unfold maxLen; omega) rfl), (Below.refl _ _).alloc (Nat.le_refl _) _⟩
    case round =>
      obtain ⟨k, l, hk, rfl, hl, ho, hb⟩ := hrel
      by_cases hlt : k < 5
      · have hll : l.length ≤ 5 := by rw [hl.out]; have := memN_len X k; omega
        have hbit := bit_test X k
        by_cases hB : bitB X k = true
        · rw [hB] at hbit
          go_wp2_with fail
          refine (HV.out _).mono ?_
          rintro e w' ⟨rfl, rfl⟩
          go_wp2_with (at_builtin; refine wpList_append_own _ rfl _ _ 65 rfl w.heap.size 3 i0 (.int .i64 0) 1 8 Try.underlying65 HI.out.1 HI.out.2.1 HI.out.2.2.1 HI.out.2.2.2 rfl (by decide) _ _ _ rfl (World.ownsRow.alloc ho _) ⟨wr.heap.size, 0, none⟩ 1 1 [.int .i64 (k : Int)] rfl rfl (cell_one_new _ _ _) (one_i64 _) (by unfold maxLen; omega) (by omega) (le_alloc hb (Nat.le_refl _) _) ?_; intro v' w1 hown' hgrow _)
          have ho' := OwnI.snoc hown'
          have hb' := (hb.alloc hb.size (.cells #[.int .i64 (k : Int)] 3)).grown hgrow (by simp; have := hb.size; omega) (fun k hk => (OwnI.lt ho k hk).1)
          clear hown' hgrow
          go_wp2_with fail
          go_roundw
          case rel => exact ⟨k + 1, _, by omega, by go_num, Lib.hid (by rw [memN_succ, if_pos hB, ← hl.out]), ho', hb'⟩
          case measure => simp [intOf]; omega
        · have hB2 : bitB X k = false := by simpa using hB
          rw [hB2] at hbit
          go_wp2_with fail
          refine (HV.out _).mono ?_
          rintro e w' ⟨rfl, rfl⟩
          go_wp2_with fail
          go_roundw
          case rel => exact ⟨k + 1, _, by omega, by go_num, Lib.hid (by rw [memN_succ, if_neg hB, ← hl.out]), ho, hb⟩
          case measure => simp [intOf]; omega
      · obtain rfl : k = 5 := by omega
        go_wp2_with fail
        go_ret
        exact ⟨_, rfl, by rw [HE.out, ← hl.out]; exact ho, hb⟩
  · have hv : valB x = false := by unfold valB; simp only [hx, decide_false]
    have he : mems x = [] := by unfold mems; rw [if_neg hx]
    have HE := Lib.hid he
    clear he hx
    have HV := Lib.hid (valid_any x)
    go_enter Try.func49, Try.ntmps49
    go_wp2_with fail
    refine wp_loop_rounds 1 ?_
    rw [rounds_succ]
    go_wp2_with fail
    refine (HV.out _).mono ?_
    rintro e w' ⟨rfl, rfl⟩
    go_wp2_with fail
    go_ret
    exact ⟨_, rfl, by rw [HE.out]; exact OwnI.made (World.ownsRow_made w #[] 0 (Nat.le_refl _) (by unfold maxLen; omega) rfl), (Below.refl _ _).alloc (Nat.le_refl _) _⟩
end Go.Proofs.Ytficnbeciohpfaa
