/- EncodeFixed, the program's and the model's, by contract: both return the big-endian digits. Conditions: none (the width and sign cases are separate theorems). -/
import Derived.Test.YtcjjlgkimklegaaDoorLeaf
import Derived.Test.YtcjjlgkimklegaaDoorKit
namespace Go.Proofs.YtcjjlgkimklegaaDoor
open Go.RowKit

def SEF (n : Int) (k : Nat) (m : Int) (s : ByteArray) : Prop := 0 ≤ m ∧ m ≤ 9223372036854775807 ∧ m = n / 256 ^ k ∧ s.data.toList = be k n
theorem SEF.start {n : Int} (h3 : 0 ≤ n) (h4 : n ≤ 9223372036854775807) : SEF n 0 n ⟨#[]⟩ := ⟨h3, h4, by simp, rfl⟩
theorem SEF.step {n m : Int} {k : Nat} {s : ByteArray} (h : SEF n k m s) : SEF n (k + 1) (m / 256) (strOfNums [m % 256] ++ s) := by
  obtain ⟨h1, h2, h3, h4⟩ := h
  refine ⟨by omega, by omega, by rw [h3, div_pow_succ], ?_⟩
  rw [str_add, h4, be_front, ← h3]; simp [strOfNums]
theorem SEF.size {n m : Int} {k : Nat} {s : ByteArray} (h : SEF n k m s) : s.size = k := by rw [str_size, h.2.2.2, be_length]

def efB (n wd : Int) : ByteArray := ⟨(if n / 256 ^ wd.toNat = 0 then be wd.toNat n else []).toArray⟩
theorem efB_bad {n m wd : Int} {s : ByteArray} (h : SEF n wd.toNat m s) (hp : 0 < m) : efB n wd = ⟨#[]⟩ := by
  unfold efB; rw [← h.2.2.1, if_neg (by omega)]
theorem efB_good {n m wd : Int} {s : ByteArray} (h : SEF n wd.toNat m s) (hp : m ≤ 0) : efB n wd = s := by
  have h0 := h.1
  unfold efB; rw [← h.2.2.1, if_pos (by omega)]; exact str_ext h.2.2.2.symm
set_option maxHeartbeats 400000 in
theorem specEF (n wd : Int) (w : World) (h1 : 1 ≤ wd) (h2 : wd ≤ 7) (h3 : 0 ≤ n) (h4 : n ≤ 9223372036854775807) :
    Calls Tryd.prog 14 #[.int .i64 n, .int .i64 wd] w fun e w' => e = .returned (.string (efB n wd)) ∧ Below w.heap.size w w' := by
  have hin : decide (1 ≤ wd ∧ wd ≤ 7) = true := by simp [h1, h2]
  have hc1 := @conv_one Tryd.prog 5 22 9 Tryd.underlying22 Tryd.underlying5 Tryd.underlying9
  go_enter Tryd.func14, Tryd.ntmps14
  go_wp2_with (go_at_call 26; refine (in_any _ _ _ _).mono ?_; rintro e w' ⟨rfl, rfl⟩)
  go_loopw [0, 5, 6] (fun nn out i wr => ∃ (k : Nat) (s : ByteArray) (m : Int), (k : Int) ≤ wd ∧ i = .int .i64 k ∧ nn = .int .i64 m ∧ out = .string s ∧ SEF n k m s ∧ Below w.heap.size w wr) (fun _ _ i _ => wd.toNat - (intOf i).toNat)
  case atStart => exact ⟨0, _, n, by omega, rfl, rfl, rfl, SEF.start h3 h4, Below.refl _ _⟩
  case round =>
    obtain ⟨k, s, m, hk, rfl, rfl, rfl, hs, hb⟩ := hrel
    have hm := hs.1
    have hm2 := hs.2.1
    have hsz : (s.size : Int) = (k : Int) := by rw [hs.size]
    have hsz2 : s.size ≤ 7 := by omega
    clear hsz
    by_cases hlt : (k : Int) < wd
    · have hcat : (strOfNums [m % 256]).size + s.size ≤ 9223372036854775807 := by rw [strOfNums_size]; simp; omega
      go_wp2_with fail
      go_roundw
      case rel => exact ⟨k + 1, _, _, by omega, by go_num, rfl, rfl, hs.step, hb.alloc hb.size _⟩
      case measure => simp [intOf]; omega
    · go_wp2_with fail
      all_goals go_ret
      all_goals
        obtain rfl : k = wd.toNat := by omega
      · exact ⟨ret_s (efB_bad hs (by assumption)), hb⟩
      · exact ⟨ret_s (efB_good hs (by assumption)), hb⟩
theorem specEF_none (n wd : Int) (w : World) (h : ¬ (1 ≤ wd ∧ wd ≤ 7) ∨ n < 0) :
    Calls Tryd.prog 14 #[.int .i64 n, .int .i64 wd] w fun e w' => e = .returned (.string ⟨#[]⟩) ∧ Below w.heap.size w w' := by
  by_cases hin : (1 ≤ wd ∧ wd ≤ 7)
  · have hn : n < 0 := by omega
    have hin : decide (1 ≤ wd ∧ wd ≤ 7) = true := by simp [hin]
    go_enter Tryd.func14, Tryd.ntmps14
    go_wp2_with (go_at_call 26; refine (in_any _ _ _ _).mono ?_; rintro e w' ⟨rfl, rfl⟩)
    go_ret
    exact ⟨rfl, Below.refl _ _⟩
  · have hin : decide (1 ≤ wd ∧ wd ≤ 7) = false := by simp only [hin, decide_false]
    go_enter Tryd.func14, Tryd.ntmps14
    go_wp2_with (go_at_call 26; refine (in_any _ _ _ _).mono ?_; rintro e w' ⟨rfl, rfl⟩)
    go_ret
    exact ⟨rfl, Below.refl _ _⟩
theorem implEF_none (n wd : Int) (w : World) (h : ¬ (1 ≤ wd ∧ wd ≤ 7) ∨ n < 0) :
    Calls Tryd.prog 12 #[.int .i64 n, .int .i64 wd] w fun e w' => e = .returned (.string ⟨#[]⟩) ∧ Below w.heap.size w w' := by
  by_cases hin : (1 ≤ wd ∧ wd ≤ 7)
  · have hn : n < 0 := by omega
    have hin : decide (1 ≤ wd ∧ wd ≤ 7) = true := by simp [hin]
    go_enter Tryd.func12, Tryd.ntmps12
    go_wp2_with (go_at_call 25; refine (isWidth_any _ _).mono ?_; rintro e w' ⟨rfl, rfl⟩)
    go_ret
    exact ⟨rfl, Below.refl _ _⟩
  · have hin : decide (1 ≤ wd ∧ wd ≤ 7) = false := by simp only [hin, decide_false]
    go_enter Tryd.func12, Tryd.ntmps12
    go_wp2_with (go_at_call 25; refine (isWidth_any _ _).mono ?_; rintro e w' ⟨rfl, rfl⟩)
    go_ret
    exact ⟨rfl, Below.refl _ _⟩
theorem info8 : (Tryd.prog.info? 5).map (fun i => (i.zero, i.size, i.bytes)) = some (some (.int .u8 0), 1, 1) := by kernel_rfl
def IEF (n : Int) (d r : Nat) (m : Int) (l : List UInt8) : Prop := ∃ j, j + r = d ∧ 0 ≤ m ∧ m ≤ 9223372036854775807 ∧ m = n / 256 ^ j ∧ l = List.replicate r 0 ++ be j n
theorem IEF.start {n : Int} {d : Nat} (h3 : 0 ≤ n) (h4 : n ≤ 9223372036854775807) : IEF n d d n (List.replicate d 0) := ⟨0, by omega, h3, h4, by simp, by simp [be]⟩
theorem IEF.bd {n m : Int} {d r : Nat} {l : List UInt8} (h : IEF n d r m l) : 0 ≤ m ∧ m ≤ 9223372036854775807 ∧ r ≤ d ∧ l.length = d := by
  obtain ⟨j, h0, h1, h2, h3, h4⟩ := h
  exact ⟨h1, h2, by omega, by rw [h4]; simp [be_length]; omega⟩
theorem IEF.step {n m : Int} {d q : Nat} {l : List UInt8} (h : IEF n d (q + 1) m l) : IEF n d q (m / 256) (l.set q (UInt8.ofNat (m % 256).toNat)) := by
  obtain ⟨j, h0, h1, h2, h3, h4⟩ := h
  exact ⟨j + 1, by omega, by omega, by omega, by rw [h3, div_pow_succ], by rw [h4, h3, be_set]⟩
theorem IEF.fin {n m : Int} {d : Nat} {l : List UInt8} (h : IEF n d 0 m l) (hz : n / 256 ^ d = 0) : efB n d = ⟨l.toArray⟩ := by
  obtain ⟨j, h0, h1, h2, h3, h4⟩ := h
  obtain rfl : j = d := by omega
  unfold efB
  rw [show (j : Int).toNat = j by omega, if_pos hz, h4]; simp
theorem efB_far {n : Int} {d : Nat} (h : n / 256 ^ d ≠ 0) : efB n d = ⟨#[]⟩ := by
  unfold efB; rw [show (d : Int).toNat = d by omega, if_neg h]
set_option maxHeartbeats 400000 in
theorem implEF_far (n : Int) (d : Nat) (w : World) (h1 : 1 ≤ d) (h2 : d ≤ 7) (h3 : 0 ≤ n) (h5 : n / 256 ^ d ≠ 0) :
    Calls Tryd.prog 12 #[.int .i64 n, .int .i64 d] w fun e w' => e = .returned (.string (efB n d)) ∧ Below w.heap.size w w' := by
  have hin : decide (1 ≤ (d : Int) ∧ (d : Int) ≤ 7) = true := by simp; omega
  have hz : (n / 2 ^ (8 * d) != 0) = true := by rw [pow_bytes]; simpa using h5
  go_enter Tryd.func12, Tryd.ntmps12
  go_wp2_with (go_at_call 25; refine (isWidth_any _ _).mono ?_; rintro e w' ⟨rfl, rfl⟩)
  go_ret
  exact ⟨ret_s (efB_far h5), Below.refl _ _⟩
set_option maxHeartbeats 400000 in
theorem implEF (n : Int) (d : Nat) (w : World) (h1 : 1 ≤ d) (h2 : d ≤ 7) (h3 : 0 ≤ n) (h4 : n ≤ 9223372036854775807) (h5 : n / 256 ^ d = 0) :
    Calls Tryd.prog 12 #[.int .i64 n, .int .i64 d] w fun e w' => e = .returned (.string (efB n d)) ∧ Below w.heap.size w w' := by
  have hin : decide (1 ≤ (d : Int) ∧ (d : Int) ≤ 7) = true := by simp; omega
  have hz : (n / 2 ^ (8 * d) != 0) = false := by rw [pow_bytes]; simpa using h5
  have H5 := Lib.hid h5
  clear h5
  obtain ⟨i0, hi, hz0, hz1, hz2⟩ := info_parts info8
  go_enter Tryd.func12, Tryd.ntmps12
  go_wp2_with (first | (go_at_call 25; refine (isWidth_any _ _).mono ?_; rintro e w' ⟨rfl, rfl⟩) | (at_make; refine wpList_make_full _ rfl _ _ 22 rfl w.heap.size 5 i0 (.int .u8 0) 1 Tryd.underlying22 hi hz0 hz1 .i64 .i64 _ _ d rfl rfl rfl rfl (by rw [hz2]; omega) (by unfold maxLen; omega) (Nat.le_refl _) ?_; intro w0 hown0 hgrow0))
  have hown := OwnB.full hown0
  have hb0 := (Below.refl w.heap.size w).grown hgrow0 (Nat.le_refl _) (by simp)
  have HZ := Lib.hid hz2
  clear hown0 hgrow0 hz2 hz1 hz0
  go_loopw [0, 6] (fun nn i wr => ∃ (r : Nat) (iv m : Int) (l : List UInt8), i = .int .i64 iv ∧ Hid (iv = (r : Int) - 1) ∧ nn = .int .i64 m ∧ OwnB wr w.heap.size 5 (.slice (some ⟨w.heap.size, 0, none⟩) d d) l ∧ IEF n d r m l ∧ Below w.heap.size w wr) (fun _ i _ => (intOf i + 1).toNat)
  case atStart => exact ⟨d, _, n, _, rfl, Lib.hid rfl, rfl, hown, IEF.start h3 h4, hb0⟩
  case round =>
    obtain ⟨r, iv, m, l, rfl, hiv, rfl, ho, hr, hb⟩ := hrel
    obtain ⟨q1, q2, q3, q4⟩ := hr.bd
    have Q4 := Lib.hid q4
    clear q4
    cases r with
    | zero =>
      obtain rfl : iv = -1 := by have := hiv.out; omega
      have hcv := fun wx (h : OwnB wx w.heap.size 5 (.slice (some ⟨w.heap.size, 0, none⟩) d d) l) => OwnB.conv (P := Tryd.prog) Tryd.underlying22 Tryd.underlying5 Tryd.underlying9 h
      have hc := hcv wr ho
      clear hcv
      go_wp2_with fail
      go_ret
      exact ⟨ret_s (hr.fin H5.out), hb⟩
    | succ q =>
      obtain rfl : iv = (q : Int) := by have := hiv.out; omega
      have hcell := ho.cell q (by have := Q4.out; omega)
      have hfz := ho.frozen q
      go_wp2_with fail
      go_roundw
      case rel => exact ⟨q, _, _, _, rfl, Lib.hid rfl, rfl, ho.store q (by omega) (by omega), hr.step, hb.setCell (Nat.le_refl _) _⟩
      case measure => simp [intOf]
end Go.Proofs.YtcjjlgkimklegaaDoor
