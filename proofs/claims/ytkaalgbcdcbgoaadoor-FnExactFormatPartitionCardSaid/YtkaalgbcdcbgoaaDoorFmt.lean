/- FormatInt of the model, by contract: the decimal numeral of every int. Conditions: the number fits an int64. -/
import Derived.Test.YtkaalgbcdcbgoaaDoorKit
import Derived.Test.YtkaalgbcdcbgoaaDoorRows
import Derived.Lib.ItoaNum
namespace Go.Proofs.YtkaalgbcdcbgoaaDoor
open Go.RowKit

def dz (u : Nat) : List UInt8 := if u = 0 then [] else Lib.decDigits u
theorem dz_step {u : Nat} (h : u ≠ 0) : dz u = dz (u / 10) ++ [UInt8.ofNat (48 + u % 10)] := by
  unfold dz
  rw [if_neg h, Lib.decDigits]
  by_cases h10 : u < 10
  · rw [dif_pos h10, if_pos (by omega), List.nil_append, Nat.mod_eq_of_lt h10]
  · rw [dif_neg h10, if_neg (by omega)]
theorem dec_len (u : Nat) (h : u ≤ 9223372036854775808) : (Lib.decDigits u).length ≤ 100 := by
  suffices hh : ∀ k u, u < 10 ^ k → (Lib.decDigits u).length ≤ k + 1 by
    have := hh 19 u (by omega); omega
  intro k
  induction k with
  | zero => intro u h; rw [Lib.decDigits, dif_pos (by omega)]; simp
  | succ k ih =>
    intro u h
    rw [Lib.decDigits]
    by_cases h10 : u < 10
    · rw [dif_pos h10]; simp
    · rw [dif_neg h10, List.length_append]
      have := ih (u / 10) (by rw [Nat.pow_succ] at h; omega)
      simp; omega
/-- What is left, and what has been written. -/
def FI (u p : Nat) (s : ByteArray) : Prop := u ≠ 0 ∧ p ≤ u ∧ dz p ++ s.data.toList = Lib.decDigits u
theorem FI.start {u : Nat} (h : u ≠ 0) : FI u u ⟨#[]⟩ := ⟨h, Nat.le_refl _, by unfold dz; rw [if_neg h]; simp⟩
theorem FI.step {u p : Nat} {s : ByteArray} (h : FI u p s) (hp : p ≠ 0) : FI u (p / 10) (strOfNums [48 + ((p % 10 : Nat) : Int)] ++ s) := by
  obtain ⟨h1, h2, h3⟩ := h
  refine ⟨h1, by omega, ?_⟩
  rw [str_add, ← h3, dz_step hp, List.append_assoc]
  rw [strOfNums_data, List.map_cons, List.map_nil, show (48 + ((p % 10 : Nat) : Int)).toNat = 48 + p % 10 by omega]
theorem FI.fin {u : Nat} {s : ByteArray} (h : FI u 0 s) : s.data.toList = Lib.decDigits u := by
  have := h.2.2; simpa [dz] using this
theorem FI.size {u p : Nat} {s : ByteArray} (h : FI u p s) (hu : u ≤ 9223372036854775808) : s.size ≤ 100 := by
  have h1 := dec_len u hu
  rw [← h.2.2, List.length_append] at h1
  rw [str_size]; omega
def itoaB (n : Int) : ByteArray := ⟨(Lib.itoa n).toArray⟩
theorem itoaB_pos {u : Nat} {s : ByteArray} (h : FI u 0 s) : itoaB (u : Int) = s := by
  apply str_ext
  unfold itoaB Lib.itoa
  rw [if_neg (by omega), h.fin]; simp
theorem itoaB_neg {u : Nat} {s : ByteArray} (h : FI u 0 s) : itoaB (-(u : Int)) = ⟨#[45]⟩ ++ s := by
  apply str_ext
  have := h.1
  unfold itoaB Lib.itoa
  rw [if_pos (by omega), str_add, h.fin]; simp

theorem specFI_zero (w : World) : Calls Tryd.prog 10 #[.int .i64 0] w fun e w' => e = .returned (.string (itoaB 0)) ∧ Below w.heap.size w w' := by
  go_enter Tryd.func10, Tryd.ntmps10
  go_wp2_with fail
  go_ret
  exact ⟨ret_s (by unfold itoaB Lib.itoa; rw [if_neg (by omega), Lib.decDigits, dif_pos (by decide)]; rfl), Below.refl _ _⟩

set_option maxHeartbeats 800000 in
theorem specFI_pos (u : Nat) (hu : u ≠ 0) (hb9 : (u : Int) ≤ 9223372036854775807) (w : World) :
    Calls Tryd.prog 10 #[.int .i64 (u : Int)] w fun e w' => e = .returned (.string (itoaB (u : Int))) ∧ Below w.heap.size w w' := by
  have hc1 := @conv_one Tryd.prog 5 35 9 Tryd.underlying35 Tryd.underlying5 Tryd.underlying9
  have hz : ((u : Int) == 0) = false := by simp; omega
  have hng : decide ((u : Int) < 0) = false := by simp
  go_enter Tryd.func10, Tryd.ntmps10
  go_wp2_with fail
  go_loopw [0, 3] (fun nn out wr => ∃ (p : Nat) (s : ByteArray), nn = .int .i64 (p : Int) ∧ out = .string s ∧ (p : Int) ≤ 9223372036854775807 ∧ FI u p s ∧ Below w.heap.size w wr) (fun nn _ _ => (intOf nn).toNat)
  case atStart => exact ⟨u, _, rfl, rfl, hb9, FI.start hu, Below.refl _ _⟩
  case round =>
    obtain ⟨p, s, rfl, rfl, hp9, hf, hb⟩ := hrel
    have hsz := hf.size (by omega)
    by_cases hp : p = 0
    · subst hp
      go_wp2_with fail
      go_ret
      exact ⟨ret_s (itoaB_pos hf), hb⟩
    · have hpn : ((p : Int) != 0) = true := by simp; omega
      have hcat : (strOfNums [48 + (p : Int) % 10]).size + s.size ≤ 9223372036854775807 := by rw [strOfNums_size]; simp; omega
      have HP := Lib.hid hp
      clear hp
      go_wp2_with fail
      go_roundw
      case rel => exact ⟨p / 10, _, by go_num, rfl, by omega, hf.step HP.out, hb.alloc hb.size _⟩
      case measure => have := HP.out; simp [intOf]; omega

theorem neg_mod (p : Nat) : (-(p : Int)).tmod 10 = -((p % 10 : Nat) : Int) := by
  rw [Int.neg_tmod, Int.tmod_eq_emod_of_nonneg (by omega)]; omega
theorem neg_div (p : Nat) (h : (p : Int) ≤ 9223372036854775808) : wrap64 ((-(p : Int)).tdiv 10) = -((p / 10 : Nat) : Int) := by
  rw [Int.neg_tdiv, Int.tdiv_eq_ediv_of_nonneg (by omega)]; unfold wrap64; omega
theorem neg_size (s : ByteArray) : (({ data := #[45] } : ByteArray) ++ s).size = 1 + s.size := by
  rw [str_size, str_add, List.length_append, ← str_size s]; rfl
set_option maxHeartbeats 800000 in
theorem specFI_neg (u : Nat) (hu : u ≠ 0) (hb9 : (u : Int) ≤ 9223372036854775808) (w : World) :
    Calls Tryd.prog 10 #[.int .i64 (-(u : Int))] w fun e w' => e = .returned (.string (itoaB (-(u : Int)))) ∧ Below w.heap.size w w' := by
  have hc1 := @conv_one Tryd.prog 5 35 9 Tryd.underlying35 Tryd.underlying5 Tryd.underlying9
  have hz : (-(u : Int) == 0) = false := by simp; omega
  have hng : decide (-(u : Int) < 0) = true := by simp; omega
  go_enter Tryd.func10, Tryd.ntmps10
  go_wp2_with fail
  go_loopw [0, 3] (fun nn out wr => ∃ (p : Nat) (s : ByteArray), nn = .int .i64 (-(p : Int)) ∧ out = .string s ∧ (p : Int) ≤ 9223372036854775808 ∧ FI u p s ∧ Below w.heap.size w wr) (fun nn _ _ => (- intOf nn).toNat)
  case atStart => exact ⟨u, _, rfl, rfl, hb9, FI.start hu, Below.refl _ _⟩
  case round =>
    obtain ⟨p, s, rfl, rfl, hp9, hf, hb⟩ := hrel
    have hsz := hf.size (by omega)
    by_cases hp : p = 0
    · subst hp
      have hcat : (({ data := #[45] } : ByteArray)).size + s.size ≤ 9223372036854775807 := by show 1 + s.size ≤ _; omega
      go_wp2_with fail
      go_ret
      exact ⟨ret_s (itoaB_neg hf), hb⟩
    · have hpn : (-(p : Int) != 0) = true := by simp; omega
      have hcat : (strOfNums [48 + (p : Int) % 10]).size + s.size ≤ 9223372036854775807 := by rw [strOfNums_size]; simp; omega
      have hcat2 : (strOfNums [48 + -((p : Int) % 10)]).size + s.size ≤ 9223372036854775807 := by rw [strOfNums_size]; simp; omega
      have HP := Lib.hid hp
      have e1 := neg_mod p
      have e2 := neg_div p hp9
      clear hp
      by_cases hd : 0 < (p : Int) % 10
      · go_wp2_with fail
        go_roundw
        case rel => exact ⟨p / 10, _, by go_num, rfl, by omega, hf.step HP.out, hb.alloc hb.size _⟩
        case measure => have := HP.out; simp [intOf]; omega
      · have hz2 : strOfNums [48 + -((p : Int) % 10)] = strOfNums [48 + ((p % 10 : Nat) : Int)] := by congr 2; omega
        have HZ := Lib.hid hz2
        clear hz2
        go_wp2_with fail
        go_roundw
        case rel => exact ⟨p / 10, _, by go_num, rfl, by omega, by rw [HZ.out]; exact hf.step HP.out, hb.alloc hb.size _⟩
        case measure => have := HP.out; simp [intOf]; omega
/-- The model's FormatInt at every int. -/
theorem specFI (n : Int) (h0 : -9223372036854775808 ≤ n) (h1 : n ≤ 9223372036854775807) (w : World) :
    Calls Tryd.prog 10 #[.int .i64 n] w fun e w' => e = .returned (.string (itoaB n)) ∧ Below w.heap.size w w' := by
  rcases Int.lt_trichotomy n 0 with h | h | h
  · obtain ⟨u, rfl⟩ : ∃ u : Nat, n = -(u : Int) := ⟨n.natAbs, by omega⟩
    exact specFI_neg u (by omega) (by omega) w
  · subst h; exact specFI_zero w
  · obtain ⟨u, rfl⟩ : ∃ u : Nat, n = (u : Int) := ⟨n.natAbs, by omega⟩
    exact specFI_pos u (by omega) h1 w
end Go.Proofs.YtkaalgbcdcbgoaaDoor
