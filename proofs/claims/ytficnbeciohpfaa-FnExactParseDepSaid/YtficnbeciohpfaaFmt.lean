/- FormatInt of the model, by contract: the decimal numeral of every int. Conditions: the number fits an int64. -/
import Derived.Test.YtficnbeciohpfaaKit
import Derived.Test.YtficnbeciohpfaaRows
import Derived.Lib.ItoaNum
namespace Go.Proofs.Ytficnbeciohpfaa
open Go.RowKit

def dz (u : Nat) : List UInt8 := if u = 0 then [] else Lib.decDigits u
theorem dz_step {u : Nat} (h : u ≠ 0) : dz u = dz (u / 10) ++ [UInt8.ofNat (48 + u % 10)] := by
  unfold dz
  rw [if_neg h, Lib.decDigits]
  by_cases h10 : u < 10
  · rw [dif_pos h10, if_pos (by omega), List.nil_append, Nat.mod_eq_of_lt h10]
  · rw [dif_neg h10, if_neg (by omega)]
theorem dec_len (u : Nat) (h : u ≤ 9223372036854775808) : (Lib.decDigits u).length ≤ 100 := by
  suffices hh : ∀ k u, u < 10 ^ k → (Lib.decDigits u).length ≤ k + 1 by
    have := hh 19 u (by omega); omega
  intro k
  induction k with
  | zero => intro u h; rw [Lib.decDigits, dif_pos (by omega)]; simp
  | succ k ih =>
    intro u h
    rw [Lib.decDigits]
    by_cases h10 : u < 10
    · rw [dif_pos h10]; simp
    · rw [dif_neg h10, List.length_append]
      have := ih (u / 10) (by rw [Nat.pow_succ] at h; omega)
      simp; omega
/-- What is left, and what has been written. -/
def FI (u p : Nat) (s : ByteArray) : Prop := u ≠ 0 ∧ p ≤ u ∧ dz p ++ s.data.toList = Lib.decDigits u
theorem FI.start {u : Nat} (h : u ≠ 0) : FI u u ⟨#[]⟩ := ⟨h, Nat.le_refl _, by unfold dz; rw [if_neg h]; simp⟩
theorem FI.step {u p : Nat} {s : ByteArray} (h : FI u p s) (hp : p ≠ 0) : FI u (p / 10) (strOfNums [48 + ((p % 10 : Nat) : Int)] ++ s) := by
  obtain ⟨h1, h2, h3⟩ := h
  refine ⟨h1, by omega, ?_⟩
  rw [str_add, ← h3, dz_step hp, List.append_assoc]
  rw [strOfNums_data, List.map_cons, List.map_nil, show (48 + ((p % 10 : Nat) : Int)).toNat = 48 + p % 10 by omega]
theorem FI.fin {u : Nat} {s : ByteArray} (h : FI u 0 s) : s.data.toList = Lib.decDigits u := by
  have := h.2.2; simpa [dz] using this
theorem FI.size {u p : Nat} {s : ByteArray} (h : FI u p s) (hu : u ≤ 9223372036854775808) : s.size ≤ 100 := by
  have h1 := dec_len u hu
  rw [← h.2.2, List.length_append] at h1
  rw [str_size]; omega
def itoaB (n : Int) : ByteArray := ⟨(Lib.itoa n).toArray⟩
theorem itoaB_pos {u : Nat} {s : ByteArray} (h : FI u 0 s) : itoaB (u : Int) = s := by
  apply str_ext
  unfold itoaB Lib.itoa
  rw [if_neg (by omega), h.fin]; simp
theorem itoaB_neg {u : Nat} {s : ByteArray} (h : FI u 0 s) : itoaB (-(u : Int)) = ⟨#[45]⟩ ++ s := by
  apply str_ext
  have := h.1
  unfold itoaB Lib.itoa
  rw [if_pos (by omega), str_add, h.fin]; simp

theorem neg_mod (p : Nat) : (-(p : Int)).tmod 10 = -((p % 10 : Nat) : Int) := by
  rw [Int.neg_tmod, Int.tmod_eq_emod_of_nonneg (by omega)]; omega
theorem neg_div (p : Nat) (h : (p : Int) ≤ 9223372036854775808) : wrap64 ((-(p : Int)).tdiv 10) = -((p / 10 : Nat) : Int) := by
  rw [Int.neg_tdiv, Int.tdiv_eq_ediv_of_nonneg (by omega)]; unfold wrap64; omega
theorem neg_size (s : ByteArray) : (({ data := #[45] } : ByteArray) ++ s).size = 1 + s.size := by
  rw [str_size, str_add, List.length_append, ← str_size s]; rfl
end Go.Proofs.Ytficnbeciohpfaa
