/- DecodeFixed, the program's and the model's, by contract: both return the number that the first bytes encode. Conditions: none (the cases are separate theorems). -/
import Derived.Test.YtcjjlgkimklegaaDoorLeaf
import Derived.Test.YtcjjlgkimklegaaDoorKit
import Derived.Test.YtcjjlgkimklegaaDoorBits
namespace Go.Proofs.YtcjjlgkimklegaaDoor
open Go.RowKit

def fbe (l : List UInt8) : Int := l.foldl (fun (a : Int) (b : UInt8) => a * 256 + (b.toNat : Int)) 0
theorem fbe_snoc (l : List UInt8) (b : UInt8) : fbe (l ++ [b]) = fbe l * 256 + (b.toNat : Int) := by simp [fbe]
theorem fbe_bd0 (l : List UInt8) : 0 ≤ fbe l ∧ fbe l < 256 ^ l.length := by
  suffices h : ∀ m (l : List UInt8), l.length = m → 0 ≤ fbe l ∧ fbe l < 256 ^ m from h _ l rfl
  intro m
  induction m with
  | zero => intro l hl; have := List.eq_nil_of_length_eq_zero hl; subst this; simp [fbe]
  | succ m ih =>
    intro l hl
    obtain ⟨l', b, rfl⟩ : ∃ l' b, l = l' ++ [b] := by
      refine ⟨l.dropLast, l.getLast (by intro h; subst h; simp at hl), ?_⟩
      exact (List.dropLast_concat_getLast _).symm
    obtain ⟨h1, h2⟩ := ih l' (by simpa using hl)
    have := b.toNat_lt
    rw [fbe_snoc, Int.pow_succ]
    omega
theorem take_snoc (s : ByteArray) (k : Nat) (h : k < s.size) : s.data.toList.take (k + 1) = s.data.toList.take k ++ [s[k]] := by
  rw [List.take_succ_eq_append_getElem (by simpa using h)]; rfl
theorem fbe_take (s : ByteArray) (k : Nat) (h : k < s.size) : fbe (s.data.toList.take (k + 1)) = fbe (s.data.toList.take k) * 256 + (s[k].toNat : Int) := by
  rw [take_snoc s k h, fbe_snoc]
theorem fbe_bd (s : ByteArray) (k : Nat) (h : k ≤ 6) : 0 ≤ fbe (s.data.toList.take k) ∧ fbe (s.data.toList.take k) < 281474976710656 := by
  obtain ⟨h1, h2⟩ := fbe_bd0 (s.data.toList.take k)
  refine ⟨h1, Int.lt_of_lt_of_le h2 ?_⟩
  have : (s.data.toList.take k).length ≤ 6 := by simp; omega
  generalize (s.data.toList.take k).length = m at this
  match m, this with
  | 0, _ => decide
  | 1, _ => decide
  | 2, _ => decide
  | 3, _ => decide
  | 4, _ => decide
  | 5, _ => decide
  | 6, _ => decide
set_option maxHeartbeats 400000 in
theorem implDF (s : ByteArray) (d : Nat) (w : World) (hs : s.size ≤ maxLen) (h1 : 1 ≤ d) (h2 : d ≤ 7) (h3 : d ≤ s.size) :
    Calls Tryd.prog 13 #[.string s, .int .i64 d] w fun e w' => e = .returned (.tuple #[.int .i64 (fbe (s.data.toList.take d)), .bool true]) ∧ w = w' := by
  unfold maxLen at hs
  have hin : decide (1 ≤ (d : Int) ∧ (d : Int) ≤ 7) = true := by simp; omega
  go_enter Tryd.func13, Tryd.ntmps13
  go_wp2_with (go_at_call 25; refine (isWidth_any _ _).mono ?_; rintro e w' ⟨rfl, rfl⟩)
  go_loop [6, 7] (fun n i => ∃ k : Nat, k ≤ d ∧ i = .int .i64 k ∧ n = .int .i64 (fbe (s.data.toList.take k))) (fun _ i => d - (intOf i).toNat)
  case atStart => exact ⟨0, Nat.zero_le _, rfl, rfl⟩
  case round =>
    obtain ⟨k, hk, rfl, rfl⟩ := hrel
    by_cases hlt : k < d
    · obtain ⟨hb1, hb2⟩ := fbe_bd s k (by omega)
      have hks : k < s.size := by omega
      have hbt := s[k].toNat_lt
      go_wp2_with fail
      go_round
      case rel => exact ⟨k + 1, by omega, by go_num, by rw [fbe_take s k hks, i64_or_add 8 (by omega) (by omega) (by omega) (by omega) (by omega) (by omega)]⟩
      case measure => simp [intOf]; omega
    · go_wp2_with fail
      go_ret2
      obtain rfl : k = d := by omega
      exact ⟨rfl, rfl⟩
theorem implDF_none (s : ByteArray) (d : Int) (w : World) (h : ¬ (1 ≤ d ∧ d ≤ 7) ∨ (s.size : Int) < d) :
    Calls Tryd.prog 13 #[.string s, .int .i64 d] w fun e w' => e = .returned (.tuple #[.int .i64 0, .bool false]) ∧ w = w' := by
  by_cases hin : (1 ≤ d ∧ d ≤ 7)
  · have hn : (s.size : Int) < d := by omega
    have hin : decide (1 ≤ d ∧ d ≤ 7) = true := by simp [hin]
    go_enter Tryd.func13, Tryd.ntmps13
    go_wp2_with (go_at_call 25; refine (isWidth_any _ _).mono ?_; rintro e w' ⟨rfl, rfl⟩)
    go_ret2
    exact ⟨rfl, rfl⟩
  · have hin : decide (1 ≤ d ∧ d ≤ 7) = false := by simp only [hin, decide_false]
    go_enter Tryd.func13, Tryd.ntmps13
    go_wp2_with (go_at_call 25; refine (isWidth_any _ _).mono ?_; rintro e w' ⟨rfl, rfl⟩)
    go_ret2
    exact ⟨rfl, rfl⟩
end Go.Proofs.YtcjjlgkimklegaaDoor
