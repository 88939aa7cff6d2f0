/- The leaf functions of the hexadecimal encodings, by contract. Conditions: as stated. -/
import Derived.Test.YtcjjlgkimklegaaDoorKit
import Derived.Test.YtcjjlgkimklegaaDoorRows
namespace Go.Proofs.YtcjjlgkimklegaaDoor
open Go.RowKit

/-- The lowercase hexadecimal digit of x, from 0 to 15. -/
def hexN (x : Int) : Int := if x < 10 then 48 + x else 87 + x
/-- The value of a digit, -1 for any other number. -/
def hexV (c : Int) : Int := if 48 ≤ c ∧ c ≤ 57 then c - 48 else if 97 ≤ c ∧ c ≤ 102 then c - 87 else -1
theorem hexN_bd {x : Int} (h0 : 0 ≤ x) (h1 : x ≤ 15) : 48 ≤ hexN x ∧ hexN x ≤ 102 := by unfold hexN; split <;> omega
theorem hexV_bd (c : Int) : -1 ≤ hexV c ∧ hexV c ≤ 15 := by unfold hexV; split <;> (try split) <;> omega
theorem hexV_hexN {x : Int} (h0 : 0 ≤ x) (h1 : x ≤ 15) : hexV (hexN x) = x := by unfold hexV hexN; split <;> split <;> (try split) <;> omega
theorem hexN_eq {x c : Int} (h0 : 0 ≤ x) (h1 : x ≤ 15) (h : hexN x = c) : hexV c = x := by rw [← h, hexV_hexN h0 h1]
theorem hexV_eq {c : Int} (h : 0 ≤ hexV c) : hexN (hexV c) = c := by
  unfold hexV at h ⊢
  split at h
  · unfold hexN; split <;> omega
  · split at h
    · simp only [*, if_false, and_self, if_true]; unfold hexN; split <;> omega
    · omega

theorem hexValue_any (c : Int) (w : World) (h0 : -2147483648 ≤ c) (h1 : c ≤ 2147483647) :
    Calls Tryd.prog 27 #[.int .i32 c] w fun e w' => e = .returned (.int .i64 (hexV c)) ∧ w = w' := by
  by_cases a1 : 48 ≤ c <;> by_cases a2 : c ≤ 57 <;> by_cases b1 : 97 ≤ c <;> by_cases b2 : c ≤ 102
  all_goals (try (exfalso; omega))
  all_goals
    go_enter Tryd.func27, Tryd.ntmps27
    go_wp2
    go_ret
    exact ⟨ret_int (by unfold hexV; first | (simp [*]; done) | (simp [*]; omega)), rfl⟩
end Go.Proofs.YtcjjlgkimklegaaDoor
