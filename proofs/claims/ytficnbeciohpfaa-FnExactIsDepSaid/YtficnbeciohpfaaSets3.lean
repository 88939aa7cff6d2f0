/- Texts of sets: the model's FormatAttributes, by contract. Conditions: none. -/
import Derived.Test.YtficnbeciohpfaaSets
namespace Go.Proofs.Ytficnbeciohpfaa
open Go.RowKit

/-- The letters of the first k columns that X has. -/
def lets (X k : Nat) : List UInt8 := ((List.range k).filter (bitB X)).map fun (i : Nat) => UInt8.ofNat (65 + i)
theorem lets_succ (X k : Nat) : lets X (k + 1) = if bitB X k = true then lets X k ++ [UInt8.ofNat (65 + k)] else lets X k := by
  unfold lets
  rw [List.range_succ, List.filter_append, List.map_append]
  by_cases h : bitB X k = true
  · rw [if_pos h]; simp [h]
  · rw [if_neg h]; simp [h]
theorem lets_len (X k : Nat) : (lets X k).length ≤ k := by
  have := List.length_filter_le (bitB X) (List.range k)
  simpa [lets] using this
def noneB : ByteArray := ⟨#[110, 111, 110, 101]⟩
/-- The text of x, empty if x is no set of columns. -/
def fmtA (x : Int) : ByteArray := if 0 ≤ x ∧ x ≤ 31 then (if lets x.toNat 5 = [] then noneB else ⟨(lets x.toNat 5).toArray⟩) else ⟨#[]⟩
theorem abc_at (k : Nat) (hk : k < 5) : (({ data := #[65, 66, 67, 68, 69] } : ByteArray).extract k (k + 1)).data.toList = [UInt8.ofNat (65 + k)] := by
  rcases (show k = 0 ∨ k = 1 ∨ k = 2 ∨ k = 3 ∨ k = 4 by omega) with rfl | rfl | rfl | rfl | rfl <;> rfl

set_option maxHeartbeats 1600000 in
theorem formatS_any (x : Int) (w : World) :
    Calls Try.prog 44 #[.int .i64 x] w fun e w' => e = .returned (.string (fmtA x)) ∧ Below w.heap.size w w' := by
  by_cases hx : 0 ≤ x ∧ x ≤ 31
  · obtain ⟨X, rfl⟩ : ∃ X : Nat, x = (X : Int) := ⟨x.toNat, by omega⟩
    have hv : valB (X : Int) = true := by unfold valB; simp [hx]
    have HE : Hid (fmtA (X : Int) = if lets X 5 = [] then noneB else ⟨(lets X 5).toArray⟩) := Lib.hid (by unfold fmtA; rw [if_pos hx]; rfl)
    have HV := Lib.hid (valid_any (X : Int))
    go_enter Try.func44, Try.ntmps44
    go_wp2_with fail
    refine (HV.out _).mono ?_
    rintro e w' ⟨rfl, rfl⟩
    go_wp2_with fail
    go_loopw [3, 4] (fun sv iv wr => ∃ (k : Nat) (s : ByteArray), k ≤ 5 ∧ iv = .int .i64 (k : Int) ∧ sv = .string s ∧ Hid (s.data.toList = lets X k) ∧ Below w.heap.size w wr) (fun _ iv _ => (5 - intOf iv).toNat)
    case atStart => exact ⟨0, _, by omega, rfl, rfl, Lib.hid rfl, Below.refl _ _⟩
    case round =>
      obtain ⟨k, s, hk, rfl, rfl, hs, hb⟩ := hrel
      have hsz : s.size ≤ 5 := by rw [str_size, hs.out]; have := lets_len X k; omega
      by_cases hlt : k < 5
      · have hbit := bit_test X k
        by_cases hB : bitB X k = true
        · rw [hB] at hbit
          have hab := Lib.hid (abc_at k hlt)
          go_wp2_with fail
          go_roundw
          case rel => exact ⟨k + 1, _, by omega, by go_num, rfl, Lib.hid (by rw [lets_succ, if_pos hB, str_add, hs.out, hab.out]), hb⟩
          case measure => simp [intOf]; omega
        · have hB2 : bitB X k = false := by simpa using hB
          rw [hB2] at hbit
          go_wp2_with fail
          go_roundw
          case rel => exact ⟨k + 1, _, by omega, by go_num, rfl, Lib.hid (by rw [lets_succ, if_neg hB, hs.out]), hb⟩
          case measure => simp [intOf]; omega
      · obtain rfl : k = 5 := by omega
        by_cases hl0 : lets X 5 = []
        · have hse : s.toList.isEmpty = true := by rw [ByteArray.toList_eq, hs.out, hl0]; rfl
          go_wp2_with fail
          go_ret
          exact ⟨ret_s (by rw [HE.out, if_pos hl0]; rfl), hb⟩
        · have hse : s.toList.isEmpty = false := by
            rw [ByteArray.toList_eq, hs.out]
            cases hq : lets X 5 with
            | nil => exact absurd hq hl0
            | cons a b => rfl
          go_wp2_with fail
          go_ret
          exact ⟨ret_s (by rw [HE.out, if_neg hl0]; apply str_ext; rw [hs.out]), hb⟩
  · have hv : valB x = false := by unfold valB; simp only [hx, decide_false]
    have HE : Hid (fmtA x = ⟨#[]⟩) := Lib.hid (by unfold fmtA; rw [if_neg hx])
    clear hx
    have HV := Lib.hid (valid_any x)
    go_enter Try.func44, Try.ntmps44
    go_wp2_with fail
    refine (HV.out _).mono ?_
    rintro e w' ⟨rfl, rfl⟩
    go_wp2_with fail
    go_ret
    exact ⟨ret_s (by rw [HE.out]), Below.refl _ _⟩
end Go.Proofs.Ytficnbeciohpfaa
