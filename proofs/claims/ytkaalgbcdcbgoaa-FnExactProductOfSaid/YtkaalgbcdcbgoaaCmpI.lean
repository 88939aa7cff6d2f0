/- cmp.Compare, slices.Compare at ints, by contract (as PrjA, over fewer texts). Conditions: as stated. -/
import Derived.Test.YtkaalgbcdcbgoaaRowOrd
import Derived.Test.YtkaalgbcdcbgoaaImB
import Derived.Test.YtkaalgbcdcbgoaaSpecT
import Derived.Deep.RegionHeld3
import Derived.RegionTactic
namespace Go.Proofs.Ytkaalgbcdcbgoaa
open Go.RowKit

def cmpI (x y : Int) : Int := if x < y then -1 else if y < x then 1 else 0
theorem isNaN_any (x : Int) (w : World) : Calls Try.prog 79 #[.int .i64 x] w fun e w' => e = .returned (.bool false) ∧ w = w' := by
  go_enter Try.func79, Try.ntmps79
  go_wp2
  go_ret
  exact ⟨ret_b (by simp), rfl⟩
theorem cmpI_any (x y : Int) (w : World) : Calls Try.prog 67 #[.int .i64 x, .int .i64 y] w fun e w' => e = .returned (.int .i64 (cmpI x y)) ∧ w = w' := by
  have HN := Lib.hid (fun z w => isNaN_any z w)
  by_cases h1 : x < y
  · have HE : Hid (cmpI x y = -1) := Lib.hid (by unfold cmpI; rw [if_pos h1])
    go_enter Try.func67, Try.ntmps67
    go_wp2_with (go_at_call 79; refine (HN.out _ _).mono ?_; rintro e w' ⟨rfl, rfl⟩)
    go_ret
    exact ⟨by rw [HE.out]; rfl, rfl⟩
  · by_cases h2 : y < x
    · have HE : Hid (cmpI x y = 1) := Lib.hid (by unfold cmpI; rw [if_neg h1, if_pos h2])
      go_enter Try.func67, Try.ntmps67
      go_wp2_with (go_at_call 79; refine (HN.out _ _).mono ?_; rintro e w' ⟨rfl, rfl⟩)
      go_ret
      exact ⟨by rw [HE.out]; rfl, rfl⟩
    · have HE : Hid (cmpI x y = 0) := Lib.hid (by unfold cmpI; rw [if_neg h1, if_neg h2])
      go_enter Try.func67, Try.ntmps67
      go_wp2_with (go_at_call 79; refine (HN.out _ _).mono ?_; rintro e w' ⟨rfl, rfl⟩)
      go_ret
      exact ⟨by rw [HE.out]; rfl, rfl⟩

/-- The order of rows as a number. -/
def cmpL : List Int → List Int → Int
  | [], [] => 0
  | [], _ :: _ => -1
  | _ :: _, [] => 1
  | a :: s, b :: t => if cmpI a b = 0 then cmpL s t else cmpI a b
theorem cmpI_zero {x y : Int} : cmpI x y = 0 ↔ x = y := by
  unfold cmpI
  split
  · constructor <;> (intro; omega)
  · split
    · constructor <;> (intro; omega)
    · constructor <;> (intro; omega)
theorem cmpL_less : ∀ (a b : List Int), decide (cmpL a b < 0) = lessR a b
  | [], [] => rfl
  | [], _ :: _ => rfl
  | _ :: _, [] => rfl
  | a :: s, b :: t => by
    unfold cmpL lessR
    by_cases h : a = b
    · rw [if_pos (cmpI_zero.2 h), if_pos h]; exact cmpL_less s t
    · rw [if_neg (fun e => h (cmpI_zero.1 e)), if_neg h]
      unfold cmpI
      by_cases h1 : a < b
      · simp [h1]
      · rw [if_neg h1, if_pos (by omega)]; simp [h1]
theorem cmpL_drop {a b : List Int} {k : Nat} (h1 : k < a.length) (h2 : k < b.length) : cmpL (a.drop k) (b.drop k) = if cmpI a[k] b[k] = 0 then cmpL (a.drop (k + 1)) (b.drop (k + 1)) else cmpI a[k] b[k] := by
  rw [List.drop_eq_getElem_cons h1, List.drop_eq_getElem_cons h2]; rfl

set_option maxHeartbeats 800000 in
theorem slCompare_any (v v' : Value) (l l' : List Int) (w : World) (hr : ReadI w v l) (hr' : ReadI w v' l') (hl : l.length ≤ 1000000000) (hl' : l'.length ≤ 1000000000) :
    Calls Try.prog 61 #[v, v'] w fun e w' => e = .returned (.int .i64 (cmpL l l')) ∧ w = w' := by
  obtain ⟨a, cap, rfl, ha⟩ := hr
  obtain ⟨a', cap', rfl, ha'⟩ := hr'
  have HA := Lib.hid ha
  have HA' := Lib.hid ha'
  clear ha ha'
  have HC := Lib.hid (fun x y w => cmpI_any x y w)
  go_enter Try.func61, Try.ntmps61
  go_wp2_with fail
  go_loop [11] (fun iv => ∃ (k : Nat), k ≤ l.length ∧ k ≤ l'.length ∧ iv = .int .i64 (k : Int) ∧ Hid (cmpL l l' = cmpL (l.drop k) (l'.drop k))) (fun iv => l.length - (intOf iv).toNat)
  case atStart => exact ⟨0, by omega, by omega, rfl, Lib.hid (by simp)⟩
  case round =>
    obtain ⟨k, hk, hk', rfl, hsame⟩ := hrel
    by_cases hlt : k < l.length
    · obtain ⟨x, rfl, hx⟩ := HA.out k hlt
      have z0 : (0 : Int) ≤ (k : Int) := by omega
      have z1 : (k : Int) < (l.length : Int) := by omega
      by_cases hlt' : k < l'.length
      · obtain ⟨x', rfl, hx'⟩ := HA'.out k hlt'
        have z2 : (k : Int) < (l'.length : Int) := by omega
        have z3 : ¬ (l'.length : Int) ≤ (k : Int) := by omega
        have HS := Lib.hid (cmpL_drop hlt hlt')
        obtain ⟨y, hy⟩ : ∃ y, l[k] = y := ⟨_, rfl⟩
        obtain ⟨y', hy'⟩ : ∃ y', l'[k] = y' := ⟨_, rfl⟩
        rw [hy, hy'] at HS
        rw [hy] at hx
        rw [hy'] at hx'
        clear hy hy'
        have HQ := Lib.hid (cmpI_any y y' w)
        by_cases he : cmpI y y' = 0
        · rw [he] at HQ
          have HE := Lib.hid he
          clear he
          go_wp2_with fail
          refine HQ.out.mono ?_
          rintro e w' ⟨rfl, rfl⟩
          go_wp2_with fail
          go_round
          case rel => exact ⟨k + 1, by omega, by omega, by go_num, Lib.hid (by rw [hsame.out, HS.out, if_pos HE.out])⟩
          case measure => simp [intOf]; omega
        · have HE := Lib.hid he
          obtain ⟨z, hz⟩ : ∃ z, cmpI y y' = z := ⟨_, rfl⟩
          have hn : (z != 0) = true := by rw [← hz]; simpa using he
          have HZ := Lib.hid hz
          rw [hz] at HQ
          clear he hz
          go_wp2_with fail
          refine HQ.out.mono ?_
          rintro e w' ⟨rfl, rfl⟩
          go_wp2_with fail
          go_ret
          exact ⟨by rw [hsame.out, HS.out, if_neg HE.out, HZ.out]; rfl, rfl⟩
      · have z3 : (l'.length : Int) ≤ (k : Int) := by omega
        go_wp2_with fail
        go_ret
        exact ⟨by rw [hsame.out, List.drop_eq_getElem_cons hlt, List.drop_of_length_le (by omega : l'.length ≤ k)]; rfl, rfl⟩
    · by_cases hlt' : l.length < l'.length
      · have z3 : (l.length : Int) < (l'.length : Int) := by omega
        have HK : Hid (k = l.length) := Lib.hid (by omega)
        go_wp2_with fail
        go_ret
        exact ⟨by rw [hsame.out, List.drop_of_length_le (by have := HK.out; omega : l.length ≤ k), List.drop_eq_getElem_cons (by have := HK.out; omega : k < l'.length)]; rfl, rfl⟩
      · have z3 : ¬ (l.length : Int) < (l'.length : Int) := by omega
        have HK : Hid (k = l.length) := Lib.hid (by omega)
        go_wp2_with fail
        go_ret
        exact ⟨by rw [hsame.out, List.drop_of_length_le (by have := HK.out; omega : l.length ≤ k), List.drop_of_length_le (by omega : l'.length ≤ k)]; rfl, rfl⟩
end Go.Proofs.Ytkaalgbcdcbgoaa
