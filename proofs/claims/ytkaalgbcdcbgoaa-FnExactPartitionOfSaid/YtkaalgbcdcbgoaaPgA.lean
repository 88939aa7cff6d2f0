/- The program's ErrorOf and isClass, by contract. Conditions: as stated. -/
import Derived.Test.YtkaalgbcdcbgoaaParI
import Derived.Test.YtkaalgbcdcbgoaaImA
namespace Go.Proofs.Ytkaalgbcdcbgoaa
open Go.RowKit

set_option maxHeartbeats 800000 in
theorem implErrorOf_one (v : Value) (ll : List (List Int)) (w : World) (hr : ReadSS w v ll) (hl : ll.length ≤ 1048576) (ht : ∀ i, i < ll.length → (ll.getD i []).length ≤ 1048576) :
    Calls Try.prog 24 #[v] w fun e w' => e = .returned (.int .i64 (errTo ll ll.length)) ∧ w = w' := by
  obtain ⟨a, cap, rfl, ha⟩ := hr
  have HA := Lib.hid ha
  have HT := Lib.hid ht
  have HB := Lib.hid (errTo_bd ll ht)
  clear ha ht
  go_enter Try.func24, Try.ntmps24
  go_wp2_with fail
  go_loop [3, 8] (fun sv iv => ∃ k : Nat, k ≤ ll.length ∧ iv = .int .i64 (k : Int) ∧ sv = .int .i64 (errTo ll k)) (fun _ iv => ll.length - (intOf iv).toNat)
  case atStart => exact ⟨0, by omega, rfl, rfl⟩
  case round =>
    obtain ⟨k, hk, rfl, rfl⟩ := hrel
    by_cases hlt : k < ll.length
    · obtain ⟨xa, u, rfl, hx, hu⟩ := HA.out k hlt
      obtain ⟨au, cu, rfl, -⟩ := hu
      have hlr := HT.out k hlt
      have hbd := HB.out k hk
      have HS : Hid (errTo ll (k + 1) = errTo ll k + max 0 (((ll.getD k []).length : Int) - 1)) := Lib.hid rfl
      obtain ⟨E, hE⟩ : ∃ E, E = errTo ll k := ⟨_, rfl⟩
      obtain ⟨R, hR⟩ : ∃ R, R = (ll.getD k []).length := ⟨_, rfl⟩
      rw [← hE] at hbd HS ⊢
      rw [← hR] at HS hlr hx
      clear hE hR
      have z0 : (0 : Int) ≤ (k : Int) := by omega
      have z1 : (k : Int) < (ll.length : Int) := by omega
      go_wp2_with fail
      go_round
      case rel => exact ⟨k + 1, by omega, by go_num, by rw [HS.out]; congr 2; split <;> omega⟩
      case measure => simp [intOf]; omega
    · obtain rfl : k = ll.length := by omega
      go_wp2_with fail
      go_ret
      exact ⟨rfl, rfl⟩
theorem implErrorOf_any (v : Value) (p : List (List Int)) (w : World) (hr : ReadSS w v p) (hl : p.length ≤ 1048576) (ht : tot p ≤ 1048576) :
    Calls Try.prog 24 #[v] w fun e w' => e = .returned (.int .i64 (errTo p p.length)) ∧ Below w.heap.size w w' :=
  (implErrorOf_one v p w hr hl (fun i hi => by have := tot_get hi; omega)).mono fun _ _ ⟨a, b⟩ => ⟨a, by rw [← b]; exact Below.refl _ _⟩

/-- At least two rows, all from 0 on and below rows, in ascending order: place by place. -/
def inC (rows : Int) (r : List Int) (k : Nat) : Bool := decide ((if k = 0 then 0 else r.getD (k - 1) 0 + 1) ≤ r.getD k 0 ∧ r.getD k 0 < rows)
def isC (rows : Int) (r : List Int) : Bool := decide (2 ≤ r.length) && (List.range r.length).all (inC rows r)
def leastC (r : List Int) : Nat → Int
  | 0 => 0
  | k + 1 => r.getD k 0 + 1
theorem range_snoc {p : Nat → Bool} {k : Nat} (h : (List.range k).all p = true) (hp : p k = true) : (List.range (k + 1)).all p = true := by
  rw [List.range_succ, List.all_append, h]; simp [hp]
theorem range_not {p : Nat → Bool} {k n : Nat} (hk : k < n) (hp : p k = false) : (List.range n).all p = false := by
  cases h : (List.range n).all p with
  | false => rfl
  | true => have := List.all_eq_true.1 h k (List.mem_range.2 hk); rw [hp] at this; cases this
set_option maxHeartbeats 1600000 in
theorem isClass_any (v : Value) (r : List Int) (rows : Int) (w : World) (hr : ReadI w v r) (hl : r.length ≤ 1048576) (h1 : rows ≤ 40) :
    Calls Try.prog 48 #[v, .int .i64 rows] w fun e w' => e = .returned (.bool (isC rows r)) ∧ w = w' := by
  obtain ⟨a, cap, rfl, ha⟩ := hr
  have HA := Lib.hid ha
  clear ha
  by_cases h2 : r.length < 2
  · have hx : (r.length : Int) < 2 := by omega
    have HX : Hid (isC rows r = false) := Lib.hid (by unfold isC; rw [decide_eq_false (by omega)]; rfl)
    go_enter Try.func48, Try.ntmps48
    go_wp2_with fail
    go_ret
    exact ⟨ret_b HX.out, rfl⟩
  · have hx : ¬ (r.length : Int) < 2 := by omega
    have HY : Hid ((List.range r.length).all (inC rows r) = true → isC rows r = true) := Lib.hid (fun h => by unfold isC; rw [decide_eq_true (by omega), h]; rfl)
    have HN : Hid ((List.range r.length).all (inC rows r) = false → isC rows r = false) := Lib.hid (fun h => by unfold isC; rw [h]; simp)
    go_enter Try.func48, Try.ntmps48
    go_wp2_with fail
    go_loop [5, 13] (fun sv iv => ∃ k : Nat, k ≤ r.length ∧ iv = .int .i64 (k : Int) ∧ (∃ l : Int, sv = .int .i64 l ∧ 0 ≤ l ∧ l ≤ 40 ∧ Hid (l = leastC r k)) ∧ Hid ((List.range k).all (inC rows r) = true)) (fun _ iv => r.length - (intOf iv).toNat)
    case atStart => exact ⟨0, by omega, rfl, ⟨0, rfl, by omega, by omega, Lib.hid rfl⟩, Lib.hid rfl⟩
    case round =>
      obtain ⟨k, hk, rfl, ⟨l, rfl, hl0, hl40, hL⟩, hall⟩ := hrel
      by_cases hlt : k < r.length
      · obtain ⟨xr, rfl, hxk⟩ := HA.out k hlt
        have HI : Hid (inC rows r k = decide (l ≤ r.getD k 0 ∧ r.getD k 0 < rows)) := Lib.hid (by
          unfold inC; rw [hL.out]; cases k with
          | zero => rfl
          | succ n => rfl)
        have HL : Hid (leastC r (k + 1) = r.getD k 0 + 1) := Lib.hid rfl
        rw [get_getD r k hlt] at hxk
        obtain ⟨y, hy⟩ : ∃ y, y = r.getD k 0 := ⟨_, rfl⟩
        rw [← hy] at hxk HI HL
        clear hy
        have z0 : (0 : Int) ≤ (k : Int) := by omega
        have z1 : (k : Int) < (r.length : Int) := by omega
        by_cases hc1 : y < l
        · have HX : Hid (isC rows r = false) := Lib.hid (HN.out (range_not hlt (by rw [HI.out, decide_eq_false]; omega)))
          go_wp2_with fail
          go_ret
          exact ⟨ret_b HX.out, rfl⟩
        · by_cases hc2 : rows ≤ y
          · have HX : Hid (isC rows r = false) := Lib.hid (HN.out (range_not hlt (by rw [HI.out, decide_eq_false]; omega)))
            go_wp2_with fail
            go_ret
            exact ⟨ret_b HX.out, rfl⟩
          · have HX := Lib.hid (range_snoc hall.out (by rw [HI.out, decide_eq_true]; omega))
            have hy1 : 0 ≤ y + 1 := by omega
            have hy2 : y + 1 ≤ 40 := by omega
            have hc3 : ¬ rows ≤ y := hc2
            go_wp2_with fail
            go_round
            case rel => exact ⟨k + 1, by omega, by go_num, ⟨y + 1, by go_num, hy1, hy2, Lib.hid HL.out.symm⟩, HX⟩
            case measure => simp [intOf]; omega
      · obtain rfl : k = r.length := by omega
        have HX := Lib.hid (HY.out hall.out)
        go_wp2_with fail
        go_ret
        exact ⟨ret_b HX.out, rfl⟩
end Go.Proofs.Ytkaalgbcdcbgoaa
