/- The program's hasColumn and hasRow, by contract. Conditions: as stated. -/
import Derived.Test.YtchdceglcjjggaaImT
namespace Go.Proofs.Ytchdceglcjjggaa
open Go.RowKit

/-- A valid table that has this column; that has this row. -/
def colB (c : Int) (ll : List (List Int)) (q : Int) : Bool := isT c ll && decide (0 ≤ q ∧ q ≤ c - 1)
def atRowB (c : Int) (ll : List (List Int)) (i : Int) : Bool := isT c ll && decide (0 ≤ i ∧ i ≤ (ll.length : Int) - 1)
set_option maxHeartbeats 800000 in
theorem hasColumn_any (c q : Int) (v : Value) (ll : List (List Int)) (w : World) (hr : ReadSS w v ll) (hl : ll.length ≤ 1048576) (ht : ∀ i, i < ll.length → (ll.getD i []).length ≤ 1048576) :
    Calls Try.prog 45 #[.agg #[.int .i64 c, v], .int .i64 q] w fun e w' => e = .returned (.bool (colB c ll q)) ∧ Below w.heap.size w w' := by
  have hb1 := (Below.refl w.heap.size w).alloc (Nat.le_refl _) (.cells #[.int .i64 c, v] 26)
  have HV := Lib.hid (implIsTable_any c v ll (w.alloc (.cells #[.int .i64 c, v] 26)) (hr.kept hb1) hl ht)
  obtain ⟨a, cap, rfl, -⟩ := hr
  unfold colB
  cases hv : isT c ll with
  | true =>
    rw [hv] at HV
    clear hv
    by_cases h0 : 0 ≤ q
    · by_cases h1 : q ≤ c - 1
      · have HE := Lib.hid (decide_eq_true (And.intro h0 h1))
        have h2 : q < c := by omega
        clear h1
        go_enter Try.func45, Try.ntmps45
        go_wp2_with fail
        refine HV.out.mono ?_
        rintro e w' ⟨rfl, b⟩
        obtain ⟨c0, c1⟩ := box2 b
        have hb2 := hb1.trans (b.mono hb1.size)
        clear b hb1
        go_wp2_with fail
        go_ret
        exact ⟨ret_b (by rw [HE.out]; rfl), hb2⟩
      · have HE := Lib.hid (decide_eq_false (p := 0 ≤ q ∧ q ≤ c - 1) (by omega))
        have h2 : ¬ q < c := by omega
        clear h1
        go_enter Try.func45, Try.ntmps45
        go_wp2_with fail
        refine HV.out.mono ?_
        rintro e w' ⟨rfl, b⟩
        obtain ⟨c0, c1⟩ := box2 b
        have hb2 := hb1.trans (b.mono hb1.size)
        clear b hb1
        go_wp2_with fail
        go_ret
        exact ⟨ret_b (by rw [HE.out, decide_eq_false (p := q < c) (by omega)]; rfl), hb2⟩
    · have HE := Lib.hid (decide_eq_false (p := 0 ≤ q ∧ q ≤ c - 1) (by omega))
      go_enter Try.func45, Try.ntmps45
      go_wp2_with fail
      refine HV.out.mono ?_
      rintro e w' ⟨rfl, b⟩
      have hb2 := hb1.trans (b.mono hb1.size)
      clear b hb1
      go_wp2_with fail
      go_ret
      exact ⟨ret_b (by rw [Bool.and_eq_false_iff]; exact Or.inl (decide_eq_false (by omega))), hb2⟩
  | false =>
    rw [hv] at HV
    clear hv
    go_enter Try.func45, Try.ntmps45
    go_wp2_with fail
    refine HV.out.mono ?_
    rintro e w' ⟨rfl, b⟩
    have hb2 := hb1.trans (b.mono hb1.size)
    clear b hb1
    go_wp2_with fail
    go_ret
    exact ⟨ret_b (by rw [Bool.false_and]), hb2⟩
set_option maxHeartbeats 800000 in
theorem hasRow_any (c q : Int) (v : Value) (ll : List (List Int)) (w : World) (hr : ReadSS w v ll) (hl : ll.length ≤ 1048576) (ht : ∀ i, i < ll.length → (ll.getD i []).length ≤ 1048576) :
    Calls Try.prog 55 #[.agg #[.int .i64 c, v], .int .i64 q] w fun e w' => e = .returned (.bool (atRowB c ll q)) ∧ Below w.heap.size w w' := by
  have hb1 := (Below.refl w.heap.size w).alloc (Nat.le_refl _) (.cells #[.int .i64 c, v] 26)
  have HV := Lib.hid (implIsTable_any c v ll (w.alloc (.cells #[.int .i64 c, v] 26)) (hr.kept hb1) hl ht)
  obtain ⟨a, cap, rfl, -⟩ := hr
  unfold atRowB
  cases hv : isT c ll with
  | true =>
    rw [hv] at HV
    clear hv
    by_cases h0 : 0 ≤ q
    · by_cases h1 : q ≤ (ll.length : Int) - 1
      · have HE := Lib.hid (decide_eq_true (And.intro h0 h1))
        have h2 : q < (ll.length : Int) := by omega
        clear h1
        go_enter Try.func55, Try.ntmps55
        go_wp2_with fail
        refine HV.out.mono ?_
        rintro e w' ⟨rfl, b⟩
        obtain ⟨c0, c1⟩ := box2 b
        have hb2 := hb1.trans (b.mono hb1.size)
        clear b hb1
        go_wp2_with fail
        go_ret
        exact ⟨ret_b (by rw [HE.out]; rfl), hb2⟩
      · have HE := Lib.hid (decide_eq_false (p := 0 ≤ q ∧ q ≤ (ll.length : Int) - 1) (by omega))
        have h2 : ¬ q < (ll.length : Int) := by omega
        clear h1
        go_enter Try.func55, Try.ntmps55
        go_wp2_with fail
        refine HV.out.mono ?_
        rintro e w' ⟨rfl, b⟩
        obtain ⟨c0, c1⟩ := box2 b
        have hb2 := hb1.trans (b.mono hb1.size)
        clear b hb1
        go_wp2_with fail
        go_ret
        exact ⟨ret_b (by rw [HE.out, decide_eq_false (p := q < (ll.length : Int)) (by omega)]; rfl), hb2⟩
    · have HE := Lib.hid (decide_eq_false (p := 0 ≤ q ∧ q ≤ (ll.length : Int) - 1) (by omega))
      go_enter Try.func55, Try.ntmps55
      go_wp2_with fail
      refine HV.out.mono ?_
      rintro e w' ⟨rfl, b⟩
      have hb2 := hb1.trans (b.mono hb1.size)
      clear b hb1
      go_wp2_with fail
      go_ret
      exact ⟨ret_b (by rw [Bool.and_eq_false_iff]; exact Or.inl (decide_eq_false (by omega))), hb2⟩
  | false =>
    rw [hv] at HV
    clear hv
    go_enter Try.func55, Try.ntmps55
    go_wp2_with fail
    refine HV.out.mono ?_
    rintro e w' ⟨rfl, b⟩
    have hb2 := hb1.trans (b.mono hb1.size)
    clear b hb1
    go_wp2_with fail
    go_ret
    exact ⟨ret_b (by rw [Bool.false_and]), hb2⟩
end Go.Proofs.Ytchdceglcjjggaa
