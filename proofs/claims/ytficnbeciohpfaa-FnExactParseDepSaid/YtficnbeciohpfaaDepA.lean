/- The model's IsDep, by contract. Conditions: none. -/
import Derived.Test.YtficnbeciohpfaaSets
import Derived.Test.YtficnbeciohpfaaSpecT
namespace Go.Proofs.Ytficnbeciohpfaa
open Go.RowKit

/-- A dependency of n columns. -/
def depB (n l r : Int) : Bool := decide (1 ≤ n ∧ n ≤ 5) && (isA n l && decide (0 ≤ r ∧ r ≤ n - 1))
theorem depB_iff {n l r : Int} : depB n l r = true ↔ (1 ≤ n ∧ n ≤ 5) ∧ isA n l = true ∧ 0 ≤ r ∧ r ≤ n - 1 := by unfold depB; simp
set_option maxHeartbeats 800000 in
theorem isDep_any (n l r : Int) (w : World) :
    Calls Try.prog 10 #[.int .i64 n, .agg #[.int .i64 l, .int .i64 r]] w fun e w' => e = .returned (.bool (depB n l r)) ∧ Below w.heap.size w w' := by
  have hb1 := (Below.refl w.heap.size w).alloc (Nat.le_refl _) (.cells #[.int .i64 l, .int .i64 r] 25)
  obtain ⟨c0, c1⟩ := zero2 w 25 (.int .i64 l) (.int .i64 r)
  by_cases hn : 1 ≤ n ∧ n ≤ 5
  · have h1 : decide (1 ≤ n ∧ n ≤ 5) = true := decide_eq_true hn
    have h0 : 0 ≤ n := by omega
    have h2 : n ≤ 5 := hn.2
    cases ha : isA n l with
    | true =>
      have HE : Hid (depB n l r = (decide (0 ≤ r) && decide (r ≤ n - 1))) := Lib.hid (by unfold depB; rw [h1, ha]; simp)
      have HA := Lib.hid (isA_any n l)
      have HI := Lib.hid (fun w' => in_any n 1 5 w')
      have HR := Lib.hid (fun w' => in_any r 0 (n - 1) w')
      rw [h1] at HI
      rw [ha] at HA
      clear ha hn h1
      go_enter Try.func10, Try.ntmps10
      go_wp2_with fail
      refine (HI.out _).mono ?_
      rintro e w' ⟨rfl, rfl⟩
      go_wp2_with fail
      refine (HA.out _).mono ?_
      rintro e w' ⟨rfl, rfl⟩
      go_wp2_with fail
      refine (HR.out _).mono ?_
      rintro e w' ⟨rfl, rfl⟩
      go_wp2_with fail
      go_ret
      exact ⟨ret_b HE.out, hb1⟩
    | false =>
      have HE : Hid (depB n l r = false) := Lib.hid (by unfold depB; rw [ha]; simp)
      have HA := Lib.hid (isA_any n l)
      have HI := Lib.hid (fun w' => in_any n 1 5 w')
      rw [h1] at HI
      rw [ha] at HA
      clear ha hn h1
      go_enter Try.func10, Try.ntmps10
      go_wp2_with fail
      refine (HI.out _).mono ?_
      rintro e w' ⟨rfl, rfl⟩
      go_wp2_with fail
      refine (HA.out _).mono ?_
      rintro e w' ⟨rfl, rfl⟩
      go_wp2_with fail
      go_ret
      exact ⟨ret_b HE.out, hb1⟩
  · have h1 : decide (1 ≤ n ∧ n ≤ 5) = false := decide_eq_false hn
    have HE : Hid (depB n l r = false) := Lib.hid (by unfold depB; rw [h1]; simp)
    have HI := Lib.hid (fun w' => in_any n 1 5 w')
    rw [h1] at HI
    clear hn h1
    go_enter Try.func10, Try.ntmps10
    go_wp2_with fail
    refine (HI.out _).mono ?_
    rintro e w' ⟨rfl, rfl⟩
    go_wp2_with fail
    go_ret
    exact ⟨ret_b HE.out, hb1⟩
/-- Two cells of a block of the call's own, behind two more blocks. -/
theorem dep_box (w : World) (T : TypeId) (A C : Obj) (a b : Value) : (((w.alloc A).alloc (.cells #[a, b] T)).alloc C).cell? ⟨w.heap.size + 1, 0, none⟩ = some a ∧ (((w.alloc A).alloc (.cells #[a, b] T)).alloc C).cell? ⟨w.heap.size + 1, 1, none⟩ = some b := by
  obtain ⟨h0, h1⟩ := zero2 (w.alloc A) T a b
  have hs : (w.alloc A).heap.size = w.heap.size + 1 := by simp
  rw [hs] at h0 h1
  have hb := (Below.refl ((w.alloc A).alloc (.cells #[a, b] T)).heap.size ((w.alloc A).alloc (.cells #[a, b] T))).alloc (Nat.le_refl _) C
  exact ⟨(hb.cell (p := ⟨w.heap.size + 1, 0, none⟩) (by simp)).trans h0, (hb.cell (p := ⟨w.heap.size + 1, 1, none⟩) (by simp)).trans h1⟩
theorem toDep_any (l r : Int) (w : World) :
    Calls Try.prog 11 #[.agg #[.int .i64 l, .int .i64 r]] w fun e w' => e = .returned (.agg #[.int .i64 l, .int .i64 r]) ∧ Below w.heap.size w w' := by
  have hb1 := (Below.refl w.heap.size w).alloc (Nat.le_refl _) (.cells #[.int .i64 l, .int .i64 r] 23)
  have hb2 := (hb1.alloc hb1.size (.cells #[.int .i64 l, .int .i64 r] 25))
  have hb3 := (hb2.alloc hb2.size (.cells #[.int .i64 l, .int .i64 r] 25))
  obtain ⟨c0, c1⟩ := zero2 w 23 (.int .i64 l) (.int .i64 r)
  obtain ⟨d0, d1⟩ := dep_box w 25 (.cells #[.int .i64 l, .int .i64 r] 23) (.cells #[.int .i64 l, .int .i64 r] 25) (.int .i64 l) (.int .i64 r)
  go_enter Try.func11, Try.ntmps11
  go_wp2_with fail
  exact bodyPost_ret (v := .agg #[.int .i64 l, .int .i64 r]) (by simp [results, Try.results11, go_sem, d0, d1]) rfl ⟨rfl, hb3⟩
end Go.Proofs.Ytficnbeciohpfaa
