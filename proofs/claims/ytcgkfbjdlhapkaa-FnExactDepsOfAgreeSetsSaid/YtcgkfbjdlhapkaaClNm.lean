/- The model's chapter 11: IsCover, by contract. Conditions: as stated. -/
import Derived.Test.YtcgkfbjdlhapkaaYa19
import Derived.Laws.StructEq
import Derived.Deep.RegionLaw
namespace Go.Proofs.Ytcgkfbjdlhapkaa
open Go.RowKit

def icAt (n : Int) (l : List (Int × Int)) (i : Nat) : Bool := !impB n (l.eraseIdx i) (l.getD i (0, 0)) && decide (redD n l (l.getD i (0, 0)) = l.getD i (0, 0))
def icB (n : Int) (l : List (Int × Int)) : Bool := arD n l && (List.range l.length).all (icAt n l)
theorem ic_not {n : Int} {l : List (Int × Int)} {i : Nat} (hi : i < l.length) (h : icAt n l i = false) : icB n l = false := by
  unfold icB
  rw [Bool.and_eq_false_iff]
  right
  rw [Bool.eq_false_iff]
  intro h2
  rw [List.all_eq_true] at h2
  rw [h2 i (List.mem_range.2 hi)] at h
  cases h
theorem ic_all {n : Int} {l : List (Int × Int)} (ha : arD n l = true) (h : ∀ j, j < l.length → icAt n l j = true) : icB n l = true := by
  unfold icB
  rw [ha, Bool.true_and, List.all_eq_true]
  exact fun j hj => h j (List.mem_range.1 hj)
set_option maxRecDepth 20000 in
theorem eq_dep11 (a b c d : Int) (w : World) : (Op.equalIn 10000 44 (.agg #[.int .i64 a, .int .i64 b]) (.agg #[.int .i64 c, .int .i64 d])).run Try.prog w = .ok (a == c && b == d) w := by
  have u3 := Try.underlying3
  have a3 := Try.isAgg3
  have z3 := Try.sizeOf3
  have hS : Try.prog.underlying 44 = some (.struct (Try.prog.fieldsOf 44)) := by kernel_rfl
  have hp : Try.prog.stoodInHeld 44 = false := by kernel_rfl
  rw [show (10000 : Nat) = 9999 + 1 from rfl, run_equalIn_agg w 9999 44 _ _ hS hp]
  simp only [Program.fieldsOf, Try.underlying44]
  go_simp
  by_cases h1 : a = c <;> by_cases h2 : b = d <;> simp [h1, h2]
theorem eqP (a b c d : Int) : (a == c && b == d) = decide ((a, b) = (c, d)) := by
  rw [Bool.eq_iff_iff, Bool.and_eq_true, beq_iff_eq, beq_iff_eq, decide_eq_true_iff, Prod.mk.injEq]
section
set_option maxRecDepth 20000
set_option maxHeartbeats 1600000
end
end Go.Proofs.Ytcgkfbjdlhapkaa
