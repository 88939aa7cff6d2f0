/- Texts of this claim, merged: ClM, ClN. Conditions: as stated. -/
import Derived.Test.YtnbjcelfdppkcadGreatXz14
import Derived.Test.YtnbjcelfdppkcadGreatXz15
import Derived.Test.YtnbjcelfdppkcadGreatXz16
import Derived.Laws.StructEq
import Derived.Deep.RegionLaw
namespace Go.Proofs.YtnbjcelfdppkcadGreat
open Go.RowKit

theorem getD_take2 {l : List (Int × Int)} {k i : Nat} (h : i < k) : (l.take k).getD i (0, 0) = l.getD i (0, 0) := by
  rw [List.getD_eq_getElem?_getD, List.getElem?_take, if_pos h, ← List.getD_eq_getElem?_getD]
theorem getD_drop2 {l : List (Int × Int)} {k i : Nat} : (l.drop k).getD i (0, 0) = l.getD (k + i) (0, 0) := by
  rw [List.getD_eq_getElem?_getD, List.getElem?_drop, ← List.getD_eq_getElem?_getD]
theorem ReadD.take {w : World} {a : Option Addr} {n cap : Nat} {l : List (Int × Int)} (h : ReadD w (.slice a n cap) l) (k : Nat) (hk : k ≤ l.length) (c : Nat) : ReadD w (.slice a k c) (l.take k) := by
  obtain ⟨a', cap', hv, hc⟩ := h
  cases hv
  refine ⟨a, c, by rw [List.length_take, Nat.min_eq_left hk], fun i hi => ?_⟩
  rw [List.length_take, Nat.min_eq_left hk] at hi
  rw [getD_take2 hi]
  exact hc i (by omega)
theorem ReadD.drop {w : World} {b o n cap : Nat} {l : List (Int × Int)} (h : ReadD w (.slice (some ⟨b, o, none⟩) n cap) l) (k : Nat) (c : Nat) : ReadD w (.slice (some ⟨b, o + k * 2, none⟩) (l.length - k) c) (l.drop k) := by
  obtain ⟨a', cap', hv, hc⟩ := h
  cases hv
  refine ⟨_, c, by rw [List.length_drop], fun i hi => ?_⟩
  rw [List.length_drop] at hi
  rw [getD_drop2]
  obtain ⟨b', o', e, h0, h1⟩ := hc (k + i) (by omega)
  cases e
  exact ⟨_, _, rfl, by rw [show o + k * 2 + i * 2 = o + (k + i) * 2 by omega]; exact h0, by rw [show o + k * 2 + i * 2 = o + (k + i) * 2 by omega]; exact h1⟩
theorem newsDn {w : World} {a : Option Addr} {n c : Nat} {l : List (Int × Int)} (h : ReadD w (.slice a n c) l) : ∀ j u, (depsV l)[j]? = some u → ∃ x, a = some x ∧ w.cell? (x.add j) = some u := by
  have e : n = l.length := by obtain ⟨_, _, hv, _⟩ := h; cases hv; rfl
  subst e
  exact newsD h
theorem OwnD.capOk {w : World} {B : Nat} {v : Value} {ds : List (Int × Int)} (h : OwnD w B v ds) : CapOk v := by
  obtain ⟨-, h1⟩ := h
  intro a n cap e
  rcases h1 with ⟨h2, -⟩ | ⟨g, cap', cur, h2, -, -, h3, -⟩
  · rw [h2] at e; cases e; exact Nat.le_refl _
  · rw [h2] at e; cases e; exact h3
theorem own_take {w : World} {B : Nat} {v : Value} {l : List (Int × Int)} {k : Nat} (h : w.ownsRow B 35 2 v (0 + k) ([] ++ depsV (l.take k))) : w.ownsRow B 35 2 v k (depsV (l.take k)) ∧ ∃ a c, v = .slice a k c := by
  rw [Nat.zero_add, List.nil_append] at h
  refine ⟨h, ?_⟩
  rcases h.2 with ⟨rfl, h0⟩ | ⟨g, cap, cur, rfl, -⟩
  · exact ⟨_, _, by rw [h0]⟩
  · exact ⟨_, _, rfl⟩
theorem own_erase {w : World} {B : Nat} {v : Value} {l : List (Int × Int)} {k : Nat} (hk : k < l.length) (h : w.ownsRow B 35 2 v (k + (l.length - (k + 1))) (depsV (l.take k) ++ depsV (l.drop (k + 1)))) : OwnD w B v (l.eraseIdx k) := by
  unfold OwnD
  have e : (l.eraseIdx k).length = k + (l.length - (k + 1)) := by rw [List.length_eraseIdx, if_pos hk]; omega
  rw [e, List.eraseIdx_eq_take_drop_succ, depsV_append]
  exact h
theorem own_erase0 {w : World} {B : Nat} {v : Value} {l : List (Int × Int)} {k : Nat} (hk : l.length = k + 1) (h : w.ownsRow B 35 2 v (k + 0) (depsV (l.take k) ++ [])) : OwnD w B v (l.eraseIdx k) := by
  have e : l.drop (k + 1) = [] := List.drop_eq_nil_of_le (by omega)
  refine own_erase (by omega) ?_
  rw [e, hk, Nat.sub_self]
  exact h
section
set_option maxRecDepth 20000
set_option maxHeartbeats 3200000
end
end Go.Proofs.YtnbjcelfdppkcadGreat
namespace Go.Proofs.YtnbjcelfdppkcadGreat
open Go.RowKit

def icAt (n : Int) (l : List (Int × Int)) (i : Nat) : Bool := !impB n (l.eraseIdx i) (l.getD i (0, 0)) && decide (redD n l (l.getD i (0, 0)) = l.getD i (0, 0))
def icB (n : Int) (l : List (Int × Int)) : Bool := arD n l && (List.range l.length).all (icAt n l)
theorem ic_not {n : Int} {l : List (Int × Int)} {i : Nat} (hi : i < l.length) (h : icAt n l i = false) : icB n l = false := by
  unfold icB
  rw [Bool.and_eq_false_iff]
  right
  rw [Bool.eq_false_iff]
  intro h2
  rw [List.all_eq_true] at h2
  rw [h2 i (List.mem_range.2 hi)] at h
  cases h
theorem ic_all {n : Int} {l : List (Int × Int)} (ha : arD n l = true) (h : ∀ j, j < l.length → icAt n l j = true) : icB n l = true := by
  unfold icB
  rw [ha, Bool.true_and, List.all_eq_true]
  exact fun j hj => h j (List.mem_range.1 hj)
set_option maxRecDepth 20000 in
theorem eq_dep11 (a b c d : Int) (w : World) : (Op.equalIn 10000 35 (.agg #[.int .i64 a, .int .i64 b]) (.agg #[.int .i64 c, .int .i64 d])).run Tryz.prog w = .ok (a == c && b == d) w := by
  have u3 := Tryz.underlying3
  have a3 := Tryz.isAgg3
  have z3 := Tryz.sizeOf3
  have hS : Tryz.prog.underlying 35 = some (.struct (Tryz.prog.fieldsOf 35)) := by kernel_rfl
  have hp : Tryz.prog.stoodInHeld 35 = false := by kernel_rfl
  rw [show (10000 : Nat) = 9999 + 1 from rfl, run_equalIn_agg w 9999 35 _ _ hS hp]
  simp only [Program.fieldsOf, Tryz.underlying35]
  go_simp
  by_cases h1 : a = c <;> by_cases h2 : b = d <;> simp [h1, h2]
theorem eqP (a b c d : Int) : (a == c && b == d) = decide ((a, b) = (c, d)) := by
  rw [Bool.eq_iff_iff, Bool.and_eq_true, beq_iff_eq, beq_iff_eq, decide_eq_true_iff, Prod.mk.injEq]
section
set_option maxRecDepth 20000
set_option maxHeartbeats 1600000
end
end Go.Proofs.YtnbjcelfdppkcadGreat
