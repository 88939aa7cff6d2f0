/- The model's classes and PartitionOf, by contract. Conditions: as stated. -/
import Derived.Test.YtnbjcelfdppkcadGreatXz5
namespace Go.Proofs.YtnbjcelfdppkcadGreat
open Go.RowKit

theorem ints_cell {l : List Int} {j : Nat} {u : Value} (h : (intsV l)[j]? = some u) : ∃ hj : j < l.length, u = .int .i64 l[j] := by
  unfold intsV at h
  rw [List.getElem?_map] at h
  cases hq : l[j]? with
  | none => rw [hq] at h; cases h
  | some x =>
    obtain ⟨hj, hx⟩ := List.getElem?_eq_some_iff.mp hq
    rw [hq] at h
    exact ⟨hj, by rw [hx]; simpa using h.symm⟩
theorem ints_one (l : List Int) : ∀ u ∈ intsV l, u.oneCell' = true := by
  intro u hu
  unfold intsV at hu
  obtain ⟨x, -, rfl⟩ := List.mem_map.mp hu
  rfl
theorem ownI_one (w : World) (x : Int) : OwnI (w.alloc (.cells #[.int .i64 x] 3)) w.heap.size (.slice (some ⟨w.heap.size, 0, none⟩) 1 1) [x] :=
  ⟨rfl, .inr ⟨w.heap.size, 1, _, rfl, Nat.le_refl _, heap_alloc_new w _, Nat.le_refl _, by unfold maxLen; omega, rfl, rfl⟩⟩
theorem intsV_append (l l' : List Int) : intsV (l ++ l') = intsV l ++ intsV l' := by unfold intsV; rw [List.map_append]
theorem ownI_append {w : World} {B : Nat} {v : Value} {l l' : List Int} (h : w.ownsRow B 3 1 v (l.length + l'.length) (intsV l ++ intsV l')) : OwnI w B v (l ++ l') := by
  unfold OwnI; rw [intsV_append, List.length_append]; exact h
theorem own_cells {w : World} {B n cap : Nat} {x : Addr} {l : List Int} (h : OwnI w B (.slice (some x) n cap) l) (j : Nat) (u : Value) (hu : (intsV l)[j]? = some u) : w.cell? (x.add j) = some u := by
  obtain ⟨a, cap', hv, hc⟩ := h.read
  obtain ⟨hj, rfl⟩ := ints_cell hu
  obtain ⟨x', hx', hcell⟩ := hc j hj
  cases hv
  cases hx'
  exact hcell
theorem row_shape {w : World} {B : Nat} {E : TypeId} {v : Value} {n : Nat} {xs : List Value} (h : w.ownsRow B E 1 v n xs) : ∃ a c, v = .slice a n c := by
  rcases h.2 with ⟨rfl, rfl⟩ | ⟨g, cap, cur, rfl, -⟩
  · exact ⟨_, _, rfl⟩
  · exact ⟨_, _, rfl⟩
def prtS (c : Int) (ll : List (List Int)) (m s : Int) : List (List Int) := if fineT c ll m = true ∧ isA c s = true then (clSt c.toNat ll m s ll.length).1 else []
theorem own_nil (w : World) : OwnSS (w.alloc (.cells #[] 40)) w.heap.size (w.alloc (.cells #[] 40)).heap.size (.slice (some ⟨w.heap.size, 0, none⟩) 0 0) [] :=
  ⟨fun _ => .slice none 0 0, World.ownsRow_made w #[] 0 (Nat.le_refl _) (by unfold maxLen; omega) rfl, fun g hg => by cases hg; simp, fun i hi => absurd hi (Nat.not_lt_zero _), fun i j _ hj => absurd hj (Nat.not_lt_zero _)⟩
end Go.Proofs.YtnbjcelfdppkcadGreat
