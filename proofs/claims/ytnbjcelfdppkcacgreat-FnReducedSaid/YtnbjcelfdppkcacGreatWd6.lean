/- Texts of this claim, merged: ParD, ParE, RowsOpen. Conditions: as stated. -/
import Derived.Test.YtnbjcelfdppkcacGreatWd5
import Derived.Test.YtnbjcelfdppkcacGreatWd3
import Derived.Deep.Matrix
namespace Go.Proofs.YtnbjcelfdppkcacGreat
open Go.RowKit

theorem ints_cell {l : List Int} {j : Nat} {u : Value} (h : (intsV l)[j]? = some u) : ∃ hj : j < l.length, u = .int .i64 l[j] := by
  unfold intsV at h
  rw [List.getElem?_map] at h
  cases hq : l[j]? with
  | none => rw [hq] at h; cases h
  | some x =>
    obtain ⟨hj, hx⟩ := List.getElem?_eq_some_iff.mp hq
    rw [hq] at h
    exact ⟨hj, by rw [hx]; simpa using h.symm⟩
theorem ints_one (l : List Int) : ∀ u ∈ intsV l, u.oneCell' = true := by
  intro u hu
  unfold intsV at hu
  obtain ⟨x, -, rfl⟩ := List.mem_map.mp hu
  rfl
theorem ownI_one (w : World) (x : Int) : OwnI (w.alloc (.cells #[.int .i64 x] 3)) w.heap.size (.slice (some ⟨w.heap.size, 0, none⟩) 1 1) [x] :=
  ⟨rfl, .inr ⟨w.heap.size, 1, _, rfl, Nat.le_refl _, heap_alloc_new w _, Nat.le_refl _, by unfold maxLen; omega, rfl, rfl⟩⟩
theorem intsV_append (l l' : List Int) : intsV (l ++ l') = intsV l ++ intsV l' := by unfold intsV; rw [List.map_append]
theorem ownI_append {w : World} {B : Nat} {v : Value} {l l' : List Int} (h : w.ownsRow B 3 1 v (l.length + l'.length) (intsV l ++ intsV l')) : OwnI w B v (l ++ l') := by
  unfold OwnI; rw [intsV_append, List.length_append]; exact h
theorem own_cells {w : World} {B n cap : Nat} {x : Addr} {l : List Int} (h : OwnI w B (.slice (some x) n cap) l) (j : Nat) (u : Value) (hu : (intsV l)[j]? = some u) : w.cell? (x.add j) = some u := by
  obtain ⟨a, cap', hv, hc⟩ := h.read
  obtain ⟨hj, rfl⟩ := ints_cell hu
  obtain ⟨x', hx', hcell⟩ := hc j hj
  cases hv
  cases hx'
  exact hcell
theorem row_shape {w : World} {B : Nat} {E : TypeId} {v : Value} {n : Nat} {xs : List Value} (h : w.ownsRow B E 1 v n xs) : ∃ a c, v = .slice a n c := by
  rcases h.2 with ⟨rfl, rfl⟩ | ⟨g, cap, cur, rfl, -⟩
  · exact ⟨_, _, rfl⟩
  · exact ⟨_, _, rfl⟩
def prtS (c : Int) (ll : List (List Int)) (m s : Int) : List (List Int) := if fineT c ll m = true ∧ isA c s = true then (clSt c.toNat ll m s ll.length).1 else []
theorem own_nil (w : World) : OwnSS (w.alloc (.cells #[] 31)) w.heap.size (w.alloc (.cells #[] 31)).heap.size (.slice (some ⟨w.heap.size, 0, none⟩) 0 0) [] :=
  ⟨fun _ => .slice none 0 0, World.ownsRow_made w #[] 0 (Nat.le_refl _) (by unfold maxLen; omega) rfl, fun g hg => by cases hg; simp, fun i hi => absurd hi (Nat.not_lt_zero _), fun i j _ hj => absurd hj (Nat.not_lt_zero _)⟩
end Go.Proofs.YtnbjcelfdppkcacGreat
namespace Go.Proofs.YtnbjcelfdppkcacGreat
open Go.RowKit

/-- The row beside has grown; the rows are still below C. -/
theorem OwnSD.growE {w w' : World} {B C : Nat} {v dv dv' : Value} {ll : List (List Int)} {dl : List Int} (h : OwnSD w B C v ll dv dl) (hC : C ≤ w.heap.size) (hg : w.grownBy w' dv.ownBlock) (hor : ∀ g, dv'.ownBlock = some g → dv.ownBlock = some g ∨ g = w.heap.size) :
    ∃ V : Nat → Value, w'.ownsRow B 31 1 v ll.length ((List.range ll.length).map V) ∧ (∀ i, i < ll.length → OwnI w' B (V i) (ll.getD i []) ∧ ∀ g, (V i).ownBlock = some g → g < C) ∧
      (∀ i j, i < j → j < ll.length → ∀ g, (V i).ownBlock = some g → (V j).ownBlock ≠ some g) ∧ (∀ i, i < ll.length → ∀ g, (V i).ownBlock = some g → dv'.ownBlock ≠ some g) := by
  obtain ⟨V, h1, h2, h3, h4, h5, h6, h7⟩ := h
  have hap : ∀ g, v.ownBlock = some g → dv.ownBlock ≠ some g := row_apart h1 h5
  refine ⟨V, ownsRow_same h1 fun g hgv => hg.block g (by have := h2 g hgv; omega) (fun e => hap g hgv e.symm), fun i hi => ⟨(h3 i hi).1.same fun g hgv => hg.block g (by have := (h3 i hi).2 g hgv; omega) (fun e => h7 i hi g hgv e.symm), (h3 i hi).2⟩, h4, fun i hi g hgv e => ?_⟩
  rcases hor g e with h | h
  · exact h7 i hi g hgv h
  · have := (h3 i hi).2 g hgv; omega
/-- One more row, which is neither below C nor the one beside. -/
theorem OwnSD.snoc2 {w w' : World} {B C C' : Nat} {v v' u dv : Value} {ll : List (List Int)} {l dl : List Int} {V : Nat → Value} (o1 : w.ownsRow B 31 1 v ll.length ((List.range ll.length).map V))
    (o3 : ∀ i, i < ll.length → OwnI w B (V i) (ll.getD i []) ∧ ∀ g, (V i).ownBlock = some g → g < C) (o4 : ∀ i j, i < j → j < ll.length → ∀ g, (V i).ownBlock = some g → (V j).ownBlock ≠ some g)
    (o5 : OwnI w B dv dl) (o6 : ∀ g, dv.ownBlock = some g → g < C') (o7 : ∀ i, i < ll.length → ∀ g, (V i).ownBlock = some g → dv.ownBlock ≠ some g)
    (hu : OwnI w B u l) (huC : ∀ g, u.ownBlock = some g → C ≤ g ∧ g < C') (hud : ∀ g, u.ownBlock = some g → dv.ownBlock ≠ some g)
    (h1 : w'.ownsRow B 31 1 v' (ll.length + 1) ((List.range ll.length).map V ++ [u])) (hg : w.grownBy w' v.ownBlock) (hC : C ≤ C') (hv' : ∀ g, v'.ownBlock = some g → g < C') : OwnSD w' B C' v' (ll ++ [l]) dv dl := by
  have hap : ∀ i, i < ll.length → ∀ g, v.ownBlock = some g → (V i).ownBlock ≠ some g := fun i hi => row_apart o1 (o3 i hi).1
  have hapu : ∀ g, v.ownBlock = some g → u.ownBlock ≠ some g := row_apart o1 hu
  have hapd : ∀ g, v.ownBlock = some g → dv.ownBlock ≠ some g := row_apart o1 o5
  refine ⟨fun i => if i < ll.length then V i else u, ?_, hv', fun i hi => ?_, fun i j hij hj g => ?_, o5.keptBy hg hapd, o6, fun i hi g => ?_⟩
  · have e : (List.range (ll ++ [l]).length).map (fun i => if i < ll.length then V i else u) = (List.range ll.length).map V ++ [u] := by
      rw [List.length_append, List.length_singleton, List.range_succ, List.map_append]
      congr 1
      · apply List.map_congr_left; intro i hi; rw [List.mem_range] at hi; simp [hi]
      · simp
    rw [e, List.length_append]; exact h1
  · rw [List.length_append, List.length_singleton] at hi
    rw [getD_snoc _ _ _ _ hi]
    by_cases hlt : i < ll.length
    · simp only [hlt, if_true]
      exact ⟨(o3 i hlt).1.keptBy hg (fun g hg => hap i hlt g hg), fun g hgg => Nat.lt_of_lt_of_le ((o3 i hlt).2 g hgg) hC⟩
    · simp only [hlt, if_false]
      exact ⟨hu.keptBy hg hapu, fun g hgg => (huC g hgg).2⟩
  · rw [List.length_append, List.length_singleton] at hj
    have hi : i < ll.length := by omega
    simp only [hi, if_true]
    by_cases hlt : j < ll.length
    · simp only [hlt, if_true]; exact o4 i j hij hlt g
    · simp only [hlt, if_false]
      intro a b
      have := (o3 i hi).2 g a
      have := (huC g b).1
      omega
  · by_cases hlt : i < ll.length
    · simp only [hlt, if_true]; exact o7 i hlt g
    · simp only [hlt, if_false]
      exact hud g
theorem OwnSD.doneLt {w : World} {B C : Nat} {v dv : Value} {ll : List (List Int)} {dl : List Int} (h : OwnSD w B C v ll dv dl) : ∀ g, dv.ownBlock = some g → g < C := by
  obtain ⟨V, -, -, -, -, -, h6, -⟩ := h
  exact h6
theorem clsI_mem : ∀ (ll : List (List Int)) (x : Int), 0 ≤ clsI ll x → x ∈ ll.getD (clsI ll x).toNat []
  | [], _, h => by simp [clsI] at h
  | r :: t, x, h => by
    unfold clsI at h ⊢
    by_cases hr : x ∈ r
    · rw [if_pos hr]; exact hr
    · rw [if_neg hr] at h ⊢
      by_cases h2 : clsI t x < 0
      · rw [if_pos h2] at h; omega
      · rw [if_neg h2] at h ⊢
        have ih := clsI_mem t x (by omega)
        rw [show (clsI t x + 1).toNat = (clsI t x).toNat + 1 by omega]
        simpa using ih
/-- Those of the first k rows of class a of p that are in class b of q. -/
def prTo (p q : List (List Int)) (a b : Nat) (k : Nat) : List Int := ((p.getD a []).take k).filter fun x => decide (x ∈ q.getD b [])
def prC (p q : List (List Int)) (a b : Nat) : List Int := (p.getD a []).filter fun x => decide (x ∈ q.getD b [])
theorem prTo_succ (p q : List (List Int)) (a b k : Nat) (h : k < (p.getD a []).length) : prTo p q a b (k + 1) = if (p.getD a []).getD k 0 ∈ q.getD b [] then prTo p q a b k ++ [(p.getD a []).getD k 0] else prTo p q a b k := by
  unfold prTo
  rw [take_succ_getD (p.getD a []) 0 k h, List.filter_append]
  by_cases hm : (p.getD a []).getD k 0 ∈ q.getD b []
  · rw [if_pos hm, List.filter_cons, if_pos (decide_eq_true hm), List.filter_nil]
  · rw [if_neg hm, List.filter_cons, if_neg (by rw [decide_eq_true_eq]; exact hm), List.filter_nil, List.append_nil]
theorem prTo_all (p q : List (List Int)) (a b : Nat) : prTo p q a b (p.getD a []).length = prC p q a b := by unfold prTo prC; rw [List.take_length]
theorem prTo_len (p q : List (List Int)) (a b k : Nat) : (prTo p q a b k).length ≤ (p.getD a []).length := by
  unfold prTo
  have h1 := List.length_filter_le (fun x => decide (x ∈ q.getD b [])) ((p.getD a []).take k)
  rw [List.length_take] at h1; omega
/-- The classes and the rows that are done, after i rows. -/
def prSt (p q : List (List Int)) : Nat → List (List Int) × List Int
  | 0 => ([], [])
  | i + 1 => if clsI p i < 0 ∨ clsI q i < 0 ∨ (i : Int) ∈ (prSt p q i).2 then prSt p q i
    else (if 1 < (prC p q (clsI p i).toNat (clsI q i).toNat).length then (prSt p q i).1 ++ [prC p q (clsI p i).toNat (clsI q i).toNat] else (prSt p q i).1, (prSt p q i).2 ++ prC p q (clsI p i).toNat (clsI q i).toNat)
def proS (p q : List (List Int)) (rows : Int) : List (List Int) := if (partP p rows && partP q rows) = true then (prSt p q rows.toNat).1 else []
theorem prC_len (p q : List (List Int)) (i : Nat) (htot : tot p ≤ 1048576) (h : 0 ≤ clsI p i) : (prC p q (clsI p i).toNat (clsI q i).toNat).length ≤ 1048576 := by
  have h1 := prTo_len p q (clsI p i).toNat (clsI q i).toNat (p.getD (clsI p i).toNat []).length
  rw [prTo_all] at h1
  have h2 := clsI_ge p (i : Int)
  have h3 := tot_get (ll := p) (k := (clsI p i).toNat) (by omega)
  omega
theorem prSt_len (p q : List (List Int)) (htot : tot p ≤ 1048576) : ∀ i, (prSt p q i).1.length ≤ i ∧ (prSt p q i).2.length ≤ 1048576 * i
  | 0 => by simp [prSt]
  | i + 1 => by
    have ih := prSt_len p q htot i
    unfold prSt
    split
    · omega
    · rename_i h
      have h1 := prC_len p q i htot (by omega)
      simp only [List.length_append]
      refine ⟨?_, by omega⟩
      split
      · simp; omega
      · omega
theorem partP_rows {p : List (List Int)} {rows : Int} (h : partP p rows = true) : 0 ≤ rows ∧ rows ≤ 40 := by
  unfold partP at h
  simp only [Bool.and_eq_true, decide_eq_true_eq] at h
  exact h.2
end Go.Proofs.YtnbjcelfdppkcacGreat
namespace Go.Proofs.YtnbjcelfdppkcacGreat
open Go.ChangeShapes Go.WideShapes Go.RowKit Go.Deep

/-- All rows are integers. -/
def I64ss (p : List (List Int)) : Prop := ∀ i, i < p.length → ∀ x ∈ p.getD i [], -9223372036854775808 ≤ x ∧ x ≤ 9223372036854775807
section
variable {H : Type} {enc : TypeId × Value → H} {w : World} {base : Nat} {held : Bool}
end
end Go.Proofs.YtnbjcelfdppkcacGreat
