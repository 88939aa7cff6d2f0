/- Texts of this claim, merged: MvA, DepG, DepH, OwnDs. Conditions: as stated. -/
import Derived.Test.YtnbjcelfdppkcaaGreatTc20
import Derived.Test.YtnbjcelfdppkcaaGreatTc18
import Derived.Deep.Quiet
import Derived.Deep.RegionLaw
import Derived.Deep.RegionHeld3
import Derived.Test.YtnbjcelfdppkcaaGreatTc17
import Derived.Test.YtnbjcelfdppkcaaGreatTc2
namespace Go.Proofs.YtnbjcelfdppkcaaGreat
open Go.RowKit

section
set_option maxRecDepth 20000
set_option maxHeartbeats 1600000
theorem rng_snoc {p : Nat → Bool} {k : Nat} (h : (List.range k).all p = true) (hp : p k = true) : (List.range (k + 1)).all p = true := by
  rw [List.range_succ, List.all_append, h]; simp [hp]
theorem rng_not {p : Nat → Bool} {k n : Nat} (hk : k < n) (hp : p k = false) : (List.range n).all p = false := by
  cases h : (List.range n).all p with
  | false => rfl
  | true => have := List.all_eq_true.1 h k (List.mem_range.2 hk); rw [hp] at this; cases this
theorem drop_b : ∀ (L : Fin 32) (i : Fin 5), bitB L.val i.val = true → bits .andNot .i64 ((L.val : Nat) : Int) ((2 ^ i.val : Nat) : Int) = ((L.val - 2 ^ i.val : Nat) : Int) := by decide +kernel
theorem wrap_pw5 : ∀ i : Fin 5, IntKind.i64.wrap (2 ^ i.val) = ((2 ^ i.val : Nat) : Int) := by decide +kernel
/-- What the box of a table and the box of a dependency hold. -/
def TDc (w : World) (b : Nat) (c : Int) (v : Value) (l r : Int) : Prop :=
  (w.cell? ⟨b, 0, none⟩ = some (.int .i64 c) ∧ w.cell? ⟨b, 1, none⟩ = some v) ∧ w.cell? ⟨b + 1, 0, none⟩ = some (.int .i64 l) ∧ w.cell? ⟨b + 1, 1, none⟩ = some (.int .i64 r)
theorem TDc.kept {w w' : World} {b : Nat} {c l r : Int} {v : Value} (h : TDc w b c v l r) (hb : Below w.heap.size w w') : TDc w' b c v l r :=
  ⟨⟨(hb.cell (World.block_lt_of_cell? _ _ h.1.1)).trans h.1.1, (hb.cell (World.block_lt_of_cell? _ _ h.1.2)).trans h.1.2⟩, (hb.cell (World.block_lt_of_cell? _ _ h.2.1)).trans h.2.1, (hb.cell (World.block_lt_of_cell? _ _ h.2.2)).trans h.2.2⟩
theorem TDc.mk' (w : World) (T T' : TypeId) (c : Int) (v : Value) (l r : Int) : TDc ((w.alloc (.cells #[.int .i64 c, v] T)).alloc (.cells #[.int .i64 l, .int .i64 r] T')) w.heap.size c v l r := boxTD (Below.refl _ _)
theorem keepTc {w4 w' w'' : World} {b : Nat} {c l r : Int} {v : Value} (h : TDc w' b c v l r ∧ Below w4.heap.size w4 w') (hb : Below w'.heap.size w' w'') : TDc w'' b c v l r ∧ Below w4.heap.size w4 w'' := ⟨h.1.kept hb, h.2.trans (hb.mono h.2.size)⟩
end
section
set_option maxRecDepth 20000
set_option maxHeartbeats 3200000
end
end Go.Proofs.YtnbjcelfdppkcaaGreat
namespace Go.Proofs.YtnbjcelfdppkcaaGreat
open Go.RowKit

/-- The slice value v can be read: it holds these dependencies. -/
def ReadD (w : World) (v : Value) (ds : List (Int × Int)) : Prop :=
  ∃ (a : Option Addr) (cap : Nat), v = .slice a ds.length cap ∧ ∀ i, i < ds.length → ∃ b o, a = some ⟨b, o, none⟩ ∧ w.cell? ⟨b, o + i * 2, none⟩ = some (.int .i64 (ds.getD i (0, 0)).1) ∧ w.cell? ⟨b, o + i * 2 + 1, none⟩ = some (.int .i64 (ds.getD i (0, 0)).2)
end Go.Proofs.YtnbjcelfdppkcaaGreat
namespace Go.Proofs.YtnbjcelfdppkcaaGreat
open Go.RowKit

/-- The cells of a list of dependencies. -/
def depsV : List (Int × Int) → List Value
  | [] => []
  | d :: t => .int .i64 d.1 :: .int .i64 d.2 :: depsV t
theorem depsV_len : ∀ ds : List (Int × Int), (depsV ds).length = ds.length * 2
  | [] => rfl
  | d :: t => by simp only [depsV, List.length_cons, depsV_len t]; omega
theorem depsV_get : ∀ (ds : List (Int × Int)) (i : Nat), i < ds.length → (depsV ds)[i * 2]? = some (.int .i64 (ds.getD i (0, 0)).1) ∧ (depsV ds)[i * 2 + 1]? = some (.int .i64 (ds.getD i (0, 0)).2)
  | [], i, h => absurd h (Nat.not_lt_zero _)
  | d :: t, 0, _ => ⟨rfl, rfl⟩
  | d :: t, i + 1, h => by
    have ih := depsV_get t i (by simpa using h)
    rw [show (i + 1) * 2 = i * 2 + 1 + 1 by omega]
    simpa [depsV] using ih
theorem depsV_set : ∀ (ds : List (Int × Int)) (i : Nat) (a b : Int), ((depsV ds).set (i * 2) (.int .i64 a)).set (i * 2 + 1) (.int .i64 b) = depsV (ds.set i (a, b))
  | [], i, a, b => by simp [depsV]
  | d :: t, 0, a, b => rfl
  | d :: t, i + 1, a, b => by
    have ih := depsV_set t i a b
    rw [show (i + 1) * 2 = i * 2 + 1 + 1 by omega]
    simp only [depsV, List.set_cons_succ]
    rw [ih]
theorem ReadD.kept {w w' : World} {v : Value} {ds : List (Int × Int)} (h : ReadD w v ds) (hb : Below w.heap.size w w') : ReadD w' v ds := by
  obtain ⟨a, cap, hv, hc⟩ := h
  refine ⟨a, cap, hv, fun i hi => ?_⟩
  obtain ⟨b, o, ha, h0, h1⟩ := hc i hi
  exact ⟨b, o, ha, (hb.cell (World.block_lt_of_cell? w _ h0)).trans h0, (hb.cell (World.block_lt_of_cell? w _ h1)).trans h1⟩
theorem depsV_zero : ∀ n : Nat, depsV (List.replicate n (0, 0)) = List.replicate (n * 2) (.int .i64 0)
  | 0 => rfl
  | n + 1 => by
    rw [show (n + 1) * 2 = n * 2 + 1 + 1 by omega, List.replicate_succ, List.replicate_succ, List.replicate_succ, depsV, depsV_zero n]
theorem made_deps (n : Nat) : (madeCells (Value.cells (.agg #[.int .i64 0, .int .i64 0])) (n * 2)).toList = depsV (List.replicate n (0, 0)) := by
  rw [depsV_zero]
  unfold madeCells
  apply List.ext_getElem
  · simp
  · intro i h1 h2
    simp only [Array.toList_map, List.getElem_map, List.getElem_replicate, Array.getElem_toList, Array.getElem_range]
    show (#[Value.int .i64 0, Value.int .i64 0])[i % 2]! = _
    rcases (show i % 2 = 0 ∨ i % 2 = 1 by omega) with h | h <;> rw [h] <;> rfl
/-- What a region of two lists' places holds on to. -/
theorem keep4 {w3 w' w'' : World} {p0 p1 p2 p3 : Addr} {v0 v1 v2 v3 : Value} (h : w'.cell? p0 = some v0 ∧ w'.cell? p1 = some v1 ∧ w'.cell? p2 = some v2 ∧ w'.cell? p3 = some v3 ∧ Below w3.heap.size w3 w') (b : Below w'.heap.size w' w'') :
    w''.cell? p0 = some v0 ∧ w''.cell? p1 = some v1 ∧ w''.cell? p2 = some v2 ∧ w''.cell? p3 = some v3 ∧ Below w3.heap.size w3 w'' :=
  ⟨(b.cell (World.block_lt_of_cell? _ _ h.1)).trans h.1, (b.cell (World.block_lt_of_cell? _ _ h.2.1)).trans h.2.1, (b.cell (World.block_lt_of_cell? _ _ h.2.2.1)).trans h.2.2.1, (b.cell (World.block_lt_of_cell? _ _ h.2.2.2.1)).trans h.2.2.2.1, h.2.2.2.2.trans (b.mono h.2.2.2.2.size)⟩
theorem below4 {w3 w' : World} {p0 p1 p2 p3 : Addr} {v0 v1 v2 v3 : Value} (h : w'.cell? p0 = some v0 ∧ w'.cell? p1 = some v1 ∧ w'.cell? p2 = some v2 ∧ w'.cell? p3 = some v3 ∧ Below w3.heap.size w3 w') : Below w3.heap.size w3 w' := h.2.2.2.2
theorem dep_box2 (w : World) (T T' : TypeId) (a b l r : Value) : (((w.alloc (.cells #[a, b] T)).alloc (.cells #[l, r] T')).cell? ⟨w.heap.size, 0, none⟩ = some a ∧ ((w.alloc (.cells #[a, b] T)).alloc (.cells #[l, r] T')).cell? ⟨w.heap.size, 1, none⟩ = some b) ∧ ((w.alloc (.cells #[a, b] T)).alloc (.cells #[l, r] T')).cell? ⟨w.heap.size + 1, 0, none⟩ = some l ∧ ((w.alloc (.cells #[a, b] T)).alloc (.cells #[l, r] T')).cell? ⟨w.heap.size + 1, 1, none⟩ = some r := boxTD (Below.refl _ _)
end Go.Proofs.YtnbjcelfdppkcaaGreat
namespace Go.Proofs.YtnbjcelfdppkcaaGreat
open Go.RowKit

theorem depsV_append (a b : List (Int × Int)) : depsV (a ++ b) = depsV a ++ depsV b := by
  induction a with
  | nil => rfl
  | cons x t ih => simp [depsV, ih]
theorem cell_two_new (w : World) (x y : Value) (t : TypeId) : ∀ j u, [x, y][j]? = some u → (w.alloc (.cells #[x, y] t)).cell? ((⟨w.heap.size, 0, none⟩ : Addr).add j) = some u := by
  intro j u hj
  match j, hj with
  | 0, hj =>
    simp at hj
    subst hj
    simp [Addr.add]
  | 1, hj =>
    simp at hj
    subst hj
    simp [Addr.add]
theorem two_i64 (x y : Int) : ∀ u ∈ [Value.int .i64 x, Value.int .i64 y], u.oneCell' = true := by
  intro u hu
  simp at hu
  rcases hu with rfl | rfl <;> rfl
theorem one_at (w : World) (T : TypeId) (a : Value) : (w.alloc (.cells #[a] T)).cell? ⟨w.heap.size, 0, none⟩ = some a := World.cell?_alloc_mark w #[a] T (0, 0) 0
/-- A cell of a block that no row from B on holds is as it was, when a row grew. -/
theorem kept_cell {w w' : World} {row : Option Nat} {B : Nat} {p : Addr} (hg : w.grownBy w' row) (hB : ∀ g, row = some g → B < g) (hp : p.block < w.heap.size) (hlt : p.block ≤ B) : w'.cell? p = w.cell? p :=
  World.cell?_of_block (hg.block p.block hp (fun e => by have := hB p.block e.symm; omega))
end Go.Proofs.YtnbjcelfdppkcaaGreat
