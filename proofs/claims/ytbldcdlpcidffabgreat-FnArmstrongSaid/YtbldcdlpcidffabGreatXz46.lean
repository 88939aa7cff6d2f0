/- Texts of this claim, merged: CvC. Conditions: as stated. -/
import Derived.Test.YtbldcdlpcidffabGreatXz40
import Derived.Test.YtbldcdlpcidffabGreatXz44
import Derived.Test.YtbldcdlpcidffabGreatDdRm
import Derived.Test.YtbldcdlpcidffabGreatXz28
namespace Go.Proofs.YtbldcdlpcidffabGreat
open Go.RowKit

theorem candL_len (C : Nat) (hC : C ≤ 5) : (candL C).length ≤ 160 := cand_len C C hC (Nat.le_refl _)
/-- A table in a block of its own, a number in the next one; a third behind it. -/
structure Env2 (w : World) (b : Nat) (c m : Int) (v : Value) (ll : List (List Int)) : Prop where
  t0 : w.cell? ⟨b, 0, none⟩ = some (.int .i64 c)
  t1 : w.cell? ⟨b, 1, none⟩ = some v
  m0 : w.cell? ⟨b + 1, 0, none⟩ = some (.int .i64 m)
  s : ReadSS w v ll
theorem Env2.kept {w w' : World} {b : Nat} {c m : Int} {v : Value} {ll : List (List Int)} (h : Env2 w b c m v ll) (hb : Below w.heap.size w w') : Env2 w' b c m v ll :=
  ⟨(hb.cell (World.block_lt_of_cell? _ _ h.t0)).trans h.t0, (hb.cell (World.block_lt_of_cell? _ _ h.t1)).trans h.t1, (hb.cell (World.block_lt_of_cell? _ _ h.m0)).trans h.m0, h.s.kept hb⟩
theorem Env2.mk' {w : World} {c m : Int} {v : Value} {ll : List (List Int)} (h : ReadSS w v ll) (T T' : TypeId) : Env2 ((w.alloc (.cells #[.int .i64 c, v] T)).alloc (.cells #[.int .i64 m] T')) w.heap.size c m v ll := by
  have hb1 := (Below.refl w.heap.size w).alloc (Nat.le_refl _) (.cells #[.int .i64 c, v] T)
  obtain ⟨c0, c1⟩ := zero2 w T (.int .i64 c) v
  have hb2 := (Below.refl (w.alloc (.cells #[.int .i64 c, v] T)).heap.size (w.alloc (.cells #[.int .i64 c, v] T))).alloc (Nat.le_refl _) (.cells #[.int .i64 m] T')
  have hm := one_at (w.alloc (.cells #[.int .i64 c, v] T)) T' (.int .i64 m)
  rw [World.size_alloc] at hm
  exact ⟨(hb2.cell (World.block_lt_of_cell? _ _ c0)).trans c0, (hb2.cell (World.block_lt_of_cell? _ _ c1)).trans c1, hm, (h.kept hb1).kept hb2⟩
theorem cand_wf {C : Nat} (hC : C ≤ 5) {x : Int × Int} (h : x ∈ candL C) : (Lit.int .i64 x.1).wf = true ∧ (Lit.int .i64 x.2).wf = true := by
  obtain ⟨r, r1, S, r2, -, rfl⟩ := (mdOut_mem _ _ _ _).1 h
  obtain ⟨X, rfl, hX⟩ := parts_small _ S r2
  have k1 : ∀ X : Fin 32, (Lit.int .i64 ((X.val : Nat) : Int)).wf = true := by decide +kernel
  exact ⟨k1 ⟨X, hX⟩, k1 ⟨r, by omega⟩⟩
end Go.Proofs.YtbldcdlpcidffabGreat
