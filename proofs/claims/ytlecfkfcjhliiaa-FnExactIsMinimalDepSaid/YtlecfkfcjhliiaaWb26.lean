/- Texts of this claim, merged: DepL, DepO, TabOpen. Conditions: as stated. -/
import Derived.Test.YtlecfkfcjhliiaaWb12
import Derived.Test.YtlecfkfcjhliiaaWb14
import Derived.Lib.SmallJoins
import Derived.Deep.SlicePairs
import Derived.Test.YtlecfkfcjhliiaaWb2
import Derived.Deep.Matrix
import Derived.Deep.RegionHeld3
import Derived.Deep.RegionWith
namespace Go.Proofs.Ytlecfkfcjhliiaa
open Go.RowKit

theorem keepTD {W1 w' w'' : World} {p0 p1 p2 p3 : Addr} {v0 v1 v2 v3 : Value} (h : ((w'.cell? p0 = some v0 ∧ w'.cell? p1 = some v1) ∧ w'.cell? p2 = some v2 ∧ w'.cell? p3 = some v3) ∧ Below W1.heap.size W1 w') (b : Below w'.heap.size w' w'') :
    ((w''.cell? p0 = some v0 ∧ w''.cell? p1 = some v1) ∧ w''.cell? p2 = some v2 ∧ w''.cell? p3 = some v3) ∧ Below W1.heap.size W1 w'' :=
  ⟨⟨⟨(b.cell (World.block_lt_of_cell? _ _ h.1.1.1)).trans h.1.1.1, (b.cell (World.block_lt_of_cell? _ _ h.1.1.2)).trans h.1.1.2⟩, (b.cell (World.block_lt_of_cell? _ _ h.1.2.1)).trans h.1.2.1, (b.cell (World.block_lt_of_cell? _ _ h.1.2.2)).trans h.1.2.2⟩, h.2.trans (b.mono h.2.size)⟩
theorem keepXD {W1 w' w'' : World} {p0 p1 p2 p3 p4 p5 : Addr} {v0 v1 v2 v3 v4 v5 u : Value} {ll : List (List Int)} (h : ((w'.cell? p0 = some v0 ∧ w'.cell? p1 = some v1) ∧ w'.cell? p2 = some v2 ∧ w'.cell? p3 = some v3) ∧ (w'.cell? p4 = some v4 ∧ w'.cell? p5 = some v5) ∧ ReadSS w' u ll ∧ Below W1.heap.size W1 w') (b : Below w'.heap.size w' w'') :
    ((w''.cell? p0 = some v0 ∧ w''.cell? p1 = some v1) ∧ w''.cell? p2 = some v2 ∧ w''.cell? p3 = some v3) ∧ (w''.cell? p4 = some v4 ∧ w''.cell? p5 = some v5) ∧ ReadSS w'' u ll ∧ Below W1.heap.size W1 w'' := by
  obtain ⟨h1, h2, h3, h4⟩ := h
  exact ⟨(keepTD ⟨h1, h4⟩ b).1, ⟨(b.cell (World.block_lt_of_cell? _ _ h2.1)).trans h2.1, (b.cell (World.block_lt_of_cell? _ _ h2.2)).trans h2.2⟩, h3.kept b, h4.trans (b.mono h4.size)⟩
end Go.Proofs.Ytlecfkfcjhliiaa
namespace Go.Proofs.Ytlecfkfcjhliiaa
open Go.ChangeShapes Go.WideShapes Go.Joins Go.RowKit Go.Deep

theorem cellsDep : Try.prog.cellsOf 26 = 2 := by kernel_rfl
section
variable {H : Type} {enc : TypeId × Value → H} {w : World} {base : Nat} {held : Bool}
set_option maxRecDepth 20000 in
theorem open_dep {r : Reach} {b0 : Nat} {v : Value} {d : DataW H} {p : List MemPlace} (hv : Value.okWide Try.prog w r b0 26 v) (h : DataW.Trod enc Try.prog w base (fun _ => true) held 26 v d p) :
    ∃ x y : Int, v = .agg #[.int .i64 x, .int .i64 y] ∧ (Lit.int .i64 x).wf = true ∧ (Lit.int .i64 y).wf = true := by
  obtain ⟨c0, c1, y0, y1, m, rfl, -, -, hy0, hy1⟩ := open_agg2 Try.underlying26 (by kernel_rfl) cellsDep hv h
  obtain ⟨n, hn, -, hwf⟩ := DataW.trod_int Try.underlying3 hy0
  obtain ⟨n', hn', -, hwf'⟩ := DataW.trod_int Try.underlying3 hy1
  simp at hn hn'
  subst hn hn'
  exact ⟨n, n', rfl, hwf, hwf'⟩
end
end Go.Proofs.Ytlecfkfcjhliiaa
namespace Go.Proofs.Ytlecfkfcjhliiaa
open Go.ChangeShapes Go.WideShapes Go.Joins Go.RowKit Go.Deep

theorem cellsTab : Try.prog.cellsOf 24 = 2 := by kernel_rfl
section
variable {H : Type} {enc : TypeId × Value → H} {w : World} {base : Nat} {held : Bool}
theorem open_rows {fuel : Nat} {v : Value} {x : DataW H × List MemPlace} (h : DataW.trod enc Try.prog w base (fun _ => true) held fuel 22 [v] = some x) : ∃ ll, ReadSS w v ll ∧ Short ll := by
  rcases open_int_rows Try.underlying22 Try.underlying41 Try.underlying3 (by kernel_rfl) (by kernel_rfl) h with ⟨hcs, -⟩ | ⟨a, len, cap, A, L, C, Z, hcs, -, hl, hm, -, hr⟩
  · simp at hcs
    subst hcs
    exact ⟨[], ReadSS.nil _, ⟨Nat.zero_le _, fun i hi => absurd hi (Nat.not_lt_zero _)⟩⟩
  · simp at hcs
    subst hcs
    have hlen : ((List.range len).map fun r => (Z r).take (L r)).length = len := by simp
    have hget : ∀ i, i < len → ((List.range len).map fun r => (Z r).take (L r)).getD i [] = (Z i).take (L i) := fun i hi => by
      rw [List.getD_eq_getElem?_getD, List.getElem?_eq_getElem (by rw [hlen]; exact hi)]; simp
    have hrl : ∀ i, i < len → ((Z i).take (L i)).length = L i := fun i hi => by
      obtain ⟨-, h1, -, h2, -⟩ := hr i (by omega)
      rw [List.length_take]; omega
    refine ⟨(List.range len).map fun r => (Z r).take (L r), ⟨some a, cap, by rw [hlen], fun i hi => ?_⟩, by rw [hlen]; unfold maxLen at hm; omega, fun i hi => ?_⟩
    · rw [hlen] at hi
      obtain ⟨h0, h1, h2, h3, h4, h5, h6⟩ := hr i (by omega)
      rw [hget i hi]
      refine ⟨a, _, rfl, h0, A i, C i, by rw [hrl i hi], fun j hj => ?_⟩
      rw [hrl i hi] at hj
      cases hA : A i with
      | none => have := h5 hA; omega
      | some a' =>
        refine ⟨a', rfl, ?_⟩
        rw [(h6 a' hA).2 j (by omega)]
        simp only [List.getElem_take]
        rw [List.getD_eq_getElem?_getD, List.getElem?_eq_getElem (by omega)]
        rfl
    · rw [hlen] at hi
      rw [hget i hi, hrl i hi]
      obtain ⟨-, h1, h2, -⟩ := hr i (by omega)
      unfold maxLen at h2; omega
set_option maxRecDepth 20000 in
theorem open_table {r : Reach} {b0 : Nat} {v : Value} {d : DataW H} {p : List MemPlace} (hv : Value.okWide Try.prog w r b0 24 v) (h : DataW.Trod enc Try.prog w base (fun _ => true) held 24 v d p) :
    ∃ (c : Int) (u : Value) (ll : List (List Int)), v = .agg #[.int .i64 c, u] ∧ (Lit.int .i64 c).wf = true ∧ ReadSS w u ll ∧ Short ll := by
  obtain ⟨c0, c1, y0, y1, m, rfl, -, -, hy0, hy1⟩ := open_agg2 Try.underlying24 (by kernel_rfl) cellsTab hv h
  obtain ⟨n, hn, -, hwf⟩ := DataW.trod_int Try.underlying3 hy0
  simp at hn
  subst hn
  obtain ⟨ll, h1, h2⟩ := open_rows hy1
  exact ⟨n, c1, ll, rfl, hwf, h1, h2⟩
end
end Go.Proofs.Ytlecfkfcjhliiaa
