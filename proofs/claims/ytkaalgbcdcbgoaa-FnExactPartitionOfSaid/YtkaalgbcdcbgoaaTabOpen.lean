/- A table that came in: its columns and its rows, read. Conditions: none. -/
import Derived.Test.YtkaalgbcdcbgoaaTabs4
import Derived.Deep.Matrix
import Derived.Lib.SmallJoins
import Derived.Deep.RegionHeld3
import Derived.Deep.RegionWith
namespace Go.Proofs.Ytkaalgbcdcbgoaa
open Go.ChangeShapes Go.WideShapes Go.Joins Go.RowKit Go.Deep

theorem cellsTab : Try.prog.cellsOf 24 = 2 := by kernel_rfl
section
variable {H : Type} {enc : TypeId × Value → H} {w : World} {base : Nat} {held : Bool}
theorem open_rows {fuel : Nat} {v : Value} {x : DataW H × List MemPlace} (h : DataW.trod enc Try.prog w base (fun _ => true) held fuel 22 [v] = some x) : ∃ ll, ReadSS w v ll ∧ Short ll := by
  rcases open_int_rows Try.underlying22 Try.underlying46 Try.underlying3 (by kernel_rfl) (by kernel_rfl) h with ⟨hcs, -⟩ | ⟨a, len, cap, A, L, C, Z, hcs, -, hl, hm, -, hr⟩
  · simp at hcs
    subst hcs
    exact ⟨[], ReadSS.nil _, ⟨Nat.zero_le _, fun i hi => absurd hi (Nat.not_lt_zero _)⟩⟩
  · simp at hcs
    subst hcs
    have hlen : ((List.range len).map fun r => (Z r).take (L r)).length = len := by simp
    have hget : ∀ i, i < len → ((List.range len).map fun r => (Z r).take (L r)).getD i [] = (Z i).take (L i) := fun i hi => by
      rw [List.getD_eq_getElem?_getD, List.getElem?_eq_getElem (by rw [hlen]; exact hi)]; simp
    have hrl : ∀ i, i < len → ((Z i).take (L i)).length = L i := fun i hi => by
      obtain ⟨-, h1, -, h2, -⟩ := hr i (by omega)
      rw [List.length_take]; omega
    refine ⟨(List.range len).map fun r => (Z r).take (L r), ⟨some a, cap, by rw [hlen], fun i hi => ?_⟩, by rw [hlen]; unfold maxLen at hm; omega, fun i hi => ?_⟩
    · rw [hlen] at hi
      obtain ⟨h0, h1, h2, h3, h4, h5, h6⟩ := hr i (by omega)
      rw [hget i hi]
      refine ⟨a, _, rfl, h0, A i, C i, by rw [hrl i hi], fun j hj => ?_⟩
      rw [hrl i hi] at hj
      cases hA : A i with
      | none => have := h5 hA; omega
      | some a' =>
        refine ⟨a', rfl, ?_⟩
        rw [(h6 a' hA).2 j (by omega)]
        simp only [List.getElem_take]
        rw [List.getD_eq_getElem?_getD, List.getElem?_eq_getElem (by omega)]
        rfl
    · rw [hlen] at hi
      rw [hget i hi, hrl i hi]
      obtain ⟨-, h1, h2, -⟩ := hr i (by omega)
      unfold maxLen at h2; omega
theorem open_table {r : Reach} {b0 : Nat} {v : Value} {d : DataW H} {p : List MemPlace} (hv : Value.okWide Try.prog w r b0 24 v) (h : DataW.Trod enc Try.prog w base (fun _ => true) held 24 v d p) :
    ∃ (c : Int) (u : Value) (ll : List (List Int)), v = .agg #[.int .i64 c, u] ∧ (Lit.int .i64 c).wf = true ∧ ReadSS w u ll ∧ Short ll := by
  obtain ⟨c0, c1, y0, y1, m, rfl, -, -, hy0, hy1⟩ := open_agg2 Try.underlying24 (by kernel_rfl) cellsTab hv h
  obtain ⟨n, hn, -, hwf⟩ := DataW.trod_int Try.underlying3 hy0
  simp at hn
  subst hn
  obtain ⟨ll, h1, h2⟩ := open_rows hy1
  exact ⟨n, c1, ll, rfl, hwf, h1, h2⟩
end
end Go.Proofs.Ytkaalgbcdcbgoaa
