/- The program's RowsToRemove, by contract. Conditions: as stated. -/
import Derived.Test.YtnbjcelfdppkcadGreatXz44
namespace Go.Proofs.YtnbjcelfdppkcadGreat
open Go.RowKit

theorem Box6.block {w w' : World} {b : Nat} {a0 a1 a2 a3 a4 a5 : Int} (h : Box6 w b a0 a1 a2 a3 a4 a5) (e : w'.heap[b]? = w.heap[b]?) : Box6 w' b a0 a1 a2 a3 a4 a5 := by
  have hc : ∀ j, w'.cell? ⟨b, j, none⟩ = w.cell? ⟨b, j, none⟩ := fun j => World.cell?_of_block (a := ⟨b, j, none⟩) e
  exact ⟨(hc 0).trans h.1, (hc 1).trans h.2.1, (hc 2).trans h.2.2.1, (hc 3).trans h.2.2.2.1, (hc 4).trans h.2.2.2.2.1, (hc 5).trans h.2.2.2.2.2⟩
section
set_option maxRecDepth 20000
set_option maxHeartbeats 3200000
end
end Go.Proofs.YtnbjcelfdppkcadGreat
