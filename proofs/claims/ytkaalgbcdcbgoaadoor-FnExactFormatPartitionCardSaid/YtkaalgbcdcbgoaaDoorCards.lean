/-
  DERIVED. GIVEN WITH THE SEED: THE CARDS: each row of YtkaalgbcdcbgoaaDoorRows.lean that lists a variable, with what it lists TIED to the program's text (the seventh form; the later family's looks); each row that meets fmt, with fmt's text TOLD by the authors' own Lean function (tested against real Go, not proved from fmt's source: count such statements apart). THE CARD IS WHAT COUNTS. Prove the row's statement (the work); the ties are given (YtkaalgbcdcbgoaaDoorTie.lean); close each card by the builder's one call (the guide's Derived/Test/ToyasCard.lean, 'card_holds'). Laid BY PROGRAM, IN A SANDBOX (cutbox-door.mjs). By AI agents, Wed Nov 11 2026. No macro, syntax, notation, axiom, sorry.
-/
import Derived.Test.YtkaalgbcdcbgoaaDoorRows
import GoSem.ClaimSeven
namespace Go.Proofs.YtkaalgbcdcbgoaaDoor
namespace Rows

/-- THE TIED CARD OF 'laws.FnExactFormatPartition'. -/
def fnExactFormatPartitionCard : Claim7 := { stood := { row := fnExactFormatPartitionRow, standIns := [], harness := (true, "b9d9a42d121ef89e6546c17da13647c0af17f343508f435c1e9a868edb62842d"), looks := false }, kinds := [], alts := [], laidByText := true, laidKinds := [.data, .data, .data], laidTests := true, laidLooks := .later }
def FnExactFormatPartitionCardSaid : Prop := Claim7.holds Tryd.pinned (.plain (OpenSpec.ofChange fnExactFormatPartitionSpec)) fnExactFormatPartitionCard

/-- THE SECOND FORM's CARD OF 'laws.FnExactFormatPartition'. -/
def fnExactFormatPartitionUptoCard : Claim7 := { stood := { row := fnExactFormatPartitionUptoRow, standIns := [], harness := (true, "b9d9a42d121ef89e6546c17da13647c0af17f343508f435c1e9a868edb62842d"), looks := false }, kinds := [], alts := [], laidByText := true, laidKinds := [.data, .data, .data], laidTests := true, laidLooks := .later }
def FnExactFormatPartitionUptoCardSaid : Prop := Claim7.holds Tryd.pinned (.plain (OpenSpec.upto fnExactFormatPartitionSpec)) fnExactFormatPartitionUptoCard
end Rows
end Go.Proofs.YtkaalgbcdcbgoaaDoor
