/-
  No cell of these rows narrows 'for every input' (looked for: loops, veiled, ifaces, maps, wideKeys, modest, calm, conditions, laid).
  DERIVED. THE GIVEN ROWS OF THIS SEAT. 8 by the template 'for every input the law returns true; each argument reads behind the call as it read before'; 0 by the template 'total and deterministic' (their statements: YtchdceglcjjggaaTotals.lean).
  GIVEN WITH THE SEED: the statements are not yours to turn. If you find one false, say at which input.
  Laid BY PROGRAM, IN A SANDBOX (cutbox-rows.mjs): the forced cells as the released guide's own fill.sh prints them over the translation 6326dbc7d8d7a285… (all of the seat's roots in one cut). By AI agents, Wed Nov 11 2026. No macro, syntax, notation, axiom, sorry.
-/
import Derived.Test.YtchdceglcjjggaaChecked
import GoSem.Claim
import GoSem.ClaimJoined
import GoSem.ClaimMapViews
import Derived.JoinedTies
import Derived.KernelRfl
namespace Go.Proofs.Ytchdceglcjjggaa
/- THE CELL 'sum', in the pinned program and in every row, IS THE sha256 OF THE DUMP (.gsa) THAT YtchdceglcjjggaaProg.lean LOADS. Nothing in Lean hashes anything: it is a label: what it is worth is what the hold of that sum in a sandbox is worth. -/
noncomputable def Try.pinned : Pinned := { name := "ytchdceglcjjggaa", sum := "6326dbc7d8d7a2858cc8cd11277ce5db11174c42500a96005f133fc520d764f6", checked := Try.checked }
namespace Rows
def none {H : Type} : Left H := { results := [], args := [] }

/-- 'laws.FnAgrees': WHATEVER THE INPUT: true; the input reads as it did. -/
def fnAgreesSpec : ChangeSpec := { name := "fnAgrees", fn := fun _ => fun
  | [d] => { results := [.lit (.bool true)], args := [d] }
  | _ => none }
def fnAgreesRow : OpenClaim := { program := "ytchdceglcjjggaa", sum := "6326dbc7d8d7a2858cc8cd11277ce5db11174c42500a96005f133fc520d764f6", func := "loop.example/g01988/laws.FnAgrees", spec := "fnAgrees", unfollowed := true, recurses := true, apart := false }
def FnAgreesSaid : Prop := fnAgreesRow.holds Try.pinned (OpenSpec.ofChange fnAgreesSpec)

/-- ITS FALSE NEIGHBOUR: 'it returns false'. Refute it at one input. -/
def fnAgreesWrong : ChangeSpec := { name := "fnAgrees", fn := fun _ => fun
  | [d] => { results := [.lit (.bool false)], args := [d] }
  | _ => none }
def FnAgreesWrongFalsely : Prop := fnAgreesRow.holds Try.pinned (OpenSpec.ofChange fnAgreesWrong)

/-- 'laws.FnExactEqualCells': WHATEVER THE INPUT: true; the input reads as it did. -/
def fnExactEqualCellsSpec : ChangeSpec := { name := "fnExactEqualCells", fn := fun _ => fun
  | [d1, d2, d3] => { results := [.lit (.bool true)], args := [d1, d2, d3] }
  | _ => none }
def fnExactEqualCellsRow : OpenClaim := { program := "ytchdceglcjjggaa", sum := "6326dbc7d8d7a2858cc8cd11277ce5db11174c42500a96005f133fc520d764f6", func := "loop.example/g01988/laws.FnExactEqualCells", spec := "fnExactEqualCells", unfollowed := true, recurses := true, apart := false }
def FnExactEqualCellsSaid : Prop := fnExactEqualCellsRow.holds Try.pinned (OpenSpec.ofChange fnExactEqualCellsSpec)

/-- ITS FALSE NEIGHBOUR: 'it returns false'. Refute it at one input. -/
def fnExactEqualCellsWrong : ChangeSpec := { name := "fnExactEqualCells", fn := fun _ => fun
  | [d1, d2, d3] => { results := [.lit (.bool false)], args := [d1, d2, d3] }
  | _ => none }
def FnExactEqualCellsWrongFalsely : Prop := fnExactEqualCellsRow.holds Try.pinned (OpenSpec.ofChange fnExactEqualCellsWrong)

/-- 'laws.FnExactAgreeOf': WHATEVER THE INPUT: true; the input reads as it did. -/
def fnExactAgreeOfSpec : ChangeSpec := { name := "fnExactAgreeOf", fn := fun _ => fun
  | [d1, d2, d3, d4] => { results := [.lit (.bool true)], args := [d1, d2, d3, d4] }
  | _ => none }
def fnExactAgreeOfRow : OpenClaim := { program := "ytchdceglcjjggaa", sum := "6326dbc7d8d7a2858cc8cd11277ce5db11174c42500a96005f133fc520d764f6", func := "loop.example/g01988/laws.FnExactAgreeOf", spec := "fnExactAgreeOf", unfollowed := true, recurses := true, apart := false }
def FnExactAgreeOfSaid : Prop := fnExactAgreeOfRow.holds Try.pinned (OpenSpec.ofChange fnExactAgreeOfSpec)

/-- ITS FALSE NEIGHBOUR: 'it returns false'. Refute it at one input. -/
def fnExactAgreeOfWrong : ChangeSpec := { name := "fnExactAgreeOf", fn := fun _ => fun
  | [d1, d2, d3, d4] => { results := [.lit (.bool false)], args := [d1, d2, d3, d4] }
  | _ => none }
def FnExactAgreeOfWrongFalsely : Prop := fnExactAgreeOfRow.holds Try.pinned (OpenSpec.ofChange fnExactAgreeOfWrong)

/-- 'laws.FnExactAgreeSets': WHATEVER THE INPUT: true; the input reads as it did. -/
def fnExactAgreeSetsSpec : ChangeSpec := { name := "fnExactAgreeSets", fn := fun _ => fun
  | [d1, d2] => { results := [.lit (.bool true)], args := [d1, d2] }
  | _ => none }
def fnExactAgreeSetsRow : OpenClaim := { program := "ytchdceglcjjggaa", sum := "6326dbc7d8d7a2858cc8cd11277ce5db11174c42500a96005f133fc520d764f6", func := "loop.example/g01988/laws.FnExactAgreeSets", spec := "fnExactAgreeSets", unfollowed := true, recurses := true, apart := false }
def FnExactAgreeSetsSaid : Prop := fnExactAgreeSetsRow.holds Try.pinned (OpenSpec.ofChange fnExactAgreeSetsSpec)

/-- ITS FALSE NEIGHBOUR: 'it returns false'. Refute it at one input. -/
def fnExactAgreeSetsWrong : ChangeSpec := { name := "fnExactAgreeSets", fn := fun _ => fun
  | [d1, d2] => { results := [.lit (.bool false)], args := [d1, d2] }
  | _ => none }
def FnExactAgreeSetsWrongFalsely : Prop := fnExactAgreeSetsRow.holds Try.pinned (OpenSpec.ofChange fnExactAgreeSetsWrong)

/-- 'laws.FnExactDifferenceSets': WHATEVER THE INPUT: true; the input reads as it did. -/
def fnExactDifferenceSetsSpec : ChangeSpec := { name := "fnExactDifferenceSets", fn := fun _ => fun
  | [d1, d2, d3] => { results := [.lit (.bool true)], args := [d1, d2, d3] }
  | _ => none }
def fnExactDifferenceSetsRow : OpenClaim := { program := "ytchdceglcjjggaa", sum := "6326dbc7d8d7a2858cc8cd11277ce5db11174c42500a96005f133fc520d764f6", func := "loop.example/g01988/laws.FnExactDifferenceSets", spec := "fnExactDifferenceSets", unfollowed := true, recurses := true, apart := false }
def FnExactDifferenceSetsSaid : Prop := fnExactDifferenceSetsRow.holds Try.pinned (OpenSpec.ofChange fnExactDifferenceSetsSpec)

/-- ITS FALSE NEIGHBOUR: 'it returns false'. Refute it at one input. -/
def fnExactDifferenceSetsWrong : ChangeSpec := { name := "fnExactDifferenceSets", fn := fun _ => fun
  | [d1, d2, d3] => { results := [.lit (.bool false)], args := [d1, d2, d3] }
  | _ => none }
def FnExactDifferenceSetsWrongFalsely : Prop := fnExactDifferenceSetsRow.holds Try.pinned (OpenSpec.ofChange fnExactDifferenceSetsWrong)

/-- 'laws.FnExactMaximalSets': WHATEVER THE INPUT: true; the input reads as it did. -/
def fnExactMaximalSetsSpec : ChangeSpec := { name := "fnExactMaximalSets", fn := fun _ => fun
  | [d] => { results := [.lit (.bool true)], args := [d] }
  | _ => none }
def fnExactMaximalSetsRow : OpenClaim := { program := "ytchdceglcjjggaa", sum := "6326dbc7d8d7a2858cc8cd11277ce5db11174c42500a96005f133fc520d764f6", func := "loop.example/g01988/laws.FnExactMaximalSets", spec := "fnExactMaximalSets", unfollowed := true, recurses := true, apart := false }
def FnExactMaximalSetsSaid : Prop := fnExactMaximalSetsRow.holds Try.pinned (OpenSpec.ofChange fnExactMaximalSetsSpec)

/-- ITS FALSE NEIGHBOUR: 'it returns false'. Refute it at one input. -/
def fnExactMaximalSetsWrong : ChangeSpec := { name := "fnExactMaximalSets", fn := fun _ => fun
  | [d] => { results := [.lit (.bool false)], args := [d] }
  | _ => none }
def FnExactMaximalSetsWrongFalsely : Prop := fnExactMaximalSetsRow.holds Try.pinned (OpenSpec.ofChange fnExactMaximalSetsWrong)

/-- 'laws.FnExactMinimalSets': WHATEVER THE INPUT: true; the input reads as it did. -/
def fnExactMinimalSetsSpec : ChangeSpec := { name := "fnExactMinimalSets", fn := fun _ => fun
  | [d] => { results := [.lit (.bool true)], args := [d] }
  | _ => none }
def fnExactMinimalSetsRow : OpenClaim := { program := "ytchdceglcjjggaa", sum := "6326dbc7d8d7a2858cc8cd11277ce5db11174c42500a96005f133fc520d764f6", func := "loop.example/g01988/laws.FnExactMinimalSets", spec := "fnExactMinimalSets", unfollowed := true, recurses := true, apart := false }
def FnExactMinimalSetsSaid : Prop := fnExactMinimalSetsRow.holds Try.pinned (OpenSpec.ofChange fnExactMinimalSetsSpec)

/-- ITS FALSE NEIGHBOUR: 'it returns false'. Refute it at one input. -/
def fnExactMinimalSetsWrong : ChangeSpec := { name := "fnExactMinimalSets", fn := fun _ => fun
  | [d] => { results := [.lit (.bool false)], args := [d] }
  | _ => none }
def FnExactMinimalSetsWrongFalsely : Prop := fnExactMinimalSetsRow.holds Try.pinned (OpenSpec.ofChange fnExactMinimalSetsWrong)

/-- 'laws.FnExactColumnOf': WHATEVER THE INPUT: true; the input reads as it did. -/
def fnExactColumnOfSpec : ChangeSpec := { name := "fnExactColumnOf", fn := fun _ => fun
  | [d1, d2] => { results := [.lit (.bool true)], args := [d1, d2] }
  | _ => none }
def fnExactColumnOfRow : OpenClaim := { program := "ytchdceglcjjggaa", sum := "6326dbc7d8d7a2858cc8cd11277ce5db11174c42500a96005f133fc520d764f6", func := "loop.example/g01988/laws.FnExactColumnOf", spec := "fnExactColumnOf", apart := false }
def FnExactColumnOfSaid : Prop := fnExactColumnOfRow.holds Try.pinned (OpenSpec.ofChange fnExactColumnOfSpec)

/-- ITS FALSE NEIGHBOUR: 'it returns false'. Refute it at one input. -/
def fnExactColumnOfWrong : ChangeSpec := { name := "fnExactColumnOf", fn := fun _ => fun
  | [d1, d2] => { results := [.lit (.bool false)], args := [d1, d2] }
  | _ => none }
def FnExactColumnOfWrongFalsely : Prop := fnExactColumnOfRow.holds Try.pinned (OpenSpec.ofChange fnExactColumnOfWrong)

/- THE SECOND FORM. 'bulk': how many values and letters a reading holds, each counted each time it is reached (what is shared counts as often as it is met; a slice's spare places count too). A statement '..UptoSaid' is the law's where the arguments, and the package variables that the reading takes, are together of bulk at most 1048576: NARROWER than '..Said'. Prove '..Said' where nothing that the law and all that it calls make is longer than what came in: it says more and counts as full. Else prove '..UptoSaid'. A law counts once. -/
mutual
def uptoBulk {H : Type} : DataW H → Nat
  | .lit (.string bytes) => bytes.length + 1
  | .lit _ => 1
  | .nil => 1
  | .ptr d => uptoBulk d + 1
  | .slice elems spare => uptoBulkAll elems + uptoBulkAll spare + 1
  | .agg parts => uptoBulkAll parts + 1
  | .iface _ d => uptoBulk d + 1
  | .map entries => uptoBulkEntries entries + 1
  | .held _ => 1
def uptoBulkAll {H : Type} : List (DataW H) → Nat
  | [] => 0
  | d :: r => uptoBulk d + uptoBulkAll r
def uptoBulkEntries {H : Type} : List (Lit × DataW H) → Nat
  | [] => 0
  | x :: r => uptoBulkEntry x + uptoBulkEntries r
def uptoBulkEntry {H : Type} : Lit × DataW H → Nat
  | (.string bytes, d) => bytes.length + uptoBulk d + 1
  | (_, d) => uptoBulk d + 1
 end
def uptoSmall : (H : Type) → List (DataW H) → Bool := fun _ ds => decide (uptoBulkAll ds ≤ 1048576)
def OpenSpec.upto (s : _root_.Go.ChangeSpec) : _root_.Go.OpenSpec := { _root_.Go.OpenSpec.ofChange s with cond := some uptoSmall }

/-- 'laws.FnAgrees', WHERE WHAT IT READS IS OF BULK AT MOST 1048576: true; the input reads as it did. -/
def fnAgreesUptoRow : OpenClaim := { program := "ytchdceglcjjggaa", sum := "6326dbc7d8d7a2858cc8cd11277ce5db11174c42500a96005f133fc520d764f6", func := "loop.example/g01988/laws.FnAgrees", spec := "fnAgrees", unfollowed := true, recurses := true, apart := false, narrowed := true }
def FnAgreesUptoSaid : Prop := fnAgreesUptoRow.holds Try.pinned (OpenSpec.upto fnAgreesSpec)

/-- 'laws.FnExactEqualCells', WHERE WHAT IT READS IS OF BULK AT MOST 1048576: true; the input reads as it did. -/
def fnExactEqualCellsUptoRow : OpenClaim := { program := "ytchdceglcjjggaa", sum := "6326dbc7d8d7a2858cc8cd11277ce5db11174c42500a96005f133fc520d764f6", func := "loop.example/g01988/laws.FnExactEqualCells", spec := "fnExactEqualCells", unfollowed := true, recurses := true, apart := false, narrowed := true }
def FnExactEqualCellsUptoSaid : Prop := fnExactEqualCellsUptoRow.holds Try.pinned (OpenSpec.upto fnExactEqualCellsSpec)

/-- 'laws.FnExactAgreeOf', WHERE WHAT IT READS IS OF BULK AT MOST 1048576: true; the input reads as it did. -/
def fnExactAgreeOfUptoRow : OpenClaim := { program := "ytchdceglcjjggaa", sum := "6326dbc7d8d7a2858cc8cd11277ce5db11174c42500a96005f133fc520d764f6", func := "loop.example/g01988/laws.FnExactAgreeOf", spec := "fnExactAgreeOf", unfollowed := true, recurses := true, apart := false, narrowed := true }
def FnExactAgreeOfUptoSaid : Prop := fnExactAgreeOfUptoRow.holds Try.pinned (OpenSpec.upto fnExactAgreeOfSpec)

/-- 'laws.FnExactAgreeSets', WHERE WHAT IT READS IS OF BULK AT MOST 1048576: true; the input reads as it did. -/
def fnExactAgreeSetsUptoRow : OpenClaim := { program := "ytchdceglcjjggaa", sum := "6326dbc7d8d7a2858cc8cd11277ce5db11174c42500a96005f133fc520d764f6", func := "loop.example/g01988/laws.FnExactAgreeSets", spec := "fnExactAgreeSets", unfollowed := true, recurses := true, apart := false, narrowed := true }
def FnExactAgreeSetsUptoSaid : Prop := fnExactAgreeSetsUptoRow.holds Try.pinned (OpenSpec.upto fnExactAgreeSetsSpec)

/-- 'laws.FnExactDifferenceSets', WHERE WHAT IT READS IS OF BULK AT MOST 1048576: true; the input reads as it did. -/
def fnExactDifferenceSetsUptoRow : OpenClaim := { program := "ytchdceglcjjggaa", sum := "6326dbc7d8d7a2858cc8cd11277ce5db11174c42500a96005f133fc520d764f6", func := "loop.example/g01988/laws.FnExactDifferenceSets", spec := "fnExactDifferenceSets", unfollowed := true, recurses := true, apart := false, narrowed := true }
def FnExactDifferenceSetsUptoSaid : Prop := fnExactDifferenceSetsUptoRow.holds Try.pinned (OpenSpec.upto fnExactDifferenceSetsSpec)

/-- 'laws.FnExactMaximalSets', WHERE WHAT IT READS IS OF BULK AT MOST 1048576: true; the input reads as it did. -/
def fnExactMaximalSetsUptoRow : OpenClaim := { program := "ytchdceglcjjggaa", sum := "6326dbc7d8d7a2858cc8cd11277ce5db11174c42500a96005f133fc520d764f6", func := "loop.example/g01988/laws.FnExactMaximalSets", spec := "fnExactMaximalSets", unfollowed := true, recurses := true, apart := false, narrowed := true }
def FnExactMaximalSetsUptoSaid : Prop := fnExactMaximalSetsUptoRow.holds Try.pinned (OpenSpec.upto fnExactMaximalSetsSpec)

/-- 'laws.FnExactMinimalSets', WHERE WHAT IT READS IS OF BULK AT MOST 1048576: true; the input reads as it did. -/
def fnExactMinimalSetsUptoRow : OpenClaim := { program := "ytchdceglcjjggaa", sum := "6326dbc7d8d7a2858cc8cd11277ce5db11174c42500a96005f133fc520d764f6", func := "loop.example/g01988/laws.FnExactMinimalSets", spec := "fnExactMinimalSets", unfollowed := true, recurses := true, apart := false, narrowed := true }
def FnExactMinimalSetsUptoSaid : Prop := fnExactMinimalSetsUptoRow.holds Try.pinned (OpenSpec.upto fnExactMinimalSetsSpec)

/-- 'laws.FnExactColumnOf', WHERE WHAT IT READS IS OF BULK AT MOST 1048576: true; the input reads as it did. -/
def fnExactColumnOfUptoRow : OpenClaim := { program := "ytchdceglcjjggaa", sum := "6326dbc7d8d7a2858cc8cd11277ce5db11174c42500a96005f133fc520d764f6", func := "loop.example/g01988/laws.FnExactColumnOf", spec := "fnExactColumnOf", apart := false, narrowed := true }
def FnExactColumnOfUptoSaid : Prop := fnExactColumnOfUptoRow.holds Try.pinned (OpenSpec.upto fnExactColumnOfSpec)

end Rows
end Go.Proofs.Ytchdceglcjjggaa
