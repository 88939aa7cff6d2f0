/-
  No cell of these rows narrows 'for every input' (looked for: loops, veiled, ifaces, maps, wideKeys, modest, calm, conditions, laid).
  DERIVED. THE GIVEN ROWS OF THIS SEAT. 4 by the template 'for every input the law returns true; each argument reads behind the call as it read before'; 0 by the template 'total and deterministic' (their statements: YtpnapdhcdhcacaaTotals.lean).
  GIVEN WITH THE SEED: the statements are not yours to turn. If you find one false, say at which input.
  Laid BY PROGRAM, IN A SANDBOX (cutbox-rows.mjs): the forced cells as the released guide's own fill.sh prints them over the translation 63707b9ed8e39bd0… (all of the seat's roots in one cut). By AI agents, Wed Nov 11 2026. No macro, syntax, notation, axiom, sorry.
-/
import Derived.Test.YtpnapdhcdhcacaaChecked
import GoSem.Claim
import GoSem.ClaimJoined
import GoSem.ClaimMapViews
import Derived.JoinedTies
import Derived.KernelRfl
namespace Go.Proofs.Ytpnapdhcdhcacaa
/- THE CELL 'sum', in the pinned program and in every row, IS THE sha256 OF THE DUMP (.gsa) THAT YtpnapdhcdhcacaaProg.lean LOADS. Nothing in Lean hashes anything: it is a label: what it is worth is what the hold of that sum in a sandbox is worth. -/
noncomputable def Try.pinned : Pinned := { name := "ytpnapdhcdhcacaa", sum := "63707b9ed8e39bd0ea08c595b2f27bc587813b86341aa4e2839a1a687513b317", checked := Try.checked }
namespace Rows
def none {H : Type} : Left H := { results := [], args := [] }

/-- 'laws.FnExactArmstrongTable': WHATEVER THE INPUT: true; the input reads as it did. -/
def fnExactArmstrongTableSpec : ChangeSpec := { name := "fnExactArmstrongTable", fn := fun _ => fun
  | [d1, d2] => { results := [.lit (.bool true)], args := [d1, d2] }
  | _ => none }
def fnExactArmstrongTableRow : OpenClaim := { program := "ytpnapdhcdhcacaa", sum := "63707b9ed8e39bd0ea08c595b2f27bc587813b86341aa4e2839a1a687513b317", func := "loop.example/g01988/laws.FnExactArmstrongTable", spec := "fnExactArmstrongTable", inPlace := ["slices.overlaps[[]int]"], unfollowed := true, recurses := true, apart := false }
def FnExactArmstrongTableSaid : Prop := fnExactArmstrongTableRow.holds Try.pinned (OpenSpec.ofChange fnExactArmstrongTableSpec)

/-- ITS FALSE NEIGHBOUR: 'it returns false'. Refute it at one input. -/
def fnExactArmstrongTableWrong : ChangeSpec := { name := "fnExactArmstrongTable", fn := fun _ => fun
  | [d1, d2] => { results := [.lit (.bool false)], args := [d1, d2] }
  | _ => none }
def FnExactArmstrongTableWrongFalsely : Prop := fnExactArmstrongTableRow.holds Try.pinned (OpenSpec.ofChange fnExactArmstrongTableWrong)

/-- 'laws.FnExactCounterTable': WHATEVER THE INPUT: true; the input reads as it did. -/
def fnExactCounterTableSpec : ChangeSpec := { name := "fnExactCounterTable", fn := fun _ => fun
  | [d1, d2, d3] => { results := [.lit (.bool true)], args := [d1, d2, d3] }
  | _ => none }
def fnExactCounterTableRow : OpenClaim := { program := "ytpnapdhcdhcacaa", sum := "63707b9ed8e39bd0ea08c595b2f27bc587813b86341aa4e2839a1a687513b317", func := "loop.example/g01988/laws.FnExactCounterTable", spec := "fnExactCounterTable", inPlace := ["slices.overlaps[[]int]"], unfollowed := true, recurses := true, apart := false }
def FnExactCounterTableSaid : Prop := fnExactCounterTableRow.holds Try.pinned (OpenSpec.ofChange fnExactCounterTableSpec)

/-- ITS FALSE NEIGHBOUR: 'it returns false'. Refute it at one input. -/
def fnExactCounterTableWrong : ChangeSpec := { name := "fnExactCounterTable", fn := fun _ => fun
  | [d1, d2, d3] => { results := [.lit (.bool false)], args := [d1, d2, d3] }
  | _ => none }
def FnExactCounterTableWrongFalsely : Prop := fnExactCounterTableRow.holds Try.pinned (OpenSpec.ofChange fnExactCounterTableWrong)

/-- 'laws.FnExactSatisfiesAll': WHATEVER THE INPUT: true; the input reads as it did. -/
def fnExactSatisfiesAllSpec : ChangeSpec := { name := "fnExactSatisfiesAll", fn := fun _ => fun
  | [d1, d2, d3] => { results := [.lit (.bool true)], args := [d1, d2, d3] }
  | _ => none }
def fnExactSatisfiesAllRow : OpenClaim := { program := "ytpnapdhcdhcacaa", sum := "63707b9ed8e39bd0ea08c595b2f27bc587813b86341aa4e2839a1a687513b317", func := "loop.example/g01988/laws.FnExactSatisfiesAll", spec := "fnExactSatisfiesAll", unfollowed := true, recurses := true, apart := false }
def FnExactSatisfiesAllSaid : Prop := fnExactSatisfiesAllRow.holds Try.pinned (OpenSpec.ofChange fnExactSatisfiesAllSpec)

/-- ITS FALSE NEIGHBOUR: 'it returns false'. Refute it at one input. -/
def fnExactSatisfiesAllWrong : ChangeSpec := { name := "fnExactSatisfiesAll", fn := fun _ => fun
  | [d1, d2, d3] => { results := [.lit (.bool false)], args := [d1, d2, d3] }
  | _ => none }
def FnExactSatisfiesAllWrongFalsely : Prop := fnExactSatisfiesAllRow.holds Try.pinned (OpenSpec.ofChange fnExactSatisfiesAllWrong)

/-- 'laws.FnExactDepsOfAgreeSets': WHATEVER THE INPUT: true; the input reads as it did. -/
def fnExactDepsOfAgreeSetsSpec : ChangeSpec := { name := "fnExactDepsOfAgreeSets", fn := fun _ => fun
  | [d1, d2] => { results := [.lit (.bool true)], args := [d1, d2] }
  | _ => none }
def fnExactDepsOfAgreeSetsRow : OpenClaim := { program := "ytpnapdhcdhcacaa", sum := "63707b9ed8e39bd0ea08c595b2f27bc587813b86341aa4e2839a1a687513b317", func := "loop.example/g01988/laws.FnExactDepsOfAgreeSets", spec := "fnExactDepsOfAgreeSets", unfollowed := true, recurses := true, apart := false }
def FnExactDepsOfAgreeSetsSaid : Prop := fnExactDepsOfAgreeSetsRow.holds Try.pinned (OpenSpec.ofChange fnExactDepsOfAgreeSetsSpec)

/-- ITS FALSE NEIGHBOUR: 'it returns false'. Refute it at one input. -/
def fnExactDepsOfAgreeSetsWrong : ChangeSpec := { name := "fnExactDepsOfAgreeSets", fn := fun _ => fun
  | [d1, d2] => { results := [.lit (.bool false)], args := [d1, d2] }
  | _ => none }
def FnExactDepsOfAgreeSetsWrongFalsely : Prop := fnExactDepsOfAgreeSetsRow.holds Try.pinned (OpenSpec.ofChange fnExactDepsOfAgreeSetsWrong)

/- THE SECOND FORM. 'bulk': how many values and letters a reading holds, each counted each time it is reached (what is shared counts as often as it is met; a slice's spare places count too). A statement '..UptoSaid' is the law's where the arguments, and the package variables that the reading takes, are together of bulk at most 1048576: NARROWER than '..Said'. Prove '..Said' where nothing that the law and all that it calls make is longer than what came in: it says more and counts as full. Else prove '..UptoSaid'. A law counts once. -/
mutual
def uptoBulk {H : Type} : DataW H → Nat
  | .lit (.string bytes) => bytes.length + 1
  | .lit _ => 1
  | .nil => 1
  | .ptr d => uptoBulk d + 1
  | .slice elems spare => uptoBulkAll elems + uptoBulkAll spare + 1
  | .agg parts => uptoBulkAll parts + 1
  | .iface _ d => uptoBulk d + 1
  | .map entries => uptoBulkEntries entries + 1
  | .held _ => 1
def uptoBulkAll {H : Type} : List (DataW H) → Nat
  | [] => 0
  | d :: r => uptoBulk d + uptoBulkAll r
def uptoBulkEntries {H : Type} : List (Lit × DataW H) → Nat
  | [] => 0
  | x :: r => uptoBulkEntry x + uptoBulkEntries r
def uptoBulkEntry {H : Type} : Lit × DataW H → Nat
  | (.string bytes, d) => bytes.length + uptoBulk d + 1
  | (_, d) => uptoBulk d + 1
 end
def uptoSmall : (H : Type) → List (DataW H) → Bool := fun _ ds => decide (uptoBulkAll ds ≤ 1048576)
def OpenSpec.upto (s : _root_.Go.ChangeSpec) : _root_.Go.OpenSpec := { _root_.Go.OpenSpec.ofChange s with cond := some uptoSmall }

/-- 'laws.FnExactArmstrongTable', WHERE WHAT IT READS IS OF BULK AT MOST 1048576: true; the input reads as it did. -/
def fnExactArmstrongTableUptoRow : OpenClaim := { program := "ytpnapdhcdhcacaa", sum := "63707b9ed8e39bd0ea08c595b2f27bc587813b86341aa4e2839a1a687513b317", func := "loop.example/g01988/laws.FnExactArmstrongTable", spec := "fnExactArmstrongTable", inPlace := ["slices.overlaps[[]int]"], unfollowed := true, recurses := true, apart := false, narrowed := true }
def FnExactArmstrongTableUptoSaid : Prop := fnExactArmstrongTableUptoRow.holds Try.pinned (OpenSpec.upto fnExactArmstrongTableSpec)

/-- 'laws.FnExactCounterTable', WHERE WHAT IT READS IS OF BULK AT MOST 1048576: true; the input reads as it did. -/
def fnExactCounterTableUptoRow : OpenClaim := { program := "ytpnapdhcdhcacaa", sum := "63707b9ed8e39bd0ea08c595b2f27bc587813b86341aa4e2839a1a687513b317", func := "loop.example/g01988/laws.FnExactCounterTable", spec := "fnExactCounterTable", inPlace := ["slices.overlaps[[]int]"], unfollowed := true, recurses := true, apart := false, narrowed := true }
def FnExactCounterTableUptoSaid : Prop := fnExactCounterTableUptoRow.holds Try.pinned (OpenSpec.upto fnExactCounterTableSpec)

/-- 'laws.FnExactSatisfiesAll', WHERE WHAT IT READS IS OF BULK AT MOST 1048576: true; the input reads as it did. -/
def fnExactSatisfiesAllUptoRow : OpenClaim := { program := "ytpnapdhcdhcacaa", sum := "63707b9ed8e39bd0ea08c595b2f27bc587813b86341aa4e2839a1a687513b317", func := "loop.example/g01988/laws.FnExactSatisfiesAll", spec := "fnExactSatisfiesAll", unfollowed := true, recurses := true, apart := false, narrowed := true }
def FnExactSatisfiesAllUptoSaid : Prop := fnExactSatisfiesAllUptoRow.holds Try.pinned (OpenSpec.upto fnExactSatisfiesAllSpec)

/-- 'laws.FnExactDepsOfAgreeSets', WHERE WHAT IT READS IS OF BULK AT MOST 1048576: true; the input reads as it did. -/
def fnExactDepsOfAgreeSetsUptoRow : OpenClaim := { program := "ytpnapdhcdhcacaa", sum := "63707b9ed8e39bd0ea08c595b2f27bc587813b86341aa4e2839a1a687513b317", func := "loop.example/g01988/laws.FnExactDepsOfAgreeSets", spec := "fnExactDepsOfAgreeSets", unfollowed := true, recurses := true, apart := false, narrowed := true }
def FnExactDepsOfAgreeSetsUptoSaid : Prop := fnExactDepsOfAgreeSetsUptoRow.holds Try.pinned (OpenSpec.upto fnExactDepsOfAgreeSetsSpec)

end Rows
end Go.Proofs.Ytpnapdhcdhcacaa
