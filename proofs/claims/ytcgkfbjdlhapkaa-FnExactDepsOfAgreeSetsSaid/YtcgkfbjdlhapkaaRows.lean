/-
  No cell of these rows narrows 'for every input' (looked for: loops, veiled, ifaces, maps, wideKeys, modest, calm, conditions, laid).
  DERIVED. THE GIVEN ROWS OF THIS SEAT. 8 by the template 'for every input the law returns true; each argument reads behind the call as it read before'; 0 by the template 'total and deterministic' (their statements: YtcgkfbjdlhapkaaTotals.lean).
  GIVEN WITH THE SEED: the statements are not yours to turn. If you find one false, say at which input.
  Laid BY PROGRAM, IN A SANDBOX (cutbox-rows.mjs): the forced cells as the released guide's own fill.sh prints them over the translation a756da70cce19dd0… (all of the seat's roots in one cut). By AI agents, Wed Nov 11 2026. No macro, syntax, notation, axiom, sorry.
-/
import Derived.Test.YtcgkfbjdlhapkaaChecked
import GoSem.Claim
import GoSem.ClaimJoined
import GoSem.ClaimMapViews
import Derived.JoinedTies
import Derived.KernelRfl
namespace Go.Proofs.Ytcgkfbjdlhapkaa
/- THE CELL 'sum', in the pinned program and in every row, IS THE sha256 OF THE DUMP (.gsa) THAT YtcgkfbjdlhapkaaProg.lean LOADS. Nothing in Lean hashes anything: it is a label: what it is worth is what the hold of that sum in a sandbox is worth. -/
noncomputable def Try.pinned : Pinned := { name := "ytcgkfbjdlhapkaa", sum := "a756da70cce19dd0a48ce763e30a2fe5c5b47e576eebb32f402904e48e09bd8f", checked := Try.checked }
namespace Rows
def none {H : Type} : Left H := { results := [], args := [] }

/-- 'laws.FnExactKeysOf': WHATEVER THE INPUT: true; the input reads as it did. -/
def fnExactKeysOfSpec : ChangeSpec := { name := "fnExactKeysOf", fn := fun _ => fun
  | [d1, d2] => { results := [.lit (.bool true)], args := [d1, d2] }
  | _ => none }
def fnExactKeysOfRow : OpenClaim := { program := "ytcgkfbjdlhapkaa", sum := "a756da70cce19dd0a48ce763e30a2fe5c5b47e576eebb32f402904e48e09bd8f", func := "loop.example/g01988/laws.FnExactKeysOf", spec := "fnExactKeysOf", unfollowed := true, recurses := true, apart := false }
def FnExactKeysOfSaid : Prop := fnExactKeysOfRow.holds Try.pinned (OpenSpec.ofChange fnExactKeysOfSpec)

/-- ITS FALSE NEIGHBOUR: 'it returns false'. Refute it at one input. -/
def fnExactKeysOfWrong : ChangeSpec := { name := "fnExactKeysOf", fn := fun _ => fun
  | [d1, d2] => { results := [.lit (.bool false)], args := [d1, d2] }
  | _ => none }
def FnExactKeysOfWrongFalsely : Prop := fnExactKeysOfRow.holds Try.pinned (OpenSpec.ofChange fnExactKeysOfWrong)

/-- 'laws.FnExactPrimeColumns': WHATEVER THE INPUT: true; the input reads as it did. -/
def fnExactPrimeColumnsSpec : ChangeSpec := { name := "fnExactPrimeColumns", fn := fun _ => fun
  | [d1, d2] => { results := [.lit (.bool true)], args := [d1, d2] }
  | _ => none }
def fnExactPrimeColumnsRow : OpenClaim := { program := "ytcgkfbjdlhapkaa", sum := "a756da70cce19dd0a48ce763e30a2fe5c5b47e576eebb32f402904e48e09bd8f", func := "loop.example/g01988/laws.FnExactPrimeColumns", spec := "fnExactPrimeColumns", unfollowed := true, recurses := true, apart := false }
def FnExactPrimeColumnsSaid : Prop := fnExactPrimeColumnsRow.holds Try.pinned (OpenSpec.ofChange fnExactPrimeColumnsSpec)

/-- ITS FALSE NEIGHBOUR: 'it returns false'. Refute it at one input. -/
def fnExactPrimeColumnsWrong : ChangeSpec := { name := "fnExactPrimeColumns", fn := fun _ => fun
  | [d1, d2] => { results := [.lit (.bool false)], args := [d1, d2] }
  | _ => none }
def FnExactPrimeColumnsWrongFalsely : Prop := fnExactPrimeColumnsRow.holds Try.pinned (OpenSpec.ofChange fnExactPrimeColumnsWrong)

/-- 'laws.FnExactDepsOfAgreeSets': WHATEVER THE INPUT: true; the input reads as it did. -/
def fnExactDepsOfAgreeSetsSpec : ChangeSpec := { name := "fnExactDepsOfAgreeSets", fn := fun _ => fun
  | [d1, d2] => { results := [.lit (.bool true)], args := [d1, d2] }
  | _ => none }
def fnExactDepsOfAgreeSetsRow : OpenClaim := { program := "ytcgkfbjdlhapkaa", sum := "a756da70cce19dd0a48ce763e30a2fe5c5b47e576eebb32f402904e48e09bd8f", func := "loop.example/g01988/laws.FnExactDepsOfAgreeSets", spec := "fnExactDepsOfAgreeSets", unfollowed := true, recurses := true, apart := false }
def FnExactDepsOfAgreeSetsSaid : Prop := fnExactDepsOfAgreeSetsRow.holds Try.pinned (OpenSpec.ofChange fnExactDepsOfAgreeSetsSpec)

/-- ITS FALSE NEIGHBOUR: 'it returns false'. Refute it at one input. -/
def fnExactDepsOfAgreeSetsWrong : ChangeSpec := { name := "fnExactDepsOfAgreeSets", fn := fun _ => fun
  | [d1, d2] => { results := [.lit (.bool false)], args := [d1, d2] }
  | _ => none }
def FnExactDepsOfAgreeSetsWrongFalsely : Prop := fnExactDepsOfAgreeSetsRow.holds Try.pinned (OpenSpec.ofChange fnExactDepsOfAgreeSetsWrong)

/-- 'laws.FnExactIsBoyce': WHATEVER THE INPUT: true; the input reads as it did. -/
def fnExactIsBoyceSpec : ChangeSpec := { name := "fnExactIsBoyce", fn := fun _ => fun
  | [d1, d2, d3] => { results := [.lit (.bool true)], args := [d1, d2, d3] }
  | _ => none }
def fnExactIsBoyceRow : OpenClaim := { program := "ytcgkfbjdlhapkaa", sum := "a756da70cce19dd0a48ce763e30a2fe5c5b47e576eebb32f402904e48e09bd8f", func := "loop.example/g01988/laws.FnExactIsBoyce", spec := "fnExactIsBoyce", unfollowed := true, recurses := true, apart := false }
def FnExactIsBoyceSaid : Prop := fnExactIsBoyceRow.holds Try.pinned (OpenSpec.ofChange fnExactIsBoyceSpec)

/-- ITS FALSE NEIGHBOUR: 'it returns false'. Refute it at one input. -/
def fnExactIsBoyceWrong : ChangeSpec := { name := "fnExactIsBoyce", fn := fun _ => fun
  | [d1, d2, d3] => { results := [.lit (.bool false)], args := [d1, d2, d3] }
  | _ => none }
def FnExactIsBoyceWrongFalsely : Prop := fnExactIsBoyceRow.holds Try.pinned (OpenSpec.ofChange fnExactIsBoyceWrong)

/-- 'laws.FnExactIsThird': WHATEVER THE INPUT: true; the input reads as it did. -/
def fnExactIsThirdSpec : ChangeSpec := { name := "fnExactIsThird", fn := fun _ => fun
  | [d1, d2, d3] => { results := [.lit (.bool true)], args := [d1, d2, d3] }
  | _ => none }
def fnExactIsThirdRow : OpenClaim := { program := "ytcgkfbjdlhapkaa", sum := "a756da70cce19dd0a48ce763e30a2fe5c5b47e576eebb32f402904e48e09bd8f", func := "loop.example/g01988/laws.FnExactIsThird", spec := "fnExactIsThird", unfollowed := true, recurses := true, apart := false }
def FnExactIsThirdSaid : Prop := fnExactIsThirdRow.holds Try.pinned (OpenSpec.ofChange fnExactIsThirdSpec)

/-- ITS FALSE NEIGHBOUR: 'it returns false'. Refute it at one input. -/
def fnExactIsThirdWrong : ChangeSpec := { name := "fnExactIsThird", fn := fun _ => fun
  | [d1, d2, d3] => { results := [.lit (.bool false)], args := [d1, d2, d3] }
  | _ => none }
def FnExactIsThirdWrongFalsely : Prop := fnExactIsThirdRow.holds Try.pinned (OpenSpec.ofChange fnExactIsThirdWrong)

/-- 'laws.FnExactDecomposeBoyce': WHATEVER THE INPUT: true; the input reads as it did. -/
def fnExactDecomposeBoyceSpec : ChangeSpec := { name := "fnExactDecomposeBoyce", fn := fun _ => fun
  | [d1, d2] => { results := [.lit (.bool true)], args := [d1, d2] }
  | _ => none }
def fnExactDecomposeBoyceRow : OpenClaim := { program := "ytcgkfbjdlhapkaa", sum := "a756da70cce19dd0a48ce763e30a2fe5c5b47e576eebb32f402904e48e09bd8f", func := "loop.example/g01988/laws.FnExactDecomposeBoyce", spec := "fnExactDecomposeBoyce", unfollowed := true, recurses := true, apart := false }
def FnExactDecomposeBoyceSaid : Prop := fnExactDecomposeBoyceRow.holds Try.pinned (OpenSpec.ofChange fnExactDecomposeBoyceSpec)

/-- ITS FALSE NEIGHBOUR: 'it returns false'. Refute it at one input. -/
def fnExactDecomposeBoyceWrong : ChangeSpec := { name := "fnExactDecomposeBoyce", fn := fun _ => fun
  | [d1, d2] => { results := [.lit (.bool false)], args := [d1, d2] }
  | _ => none }
def FnExactDecomposeBoyceWrongFalsely : Prop := fnExactDecomposeBoyceRow.holds Try.pinned (OpenSpec.ofChange fnExactDecomposeBoyceWrong)

/-- 'laws.FnExactSynthesizeThird': WHATEVER THE INPUT: true; the input reads as it did. -/
def fnExactSynthesizeThirdSpec : ChangeSpec := { name := "fnExactSynthesizeThird", fn := fun _ => fun
  | [d1, d2] => { results := [.lit (.bool true)], args := [d1, d2] }
  | _ => none }
def fnExactSynthesizeThirdRow : OpenClaim := { program := "ytcgkfbjdlhapkaa", sum := "a756da70cce19dd0a48ce763e30a2fe5c5b47e576eebb32f402904e48e09bd8f", func := "loop.example/g01988/laws.FnExactSynthesizeThird", spec := "fnExactSynthesizeThird", unfollowed := true, recurses := true, apart := false }
def FnExactSynthesizeThirdSaid : Prop := fnExactSynthesizeThirdRow.holds Try.pinned (OpenSpec.ofChange fnExactSynthesizeThirdSpec)

/-- ITS FALSE NEIGHBOUR: 'it returns false'. Refute it at one input. -/
def fnExactSynthesizeThirdWrong : ChangeSpec := { name := "fnExactSynthesizeThird", fn := fun _ => fun
  | [d1, d2] => { results := [.lit (.bool false)], args := [d1, d2] }
  | _ => none }
def FnExactSynthesizeThirdWrongFalsely : Prop := fnExactSynthesizeThirdRow.holds Try.pinned (OpenSpec.ofChange fnExactSynthesizeThirdWrong)

/-- 'laws.FnExactIsPreserving': WHATEVER THE INPUT: true; the input reads as it did. -/
def fnExactIsPreservingSpec : ChangeSpec := { name := "fnExactIsPreserving", fn := fun _ => fun
  | [d1, d2, d3] => { results := [.lit (.bool true)], args := [d1, d2, d3] }
  | _ => none }
def fnExactIsPreservingRow : OpenClaim := { program := "ytcgkfbjdlhapkaa", sum := "a756da70cce19dd0a48ce763e30a2fe5c5b47e576eebb32f402904e48e09bd8f", func := "loop.example/g01988/laws.FnExactIsPreserving", spec := "fnExactIsPreserving", unfollowed := true, recurses := true, apart := false }
def FnExactIsPreservingSaid : Prop := fnExactIsPreservingRow.holds Try.pinned (OpenSpec.ofChange fnExactIsPreservingSpec)

/-- ITS FALSE NEIGHBOUR: 'it returns false'. Refute it at one input. -/
def fnExactIsPreservingWrong : ChangeSpec := { name := "fnExactIsPreserving", fn := fun _ => fun
  | [d1, d2, d3] => { results := [.lit (.bool false)], args := [d1, d2, d3] }
  | _ => none }
def FnExactIsPreservingWrongFalsely : Prop := fnExactIsPreservingRow.holds Try.pinned (OpenSpec.ofChange fnExactIsPreservingWrong)

/- THE SECOND FORM. 'bulk': how many values and letters a reading holds, each counted each time it is reached (what is shared counts as often as it is met; a slice's spare places count too). A statement '..UptoSaid' is the law's where the arguments, and the package variables that the reading takes, are together of bulk at most 1048576: NARROWER than '..Said'. Prove '..Said' where nothing that the law and all that it calls make is longer than what came in: it says more and counts as full. Else prove '..UptoSaid'. A law counts once. -/
mutual
def uptoBulk {H : Type} : DataW H → Nat
  | .lit (.string bytes) => bytes.length + 1
  | .lit _ => 1
  | .nil => 1
  | .ptr d => uptoBulk d + 1
  | .slice elems spare => uptoBulkAll elems + uptoBulkAll spare + 1
  | .agg parts => uptoBulkAll parts + 1
  | .iface _ d => uptoBulk d + 1
  | .map entries => uptoBulkEntries entries + 1
  | .held _ => 1
def uptoBulkAll {H : Type} : List (DataW H) → Nat
  | [] => 0
  | d :: r => uptoBulk d + uptoBulkAll r
def uptoBulkEntries {H : Type} : List (Lit × DataW H) → Nat
  | [] => 0
  | x :: r => uptoBulkEntry x + uptoBulkEntries r
def uptoBulkEntry {H : Type} : Lit × DataW H → Nat
  | (.string bytes, d) => bytes.length + uptoBulk d + 1
  | (_, d) => uptoBulk d + 1
 end
def uptoSmall : (H : Type) → List (DataW H) → Bool := fun _ ds => decide (uptoBulkAll ds ≤ 1048576)
def OpenSpec.upto (s : _root_.Go.ChangeSpec) : _root_.Go.OpenSpec := { _root_.Go.OpenSpec.ofChange s with cond := some uptoSmall }

/-- 'laws.FnExactKeysOf', WHERE WHAT IT READS IS OF BULK AT MOST 1048576: true; the input reads as it did. -/
def fnExactKeysOfUptoRow : OpenClaim := { program := "ytcgkfbjdlhapkaa", sum := "a756da70cce19dd0a48ce763e30a2fe5c5b47e576eebb32f402904e48e09bd8f", func := "loop.example/g01988/laws.FnExactKeysOf", spec := "fnExactKeysOf", unfollowed := true, recurses := true, apart := false, narrowed := true }
def FnExactKeysOfUptoSaid : Prop := fnExactKeysOfUptoRow.holds Try.pinned (OpenSpec.upto fnExactKeysOfSpec)

/-- 'laws.FnExactPrimeColumns', WHERE WHAT IT READS IS OF BULK AT MOST 1048576: true; the input reads as it did. -/
def fnExactPrimeColumnsUptoRow : OpenClaim := { program := "ytcgkfbjdlhapkaa", sum := "a756da70cce19dd0a48ce763e30a2fe5c5b47e576eebb32f402904e48e09bd8f", func := "loop.example/g01988/laws.FnExactPrimeColumns", spec := "fnExactPrimeColumns", unfollowed := true, recurses := true, apart := false, narrowed := true }
def FnExactPrimeColumnsUptoSaid : Prop := fnExactPrimeColumnsUptoRow.holds Try.pinned (OpenSpec.upto fnExactPrimeColumnsSpec)

/-- 'laws.FnExactDepsOfAgreeSets', WHERE WHAT IT READS IS OF BULK AT MOST 1048576: true; the input reads as it did. -/
def fnExactDepsOfAgreeSetsUptoRow : OpenClaim := { program := "ytcgkfbjdlhapkaa", sum := "a756da70cce19dd0a48ce763e30a2fe5c5b47e576eebb32f402904e48e09bd8f", func := "loop.example/g01988/laws.FnExactDepsOfAgreeSets", spec := "fnExactDepsOfAgreeSets", unfollowed := true, recurses := true, apart := false, narrowed := true }
def FnExactDepsOfAgreeSetsUptoSaid : Prop := fnExactDepsOfAgreeSetsUptoRow.holds Try.pinned (OpenSpec.upto fnExactDepsOfAgreeSetsSpec)

/-- 'laws.FnExactIsBoyce', WHERE WHAT IT READS IS OF BULK AT MOST 1048576: true; the input reads as it did. -/
def fnExactIsBoyceUptoRow : OpenClaim := { program := "ytcgkfbjdlhapkaa", sum := "a756da70cce19dd0a48ce763e30a2fe5c5b47e576eebb32f402904e48e09bd8f", func := "loop.example/g01988/laws.FnExactIsBoyce", spec := "fnExactIsBoyce", unfollowed := true, recurses := true, apart := false, narrowed := true }
def FnExactIsBoyceUptoSaid : Prop := fnExactIsBoyceUptoRow.holds Try.pinned (OpenSpec.upto fnExactIsBoyceSpec)

/-- 'laws.FnExactIsThird', WHERE WHAT IT READS IS OF BULK AT MOST 1048576: true; the input reads as it did. -/
def fnExactIsThirdUptoRow : OpenClaim := { program := "ytcgkfbjdlhapkaa", sum := "a756da70cce19dd0a48ce763e30a2fe5c5b47e576eebb32f402904e48e09bd8f", func := "loop.example/g01988/laws.FnExactIsThird", spec := "fnExactIsThird", unfollowed := true, recurses := true, apart := false, narrowed := true }
def FnExactIsThirdUptoSaid : Prop := fnExactIsThirdUptoRow.holds Try.pinned (OpenSpec.upto fnExactIsThirdSpec)

/-- 'laws.FnExactDecomposeBoyce', WHERE WHAT IT READS IS OF BULK AT MOST 1048576: true; the input reads as it did. -/
def fnExactDecomposeBoyceUptoRow : OpenClaim := { program := "ytcgkfbjdlhapkaa", sum := "a756da70cce19dd0a48ce763e30a2fe5c5b47e576eebb32f402904e48e09bd8f", func := "loop.example/g01988/laws.FnExactDecomposeBoyce", spec := "fnExactDecomposeBoyce", unfollowed := true, recurses := true, apart := false, narrowed := true }
def FnExactDecomposeBoyceUptoSaid : Prop := fnExactDecomposeBoyceUptoRow.holds Try.pinned (OpenSpec.upto fnExactDecomposeBoyceSpec)

/-- 'laws.FnExactSynthesizeThird', WHERE WHAT IT READS IS OF BULK AT MOST 1048576: true; the input reads as it did. -/
def fnExactSynthesizeThirdUptoRow : OpenClaim := { program := "ytcgkfbjdlhapkaa", sum := "a756da70cce19dd0a48ce763e30a2fe5c5b47e576eebb32f402904e48e09bd8f", func := "loop.example/g01988/laws.FnExactSynthesizeThird", spec := "fnExactSynthesizeThird", unfollowed := true, recurses := true, apart := false, narrowed := true }
def FnExactSynthesizeThirdUptoSaid : Prop := fnExactSynthesizeThirdUptoRow.holds Try.pinned (OpenSpec.upto fnExactSynthesizeThirdSpec)

/-- 'laws.FnExactIsPreserving', WHERE WHAT IT READS IS OF BULK AT MOST 1048576: true; the input reads as it did. -/
def fnExactIsPreservingUptoRow : OpenClaim := { program := "ytcgkfbjdlhapkaa", sum := "a756da70cce19dd0a48ce763e30a2fe5c5b47e576eebb32f402904e48e09bd8f", func := "loop.example/g01988/laws.FnExactIsPreserving", spec := "fnExactIsPreserving", unfollowed := true, recurses := true, apart := false, narrowed := true }
def FnExactIsPreservingUptoSaid : Prop := fnExactIsPreservingUptoRow.holds Try.pinned (OpenSpec.upto fnExactIsPreservingSpec)

end Rows
end Go.Proofs.Ytcgkfbjdlhapkaa
