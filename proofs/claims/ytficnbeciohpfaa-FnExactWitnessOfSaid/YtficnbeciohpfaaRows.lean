/-
  No cell of these rows narrows 'for every input' (looked for: loops, veiled, ifaces, maps, wideKeys, modest, calm, conditions, laid).
  DERIVED. THE GIVEN ROWS OF THIS SEAT. 7 by the template 'for every input the law returns true; each argument reads behind the call as it read before'; 0 by the template 'total and deterministic' (their statements: YtficnbeciohpfaaTotals.lean).
  GIVEN WITH THE SEED: the statements are not yours to turn. If you find one false, say at which input.
  Laid BY PROGRAM, IN A SANDBOX (cutbox-rows.mjs): the forced cells as the released guide's own fill.sh prints them over the translation e5c7afd9913a4b2e… (all of the seat's roots in one cut). By AI agents, Wed Nov 11 2026. No macro, syntax, notation, axiom, sorry.
-/
import Derived.Test.YtficnbeciohpfaaChecked
import GoSem.Claim
import GoSem.ClaimJoined
import GoSem.ClaimMapViews
import Derived.JoinedTies
import Derived.KernelRfl
namespace Go.Proofs.Ytficnbeciohpfaa
/- THE CELL 'sum', in the pinned program and in every row, IS THE sha256 OF THE DUMP (.gsa) THAT YtficnbeciohpfaaProg.lean LOADS. Nothing in Lean hashes anything: it is a label: what it is worth is what the hold of that sum in a sandbox is worth. -/
noncomputable def Try.pinned : Pinned := { name := "ytficnbeciohpfaa", sum := "e5c7afd9913a4b2e3039424c36148b81d496467001ff9abf6ee5534a4939be84", checked := Try.checked }
namespace Rows
def none {H : Type} : Left H := { results := [], args := [] }

/-- 'laws.FnExactIsDep': WHATEVER THE INPUT: true; the input reads as it did. -/
def fnExactIsDepSpec : ChangeSpec := { name := "fnExactIsDep", fn := fun _ => fun
  | [d1, d2] => { results := [.lit (.bool true)], args := [d1, d2] }
  | _ => none }
def fnExactIsDepRow : OpenClaim := { program := "ytficnbeciohpfaa", sum := "e5c7afd9913a4b2e3039424c36148b81d496467001ff9abf6ee5534a4939be84", func := "loop.example/g01988/laws.FnExactIsDep", spec := "fnExactIsDep", plainKeys := false, apart := false }
def FnExactIsDepSaid : Prop := fnExactIsDepRow.holds Try.pinned (OpenSpec.ofChange fnExactIsDepSpec)

/-- ITS FALSE NEIGHBOUR: 'it returns false'. Refute it at one input. -/
def fnExactIsDepWrong : ChangeSpec := { name := "fnExactIsDep", fn := fun _ => fun
  | [d1, d2] => { results := [.lit (.bool false)], args := [d1, d2] }
  | _ => none }
def FnExactIsDepWrongFalsely : Prop := fnExactIsDepRow.holds Try.pinned (OpenSpec.ofChange fnExactIsDepWrong)

/-- 'laws.FnExactHoldsDep': WHATEVER THE INPUT: true; the input reads as it did. -/
def fnExactHoldsDepSpec : ChangeSpec := { name := "fnExactHoldsDep", fn := fun _ => fun
  | [d1, d2, d3] => { results := [.lit (.bool true)], args := [d1, d2, d3] }
  | _ => none }
def fnExactHoldsDepRow : OpenClaim := { program := "ytficnbeciohpfaa", sum := "e5c7afd9913a4b2e3039424c36148b81d496467001ff9abf6ee5534a4939be84", func := "loop.example/g01988/laws.FnExactHoldsDep", spec := "fnExactHoldsDep", unfollowed := true, recurses := true, plainKeys := false, apart := false }
def FnExactHoldsDepSaid : Prop := fnExactHoldsDepRow.holds Try.pinned (OpenSpec.ofChange fnExactHoldsDepSpec)

/-- ITS FALSE NEIGHBOUR: 'it returns false'. Refute it at one input. -/
def fnExactHoldsDepWrong : ChangeSpec := { name := "fnExactHoldsDep", fn := fun _ => fun
  | [d1, d2, d3] => { results := [.lit (.bool false)], args := [d1, d2, d3] }
  | _ => none }
def FnExactHoldsDepWrongFalsely : Prop := fnExactHoldsDepRow.holds Try.pinned (OpenSpec.ofChange fnExactHoldsDepWrong)

/-- 'laws.FnExactWitnessOf': WHATEVER THE INPUT: true; the input reads as it did. -/
def fnExactWitnessOfSpec : ChangeSpec := { name := "fnExactWitnessOf", fn := fun _ => fun
  | [d1, d2, d3] => { results := [.lit (.bool true)], args := [d1, d2, d3] }
  | _ => none }
def fnExactWitnessOfRow : OpenClaim := { program := "ytficnbeciohpfaa", sum := "e5c7afd9913a4b2e3039424c36148b81d496467001ff9abf6ee5534a4939be84", func := "loop.example/g01988/laws.FnExactWitnessOf", spec := "fnExactWitnessOf", unfollowed := true, recurses := true, plainKeys := false, apart := false }
def FnExactWitnessOfSaid : Prop := fnExactWitnessOfRow.holds Try.pinned (OpenSpec.ofChange fnExactWitnessOfSpec)

/-- ITS FALSE NEIGHBOUR: 'it returns false'. Refute it at one input. -/
def fnExactWitnessOfWrong : ChangeSpec := { name := "fnExactWitnessOf", fn := fun _ => fun
  | [d1, d2, d3] => { results := [.lit (.bool false)], args := [d1, d2, d3] }
  | _ => none }
def FnExactWitnessOfWrongFalsely : Prop := fnExactWitnessOfRow.holds Try.pinned (OpenSpec.ofChange fnExactWitnessOfWrong)

/-- 'laws.FnExactRowsToRemove': WHATEVER THE INPUT: true; the input reads as it did. -/
def fnExactRowsToRemoveSpec : ChangeSpec := { name := "fnExactRowsToRemove", fn := fun _ => fun
  | [d1, d2, d3] => { results := [.lit (.bool true)], args := [d1, d2, d3] }
  | _ => none }
def fnExactRowsToRemoveRow : OpenClaim := { program := "ytficnbeciohpfaa", sum := "e5c7afd9913a4b2e3039424c36148b81d496467001ff9abf6ee5534a4939be84", func := "loop.example/g01988/laws.FnExactRowsToRemove", spec := "fnExactRowsToRemove", unfollowed := true, recurses := true, plainKeys := false, apart := false }
def FnExactRowsToRemoveSaid : Prop := fnExactRowsToRemoveRow.holds Try.pinned (OpenSpec.ofChange fnExactRowsToRemoveSpec)

/-- ITS FALSE NEIGHBOUR: 'it returns false'. Refute it at one input. -/
def fnExactRowsToRemoveWrong : ChangeSpec := { name := "fnExactRowsToRemove", fn := fun _ => fun
  | [d1, d2, d3] => { results := [.lit (.bool false)], args := [d1, d2, d3] }
  | _ => none }
def FnExactRowsToRemoveWrongFalsely : Prop := fnExactRowsToRemoveRow.holds Try.pinned (OpenSpec.ofChange fnExactRowsToRemoveWrong)

/-- 'laws.FnExactFormatDep': WHATEVER THE INPUT: true; the input reads as it did. -/
def fnExactFormatDepSpec : ChangeSpec := { name := "fnExactFormatDep", fn := fun _ => fun
  | [d] => { results := [.lit (.bool true)], args := [d] }
  | _ => none }
def fnExactFormatDepRow : OpenClaim := { program := "ytficnbeciohpfaa", sum := "e5c7afd9913a4b2e3039424c36148b81d496467001ff9abf6ee5534a4939be84", func := "loop.example/g01988/laws.FnExactFormatDep", spec := "fnExactFormatDep", plainKeys := false, apart := false }
def FnExactFormatDepSaid : Prop := fnExactFormatDepRow.holds Try.pinned (OpenSpec.ofChange fnExactFormatDepSpec)

/-- ITS FALSE NEIGHBOUR: 'it returns false'. Refute it at one input. -/
def fnExactFormatDepWrong : ChangeSpec := { name := "fnExactFormatDep", fn := fun _ => fun
  | [d] => { results := [.lit (.bool false)], args := [d] }
  | _ => none }
def FnExactFormatDepWrongFalsely : Prop := fnExactFormatDepRow.holds Try.pinned (OpenSpec.ofChange fnExactFormatDepWrong)

/-- 'laws.FnExactParseDep': WHATEVER THE INPUT: true; the input reads as it did. -/
def fnExactParseDepSpec : ChangeSpec := { name := "fnExactParseDep", fn := fun _ => fun
  | [d1, d2] => { results := [.lit (.bool true)], args := [d1, d2] }
  | _ => none }
def fnExactParseDepRow : OpenClaim := { program := "ytficnbeciohpfaa", sum := "e5c7afd9913a4b2e3039424c36148b81d496467001ff9abf6ee5534a4939be84", func := "loop.example/g01988/laws.FnExactParseDep", spec := "fnExactParseDep", inPlace := ["internal/bytealg.IndexByteString", "internal/bytealg.IndexString"], named := ["internal/bytealg.MaxLen"], plainKeys := false, apart := false }
def FnExactParseDepSaid : Prop := fnExactParseDepRow.holds Try.pinned (OpenSpec.ofChange fnExactParseDepSpec)

/-- ITS FALSE NEIGHBOUR: 'it returns false'. Refute it at one input. -/
def fnExactParseDepWrong : ChangeSpec := { name := "fnExactParseDep", fn := fun _ => fun
  | [d1, d2] => { results := [.lit (.bool false)], args := [d1, d2] }
  | _ => none }
def FnExactParseDepWrongFalsely : Prop := fnExactParseDepRow.holds Try.pinned (OpenSpec.ofChange fnExactParseDepWrong)

/-- 'laws.FnExactSameDeps': WHATEVER THE INPUT: true; the input reads as it did. -/
def fnExactSameDepsSpec : ChangeSpec := { name := "fnExactSameDeps", fn := fun _ => fun
  | [d1, d2] => { results := [.lit (.bool true)], args := [d1, d2] }
  | _ => none }
def fnExactSameDepsRow : OpenClaim := { program := "ytficnbeciohpfaa", sum := "e5c7afd9913a4b2e3039424c36148b81d496467001ff9abf6ee5534a4939be84", func := "loop.example/g01988/laws.FnExactSameDeps", spec := "fnExactSameDeps", plainKeys := false, apart := false }
def FnExactSameDepsSaid : Prop := fnExactSameDepsRow.holds Try.pinned (OpenSpec.ofChange fnExactSameDepsSpec)

/-- ITS FALSE NEIGHBOUR: 'it returns false'. Refute it at one input. -/
def fnExactSameDepsWrong : ChangeSpec := { name := "fnExactSameDeps", fn := fun _ => fun
  | [d1, d2] => { results := [.lit (.bool false)], args := [d1, d2] }
  | _ => none }
def FnExactSameDepsWrongFalsely : Prop := fnExactSameDepsRow.holds Try.pinned (OpenSpec.ofChange fnExactSameDepsWrong)

/- THE SECOND FORM. 'bulk': how many values and letters a reading holds, each counted each time it is reached (what is shared counts as often as it is met; a slice's spare places count too). A statement '..UptoSaid' is the law's where the arguments, and the package variables that the reading takes, are together of bulk at most 1048576: NARROWER than '..Said'. Prove '..Said' where nothing that the law and all that it calls make is longer than what came in: it says more and counts as full. Else prove '..UptoSaid'. A law counts once. -/
mutual
def uptoBulk {H : Type} : DataW H → Nat
  | .lit (.string bytes) => bytes.length + 1
  | .lit _ => 1
  | .nil => 1
  | .ptr d => uptoBulk d + 1
  | .slice elems spare => uptoBulkAll elems + uptoBulkAll spare + 1
  | .agg parts => uptoBulkAll parts + 1
  | .iface _ d => uptoBulk d + 1
  | .map entries => uptoBulkEntries entries + 1
  | .held _ => 1
def uptoBulkAll {H : Type} : List (DataW H) → Nat
  | [] => 0
  | d :: r => uptoBulk d + uptoBulkAll r
def uptoBulkEntries {H : Type} : List (Lit × DataW H) → Nat
  | [] => 0
  | x :: r => uptoBulkEntry x + uptoBulkEntries r
def uptoBulkEntry {H : Type} : Lit × DataW H → Nat
  | (.string bytes, d) => bytes.length + uptoBulk d + 1
  | (_, d) => uptoBulk d + 1
 end
def uptoSmall : (H : Type) → List (DataW H) → Bool := fun _ ds => decide (uptoBulkAll ds ≤ 1048576)
def OpenSpec.upto (s : _root_.Go.ChangeSpec) : _root_.Go.OpenSpec := { _root_.Go.OpenSpec.ofChange s with cond := some uptoSmall }

/-- 'laws.FnExactIsDep', WHERE WHAT IT READS IS OF BULK AT MOST 1048576: true; the input reads as it did. -/
def fnExactIsDepUptoRow : OpenClaim := { program := "ytficnbeciohpfaa", sum := "e5c7afd9913a4b2e3039424c36148b81d496467001ff9abf6ee5534a4939be84", func := "loop.example/g01988/laws.FnExactIsDep", spec := "fnExactIsDep", plainKeys := false, apart := false, narrowed := true }
def FnExactIsDepUptoSaid : Prop := fnExactIsDepUptoRow.holds Try.pinned (OpenSpec.upto fnExactIsDepSpec)

/-- 'laws.FnExactHoldsDep', WHERE WHAT IT READS IS OF BULK AT MOST 1048576: true; the input reads as it did. -/
def fnExactHoldsDepUptoRow : OpenClaim := { program := "ytficnbeciohpfaa", sum := "e5c7afd9913a4b2e3039424c36148b81d496467001ff9abf6ee5534a4939be84", func := "loop.example/g01988/laws.FnExactHoldsDep", spec := "fnExactHoldsDep", unfollowed := true, recurses := true, plainKeys := false, apart := false, narrowed := true }
def FnExactHoldsDepUptoSaid : Prop := fnExactHoldsDepUptoRow.holds Try.pinned (OpenSpec.upto fnExactHoldsDepSpec)

/-- 'laws.FnExactWitnessOf', WHERE WHAT IT READS IS OF BULK AT MOST 1048576: true; the input reads as it did. -/
def fnExactWitnessOfUptoRow : OpenClaim := { program := "ytficnbeciohpfaa", sum := "e5c7afd9913a4b2e3039424c36148b81d496467001ff9abf6ee5534a4939be84", func := "loop.example/g01988/laws.FnExactWitnessOf", spec := "fnExactWitnessOf", unfollowed := true, recurses := true, plainKeys := false, apart := false, narrowed := true }
def FnExactWitnessOfUptoSaid : Prop := fnExactWitnessOfUptoRow.holds Try.pinned (OpenSpec.upto fnExactWitnessOfSpec)

/-- 'laws.FnExactRowsToRemove', WHERE WHAT IT READS IS OF BULK AT MOST 1048576: true; the input reads as it did. -/
def fnExactRowsToRemoveUptoRow : OpenClaim := { program := "ytficnbeciohpfaa", sum := "e5c7afd9913a4b2e3039424c36148b81d496467001ff9abf6ee5534a4939be84", func := "loop.example/g01988/laws.FnExactRowsToRemove", spec := "fnExactRowsToRemove", unfollowed := true, recurses := true, plainKeys := false, apart := false, narrowed := true }
def FnExactRowsToRemoveUptoSaid : Prop := fnExactRowsToRemoveUptoRow.holds Try.pinned (OpenSpec.upto fnExactRowsToRemoveSpec)

/-- 'laws.FnExactFormatDep', WHERE WHAT IT READS IS OF BULK AT MOST 1048576: true; the input reads as it did. -/
def fnExactFormatDepUptoRow : OpenClaim := { program := "ytficnbeciohpfaa", sum := "e5c7afd9913a4b2e3039424c36148b81d496467001ff9abf6ee5534a4939be84", func := "loop.example/g01988/laws.FnExactFormatDep", spec := "fnExactFormatDep", plainKeys := false, apart := false, narrowed := true }
def FnExactFormatDepUptoSaid : Prop := fnExactFormatDepUptoRow.holds Try.pinned (OpenSpec.upto fnExactFormatDepSpec)

/-- 'laws.FnExactParseDep', WHERE WHAT IT READS IS OF BULK AT MOST 1048576: true; the input reads as it did. -/
def fnExactParseDepUptoRow : OpenClaim := { program := "ytficnbeciohpfaa", sum := "e5c7afd9913a4b2e3039424c36148b81d496467001ff9abf6ee5534a4939be84", func := "loop.example/g01988/laws.FnExactParseDep", spec := "fnExactParseDep", inPlace := ["internal/bytealg.IndexByteString", "internal/bytealg.IndexString"], named := ["internal/bytealg.MaxLen"], plainKeys := false, apart := false, narrowed := true }
def FnExactParseDepUptoSaid : Prop := fnExactParseDepUptoRow.holds Try.pinned (OpenSpec.upto fnExactParseDepSpec)

/-- 'laws.FnExactSameDeps', WHERE WHAT IT READS IS OF BULK AT MOST 1048576: true; the input reads as it did. -/
def fnExactSameDepsUptoRow : OpenClaim := { program := "ytficnbeciohpfaa", sum := "e5c7afd9913a4b2e3039424c36148b81d496467001ff9abf6ee5534a4939be84", func := "loop.example/g01988/laws.FnExactSameDeps", spec := "fnExactSameDeps", plainKeys := false, apart := false, narrowed := true }
def FnExactSameDepsUptoSaid : Prop := fnExactSameDepsUptoRow.holds Try.pinned (OpenSpec.upto fnExactSameDepsSpec)

end Rows
end Go.Proofs.Ytficnbeciohpfaa
