/-
  No cell of these rows narrows 'for every input' (looked for: loops, veiled, ifaces, maps, wideKeys, modest, calm, conditions, laid).
  DERIVED. THE GIVEN ROWS OF THIS SEAT. 6 by the template 'for every input the law returns true; each argument reads behind the call as it read before'; 0 by the template 'total and deterministic' (their statements: YticiiloigciceaaTotals.lean).
  GIVEN WITH THE SEED: the statements are not yours to turn. If you find one false, say at which input.
  Laid BY PROGRAM, IN A SANDBOX (cutbox-rows.mjs): the forced cells as the released guide's own fill.sh prints them over the translation 857da36d65f73aa5… (all of the seat's roots in one cut). By AI agents, Wed Nov 11 2026. No macro, syntax, notation, axiom, sorry.
-/
import Derived.Test.YticiiloigciceaaChecked
import GoSem.Claim
import GoSem.ClaimJoined
import GoSem.ClaimMapViews
import Derived.JoinedTies
import Derived.KernelRfl
namespace Go.Proofs.Yticiiloigciceaa
/- THE CELL 'sum', in the pinned program and in every row, IS THE sha256 OF THE DUMP (.gsa) THAT YticiiloigciceaaProg.lean LOADS. Nothing in Lean hashes anything: it is a label: what it is worth is what the hold of that sum in a sandbox is worth. -/
noncomputable def Try.pinned : Pinned := { name := "yticiiloigciceaa", sum := "857da36d65f73aa5cb4fb87c328f2cd5b69bcc63fed22dd946d2df13d30f4f05", checked := Try.checked }
namespace Rows
def none {H : Type} : Left H := { results := [], args := [] }

/-- 'laws.FnExactCoverOf': WHATEVER THE INPUT: true; the input reads as it did. -/
def fnExactCoverOfSpec : ChangeSpec := { name := "fnExactCoverOf", fn := fun _ => fun
  | [d1, d2] => { results := [.lit (.bool true)], args := [d1, d2] }
  | _ => none }
def fnExactCoverOfRow : OpenClaim := { program := "yticiiloigciceaa", sum := "857da36d65f73aa5cb4fb87c328f2cd5b69bcc63fed22dd946d2df13d30f4f05", func := "loop.example/g01988/laws.FnExactCoverOf", spec := "fnExactCoverOf", unfollowed := true, recurses := true, apart := false }
def FnExactCoverOfSaid : Prop := fnExactCoverOfRow.holds Try.pinned (OpenSpec.ofChange fnExactCoverOfSpec)

/-- ITS FALSE NEIGHBOUR: 'it returns false'. Refute it at one input. -/
def fnExactCoverOfWrong : ChangeSpec := { name := "fnExactCoverOf", fn := fun _ => fun
  | [d1, d2] => { results := [.lit (.bool false)], args := [d1, d2] }
  | _ => none }
def FnExactCoverOfWrongFalsely : Prop := fnExactCoverOfRow.holds Try.pinned (OpenSpec.ofChange fnExactCoverOfWrong)

/-- 'laws.FnExactIsCover': WHATEVER THE INPUT: true; the input reads as it did. -/
def fnExactIsCoverSpec : ChangeSpec := { name := "fnExactIsCover", fn := fun _ => fun
  | [d1, d2] => { results := [.lit (.bool true)], args := [d1, d2] }
  | _ => none }
def fnExactIsCoverRow : OpenClaim := { program := "yticiiloigciceaa", sum := "857da36d65f73aa5cb4fb87c328f2cd5b69bcc63fed22dd946d2df13d30f4f05", func := "loop.example/g01988/laws.FnExactIsCover", spec := "fnExactIsCover", unfollowed := true, recurses := true, apart := false }
def FnExactIsCoverSaid : Prop := fnExactIsCoverRow.holds Try.pinned (OpenSpec.ofChange fnExactIsCoverSpec)

/-- ITS FALSE NEIGHBOUR: 'it returns false'. Refute it at one input. -/
def fnExactIsCoverWrong : ChangeSpec := { name := "fnExactIsCover", fn := fun _ => fun
  | [d1, d2] => { results := [.lit (.bool false)], args := [d1, d2] }
  | _ => none }
def FnExactIsCoverWrongFalsely : Prop := fnExactIsCoverRow.holds Try.pinned (OpenSpec.ofChange fnExactIsCoverWrong)

/-- 'laws.FnExactReduceLeft': WHATEVER THE INPUT: true; the input reads as it did. -/
def fnExactReduceLeftSpec : ChangeSpec := { name := "fnExactReduceLeft", fn := fun _ => fun
  | [d1, d2, d3] => { results := [.lit (.bool true)], args := [d1, d2, d3] }
  | _ => none }
def fnExactReduceLeftRow : OpenClaim := { program := "yticiiloigciceaa", sum := "857da36d65f73aa5cb4fb87c328f2cd5b69bcc63fed22dd946d2df13d30f4f05", func := "loop.example/g01988/laws.FnExactReduceLeft", spec := "fnExactReduceLeft", unfollowed := true, recurses := true, apart := false }
def FnExactReduceLeftSaid : Prop := fnExactReduceLeftRow.holds Try.pinned (OpenSpec.ofChange fnExactReduceLeftSpec)

/-- ITS FALSE NEIGHBOUR: 'it returns false'. Refute it at one input. -/
def fnExactReduceLeftWrong : ChangeSpec := { name := "fnExactReduceLeft", fn := fun _ => fun
  | [d1, d2, d3] => { results := [.lit (.bool false)], args := [d1, d2, d3] }
  | _ => none }
def FnExactReduceLeftWrongFalsely : Prop := fnExactReduceLeftRow.holds Try.pinned (OpenSpec.ofChange fnExactReduceLeftWrong)

/-- 'laws.FnExactKeysOf': WHATEVER THE INPUT: true; the input reads as it did. -/
def fnExactKeysOfSpec : ChangeSpec := { name := "fnExactKeysOf", fn := fun _ => fun
  | [d1, d2] => { results := [.lit (.bool true)], args := [d1, d2] }
  | _ => none }
def fnExactKeysOfRow : OpenClaim := { program := "yticiiloigciceaa", sum := "857da36d65f73aa5cb4fb87c328f2cd5b69bcc63fed22dd946d2df13d30f4f05", func := "loop.example/g01988/laws.FnExactKeysOf", spec := "fnExactKeysOf", unfollowed := true, recurses := true, apart := false }
def FnExactKeysOfSaid : Prop := fnExactKeysOfRow.holds Try.pinned (OpenSpec.ofChange fnExactKeysOfSpec)

/-- ITS FALSE NEIGHBOUR: 'it returns false'. Refute it at one input. -/
def fnExactKeysOfWrong : ChangeSpec := { name := "fnExactKeysOf", fn := fun _ => fun
  | [d1, d2] => { results := [.lit (.bool false)], args := [d1, d2] }
  | _ => none }
def FnExactKeysOfWrongFalsely : Prop := fnExactKeysOfRow.holds Try.pinned (OpenSpec.ofChange fnExactKeysOfWrong)

/-- 'laws.FnExactPrimeColumns': WHATEVER THE INPUT: true; the input reads as it did. -/
def fnExactPrimeColumnsSpec : ChangeSpec := { name := "fnExactPrimeColumns", fn := fun _ => fun
  | [d1, d2] => { results := [.lit (.bool true)], args := [d1, d2] }
  | _ => none }
def fnExactPrimeColumnsRow : OpenClaim := { program := "yticiiloigciceaa", sum := "857da36d65f73aa5cb4fb87c328f2cd5b69bcc63fed22dd946d2df13d30f4f05", func := "loop.example/g01988/laws.FnExactPrimeColumns", spec := "fnExactPrimeColumns", unfollowed := true, recurses := true, apart := false }
def FnExactPrimeColumnsSaid : Prop := fnExactPrimeColumnsRow.holds Try.pinned (OpenSpec.ofChange fnExactPrimeColumnsSpec)

/-- ITS FALSE NEIGHBOUR: 'it returns false'. Refute it at one input. -/
def fnExactPrimeColumnsWrong : ChangeSpec := { name := "fnExactPrimeColumns", fn := fun _ => fun
  | [d1, d2] => { results := [.lit (.bool false)], args := [d1, d2] }
  | _ => none }
def FnExactPrimeColumnsWrongFalsely : Prop := fnExactPrimeColumnsRow.holds Try.pinned (OpenSpec.ofChange fnExactPrimeColumnsWrong)

/-- 'laws.FnExactProjectDeps': WHATEVER THE INPUT: true; the input reads as it did. -/
def fnExactProjectDepsSpec : ChangeSpec := { name := "fnExactProjectDeps", fn := fun _ => fun
  | [d1, d2, d3] => { results := [.lit (.bool true)], args := [d1, d2, d3] }
  | _ => none }
def fnExactProjectDepsRow : OpenClaim := { program := "yticiiloigciceaa", sum := "857da36d65f73aa5cb4fb87c328f2cd5b69bcc63fed22dd946d2df13d30f4f05", func := "loop.example/g01988/laws.FnExactProjectDeps", spec := "fnExactProjectDeps", unfollowed := true, recurses := true, apart := false }
def FnExactProjectDepsSaid : Prop := fnExactProjectDepsRow.holds Try.pinned (OpenSpec.ofChange fnExactProjectDepsSpec)

/-- ITS FALSE NEIGHBOUR: 'it returns false'. Refute it at one input. -/
def fnExactProjectDepsWrong : ChangeSpec := { name := "fnExactProjectDeps", fn := fun _ => fun
  | [d1, d2, d3] => { results := [.lit (.bool false)], args := [d1, d2, d3] }
  | _ => none }
def FnExactProjectDepsWrongFalsely : Prop := fnExactProjectDepsRow.holds Try.pinned (OpenSpec.ofChange fnExactProjectDepsWrong)

/- THE SECOND FORM. 'bulk': how many values and letters a reading holds, each counted each time it is reached (what is shared counts as often as it is met; a slice's spare places count too). A statement '..UptoSaid' is the law's where the arguments, and the package variables that the reading takes, are together of bulk at most 1048576: NARROWER than '..Said'. Prove '..Said' where nothing that the law and all that it calls make is longer than what came in: it says more and counts as full. Else prove '..UptoSaid'. A law counts once. -/
mutual
def uptoBulk {H : Type} : DataW H → Nat
  | .lit (.string bytes) => bytes.length + 1
  | .lit _ => 1
  | .nil => 1
  | .ptr d => uptoBulk d + 1
  | .slice elems spare => uptoBulkAll elems + uptoBulkAll spare + 1
  | .agg parts => uptoBulkAll parts + 1
  | .iface _ d => uptoBulk d + 1
  | .map entries => uptoBulkEntries entries + 1
  | .held _ => 1
def uptoBulkAll {H : Type} : List (DataW H) → Nat
  | [] => 0
  | d :: r => uptoBulk d + uptoBulkAll r
def uptoBulkEntries {H : Type} : List (Lit × DataW H) → Nat
  | [] => 0
  | x :: r => uptoBulkEntry x + uptoBulkEntries r
def uptoBulkEntry {H : Type} : Lit × DataW H → Nat
  | (.string bytes, d) => bytes.length + uptoBulk d + 1
  | (_, d) => uptoBulk d + 1
 end
def uptoSmall : (H : Type) → List (DataW H) → Bool := fun _ ds => decide (uptoBulkAll ds ≤ 1048576)
def OpenSpec.upto (s : _root_.Go.ChangeSpec) : _root_.Go.OpenSpec := { _root_.Go.OpenSpec.ofChange s with cond := some uptoSmall }

/-- 'laws.FnExactCoverOf', WHERE WHAT IT READS IS OF BULK AT MOST 1048576: true; the input reads as it did. -/
def fnExactCoverOfUptoRow : OpenClaim := { program := "yticiiloigciceaa", sum := "857da36d65f73aa5cb4fb87c328f2cd5b69bcc63fed22dd946d2df13d30f4f05", func := "loop.example/g01988/laws.FnExactCoverOf", spec := "fnExactCoverOf", unfollowed := true, recurses := true, apart := false, narrowed := true }
def FnExactCoverOfUptoSaid : Prop := fnExactCoverOfUptoRow.holds Try.pinned (OpenSpec.upto fnExactCoverOfSpec)

/-- 'laws.FnExactIsCover', WHERE WHAT IT READS IS OF BULK AT MOST 1048576: true; the input reads as it did. -/
def fnExactIsCoverUptoRow : OpenClaim := { program := "yticiiloigciceaa", sum := "857da36d65f73aa5cb4fb87c328f2cd5b69bcc63fed22dd946d2df13d30f4f05", func := "loop.example/g01988/laws.FnExactIsCover", spec := "fnExactIsCover", unfollowed := true, recurses := true, apart := false, narrowed := true }
def FnExactIsCoverUptoSaid : Prop := fnExactIsCoverUptoRow.holds Try.pinned (OpenSpec.upto fnExactIsCoverSpec)

/-- 'laws.FnExactReduceLeft', WHERE WHAT IT READS IS OF BULK AT MOST 1048576: true; the input reads as it did. -/
def fnExactReduceLeftUptoRow : OpenClaim := { program := "yticiiloigciceaa", sum := "857da36d65f73aa5cb4fb87c328f2cd5b69bcc63fed22dd946d2df13d30f4f05", func := "loop.example/g01988/laws.FnExactReduceLeft", spec := "fnExactReduceLeft", unfollowed := true, recurses := true, apart := false, narrowed := true }
def FnExactReduceLeftUptoSaid : Prop := fnExactReduceLeftUptoRow.holds Try.pinned (OpenSpec.upto fnExactReduceLeftSpec)

/-- 'laws.FnExactKeysOf', WHERE WHAT IT READS IS OF BULK AT MOST 1048576: true; the input reads as it did. -/
def fnExactKeysOfUptoRow : OpenClaim := { program := "yticiiloigciceaa", sum := "857da36d65f73aa5cb4fb87c328f2cd5b69bcc63fed22dd946d2df13d30f4f05", func := "loop.example/g01988/laws.FnExactKeysOf", spec := "fnExactKeysOf", unfollowed := true, recurses := true, apart := false, narrowed := true }
def FnExactKeysOfUptoSaid : Prop := fnExactKeysOfUptoRow.holds Try.pinned (OpenSpec.upto fnExactKeysOfSpec)

/-- 'laws.FnExactPrimeColumns', WHERE WHAT IT READS IS OF BULK AT MOST 1048576: true; the input reads as it did. -/
def fnExactPrimeColumnsUptoRow : OpenClaim := { program := "yticiiloigciceaa", sum := "857da36d65f73aa5cb4fb87c328f2cd5b69bcc63fed22dd946d2df13d30f4f05", func := "loop.example/g01988/laws.FnExactPrimeColumns", spec := "fnExactPrimeColumns", unfollowed := true, recurses := true, apart := false, narrowed := true }
def FnExactPrimeColumnsUptoSaid : Prop := fnExactPrimeColumnsUptoRow.holds Try.pinned (OpenSpec.upto fnExactPrimeColumnsSpec)

/-- 'laws.FnExactProjectDeps', WHERE WHAT IT READS IS OF BULK AT MOST 1048576: true; the input reads as it did. -/
def fnExactProjectDepsUptoRow : OpenClaim := { program := "yticiiloigciceaa", sum := "857da36d65f73aa5cb4fb87c328f2cd5b69bcc63fed22dd946d2df13d30f4f05", func := "loop.example/g01988/laws.FnExactProjectDeps", spec := "fnExactProjectDeps", unfollowed := true, recurses := true, apart := false, narrowed := true }
def FnExactProjectDepsUptoSaid : Prop := fnExactProjectDepsUptoRow.holds Try.pinned (OpenSpec.upto fnExactProjectDepsSpec)

end Rows
end Go.Proofs.Yticiiloigciceaa
