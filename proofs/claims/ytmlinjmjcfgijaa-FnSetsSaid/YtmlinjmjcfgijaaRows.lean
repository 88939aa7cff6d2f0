/-
  No cell of these rows narrows 'for every input' (looked for: loops, veiled, ifaces, maps, wideKeys, modest, calm, conditions, laid).
  DERIVED. THE GIVEN ROWS OF THIS SEAT. 8 by the template 'for every input the law returns true; each argument reads behind the call as it read before'; 0 by the template 'total and deterministic' (their statements: YtmlinjmjcfgijaaTotals.lean).
  GIVEN WITH THE SEED: the statements are not yours to turn. If you find one false, say at which input.
  Laid BY PROGRAM, IN A SANDBOX (cutbox-rows.mjs): the forced cells as the released guide's own fill.sh prints them over the translation 04813c53e76982dc… (all of the seat's roots in one cut). By AI agents, Wed Nov 11 2026. No macro, syntax, notation, axiom, sorry.
-/
import Derived.Test.YtmlinjmjcfgijaaChecked
import GoSem.Claim
import GoSem.ClaimJoined
import GoSem.ClaimMapViews
import Derived.JoinedTies
import Derived.KernelRfl
namespace Go.Proofs.Ytmlinjmjcfgijaa
/- THE CELL 'sum', in the pinned program and in every row, IS THE sha256 OF THE DUMP (.gsa) THAT YtmlinjmjcfgijaaProg.lean LOADS. Nothing in Lean hashes anything: it is a label: what it is worth is what the hold of that sum in a sandbox is worth. -/
noncomputable def Try.pinned : Pinned := { name := "ytmlinjmjcfgijaa", sum := "04813c53e76982dca9d637b0b3cfab6d90752237800639bb7a302836754c45be", checked := Try.checked }
namespace Rows
def none {H : Type} : Left H := { results := [], args := [] }

/-- 'laws.FnSets': WHATEVER THE INPUT: true; the input reads as it did. -/
def fnSetsSpec : ChangeSpec := { name := "fnSets", fn := fun _ => fun
  | [d] => { results := [.lit (.bool true)], args := [d] }
  | _ => none }
def fnSetsRow : OpenClaim := { program := "ytmlinjmjcfgijaa", sum := "04813c53e76982dca9d637b0b3cfab6d90752237800639bb7a302836754c45be", func := "loop.example/g01988/laws.FnSets", spec := "fnSets", apart := false }
def FnSetsSaid : Prop := fnSetsRow.holds Try.pinned (OpenSpec.ofChange fnSetsSpec)

/-- ITS FALSE NEIGHBOUR: 'it returns false'. Refute it at one input. -/
def fnSetsWrong : ChangeSpec := { name := "fnSets", fn := fun _ => fun
  | [d] => { results := [.lit (.bool false)], args := [d] }
  | _ => none }
def FnSetsWrongFalsely : Prop := fnSetsRow.holds Try.pinned (OpenSpec.ofChange fnSetsWrong)

/-- 'laws.FnExactIsAttributes': WHATEVER THE INPUT: true; the input reads as it did. -/
def fnExactIsAttributesSpec : ChangeSpec := { name := "fnExactIsAttributes", fn := fun _ => fun
  | [d1, d2] => { results := [.lit (.bool true)], args := [d1, d2] }
  | _ => none }
def fnExactIsAttributesRow : OpenClaim := { program := "ytmlinjmjcfgijaa", sum := "04813c53e76982dca9d637b0b3cfab6d90752237800639bb7a302836754c45be", func := "loop.example/g01988/laws.FnExactIsAttributes", spec := "fnExactIsAttributes", apart := false }
def FnExactIsAttributesSaid : Prop := fnExactIsAttributesRow.holds Try.pinned (OpenSpec.ofChange fnExactIsAttributesSpec)

/-- ITS FALSE NEIGHBOUR: 'it returns false'. Refute it at one input. -/
def fnExactIsAttributesWrong : ChangeSpec := { name := "fnExactIsAttributes", fn := fun _ => fun
  | [d1, d2] => { results := [.lit (.bool false)], args := [d1, d2] }
  | _ => none }
def FnExactIsAttributesWrongFalsely : Prop := fnExactIsAttributesRow.holds Try.pinned (OpenSpec.ofChange fnExactIsAttributesWrong)

/-- 'laws.FnExactMembers': WHATEVER THE INPUT: true; the input reads as it did. -/
def fnExactMembersSpec : ChangeSpec := { name := "fnExactMembers", fn := fun _ => fun
  | [d] => { results := [.lit (.bool true)], args := [d] }
  | _ => none }
def fnExactMembersRow : OpenClaim := { program := "ytmlinjmjcfgijaa", sum := "04813c53e76982dca9d637b0b3cfab6d90752237800639bb7a302836754c45be", func := "loop.example/g01988/laws.FnExactMembers", spec := "fnExactMembers", apart := false }
def FnExactMembersSaid : Prop := fnExactMembersRow.holds Try.pinned (OpenSpec.ofChange fnExactMembersSpec)

/-- ITS FALSE NEIGHBOUR: 'it returns false'. Refute it at one input. -/
def fnExactMembersWrong : ChangeSpec := { name := "fnExactMembers", fn := fun _ => fun
  | [d] => { results := [.lit (.bool false)], args := [d] }
  | _ => none }
def FnExactMembersWrongFalsely : Prop := fnExactMembersRow.holds Try.pinned (OpenSpec.ofChange fnExactMembersWrong)

/-- 'laws.FnExactCountMembers': WHATEVER THE INPUT: true; the input reads as it did. -/
def fnExactCountMembersSpec : ChangeSpec := { name := "fnExactCountMembers", fn := fun _ => fun
  | [d] => { results := [.lit (.bool true)], args := [d] }
  | _ => none }
def fnExactCountMembersRow : OpenClaim := { program := "ytmlinjmjcfgijaa", sum := "04813c53e76982dca9d637b0b3cfab6d90752237800639bb7a302836754c45be", func := "loop.example/g01988/laws.FnExactCountMembers", spec := "fnExactCountMembers", apart := false }
def FnExactCountMembersSaid : Prop := fnExactCountMembersRow.holds Try.pinned (OpenSpec.ofChange fnExactCountMembersSpec)

/-- ITS FALSE NEIGHBOUR: 'it returns false'. Refute it at one input. -/
def fnExactCountMembersWrong : ChangeSpec := { name := "fnExactCountMembers", fn := fun _ => fun
  | [d] => { results := [.lit (.bool false)], args := [d] }
  | _ => none }
def FnExactCountMembersWrongFalsely : Prop := fnExactCountMembersRow.holds Try.pinned (OpenSpec.ofChange fnExactCountMembersWrong)

/-- 'laws.FnExactIsPart': WHATEVER THE INPUT: true; the input reads as it did. -/
def fnExactIsPartSpec : ChangeSpec := { name := "fnExactIsPart", fn := fun _ => fun
  | [d1, d2] => { results := [.lit (.bool true)], args := [d1, d2] }
  | _ => none }
def fnExactIsPartRow : OpenClaim := { program := "ytmlinjmjcfgijaa", sum := "04813c53e76982dca9d637b0b3cfab6d90752237800639bb7a302836754c45be", func := "loop.example/g01988/laws.FnExactIsPart", spec := "fnExactIsPart", apart := false }
def FnExactIsPartSaid : Prop := fnExactIsPartRow.holds Try.pinned (OpenSpec.ofChange fnExactIsPartSpec)

/-- ITS FALSE NEIGHBOUR: 'it returns false'. Refute it at one input. -/
def fnExactIsPartWrong : ChangeSpec := { name := "fnExactIsPart", fn := fun _ => fun
  | [d1, d2] => { results := [.lit (.bool false)], args := [d1, d2] }
  | _ => none }
def FnExactIsPartWrongFalsely : Prop := fnExactIsPartRow.holds Try.pinned (OpenSpec.ofChange fnExactIsPartWrong)

/-- 'laws.FnExactPartsBySize': WHATEVER THE INPUT: true; the input reads as it did. -/
def fnExactPartsBySizeSpec : ChangeSpec := { name := "fnExactPartsBySize", fn := fun _ => fun
  | [d] => { results := [.lit (.bool true)], args := [d] }
  | _ => none }
def fnExactPartsBySizeRow : OpenClaim := { program := "ytmlinjmjcfgijaa", sum := "04813c53e76982dca9d637b0b3cfab6d90752237800639bb7a302836754c45be", func := "loop.example/g01988/laws.FnExactPartsBySize", spec := "fnExactPartsBySize", apart := false }
def FnExactPartsBySizeSaid : Prop := fnExactPartsBySizeRow.holds Try.pinned (OpenSpec.ofChange fnExactPartsBySizeSpec)

/-- ITS FALSE NEIGHBOUR: 'it returns false'. Refute it at one input. -/
def fnExactPartsBySizeWrong : ChangeSpec := { name := "fnExactPartsBySize", fn := fun _ => fun
  | [d] => { results := [.lit (.bool false)], args := [d] }
  | _ => none }
def FnExactPartsBySizeWrongFalsely : Prop := fnExactPartsBySizeRow.holds Try.pinned (OpenSpec.ofChange fnExactPartsBySizeWrong)

/-- 'laws.FnExactFormatAttributes': WHATEVER THE INPUT: true; the input reads as it did. -/
def fnExactFormatAttributesSpec : ChangeSpec := { name := "fnExactFormatAttributes", fn := fun _ => fun
  | [d] => { results := [.lit (.bool true)], args := [d] }
  | _ => none }
def fnExactFormatAttributesRow : OpenClaim := { program := "ytmlinjmjcfgijaa", sum := "04813c53e76982dca9d637b0b3cfab6d90752237800639bb7a302836754c45be", func := "loop.example/g01988/laws.FnExactFormatAttributes", spec := "fnExactFormatAttributes", apart := false }
def FnExactFormatAttributesSaid : Prop := fnExactFormatAttributesRow.holds Try.pinned (OpenSpec.ofChange fnExactFormatAttributesSpec)

/-- ITS FALSE NEIGHBOUR: 'it returns false'. Refute it at one input. -/
def fnExactFormatAttributesWrong : ChangeSpec := { name := "fnExactFormatAttributes", fn := fun _ => fun
  | [d] => { results := [.lit (.bool false)], args := [d] }
  | _ => none }
def FnExactFormatAttributesWrongFalsely : Prop := fnExactFormatAttributesRow.holds Try.pinned (OpenSpec.ofChange fnExactFormatAttributesWrong)

/-- 'laws.FnExactParseAttributes': WHATEVER THE INPUT: true; the input reads as it did. -/
def fnExactParseAttributesSpec : ChangeSpec := { name := "fnExactParseAttributes", fn := fun _ => fun
  | [d] => { results := [.lit (.bool true)], args := [d] }
  | _ => none }
def fnExactParseAttributesRow : OpenClaim := { program := "ytmlinjmjcfgijaa", sum := "04813c53e76982dca9d637b0b3cfab6d90752237800639bb7a302836754c45be", func := "loop.example/g01988/laws.FnExactParseAttributes", spec := "fnExactParseAttributes", apart := false }
def FnExactParseAttributesSaid : Prop := fnExactParseAttributesRow.holds Try.pinned (OpenSpec.ofChange fnExactParseAttributesSpec)

/-- ITS FALSE NEIGHBOUR: 'it returns false'. Refute it at one input. -/
def fnExactParseAttributesWrong : ChangeSpec := { name := "fnExactParseAttributes", fn := fun _ => fun
  | [d] => { results := [.lit (.bool false)], args := [d] }
  | _ => none }
def FnExactParseAttributesWrongFalsely : Prop := fnExactParseAttributesRow.holds Try.pinned (OpenSpec.ofChange fnExactParseAttributesWrong)

/- THE SECOND FORM. 'bulk': how many values and letters a reading holds, each counted each time it is reached (what is shared counts as often as it is met; a slice's spare places count too). A statement '..UptoSaid' is the law's where the arguments, and the package variables that the reading takes, are together of bulk at most 1048576: NARROWER than '..Said'. Prove '..Said' where nothing that the law and all that it calls make is longer than what came in: it says more and counts as full. Else prove '..UptoSaid'. A law counts once. -/
mutual
def uptoBulk {H : Type} : DataW H → Nat
  | .lit (.string bytes) => bytes.length + 1
  | .lit _ => 1
  | .nil => 1
  | .ptr d => uptoBulk d + 1
  | .slice elems spare => uptoBulkAll elems + uptoBulkAll spare + 1
  | .agg parts => uptoBulkAll parts + 1
  | .iface _ d => uptoBulk d + 1
  | .map entries => uptoBulkEntries entries + 1
  | .held _ => 1
def uptoBulkAll {H : Type} : List (DataW H) → Nat
  | [] => 0
  | d :: r => uptoBulk d + uptoBulkAll r
def uptoBulkEntries {H : Type} : List (Lit × DataW H) → Nat
  | [] => 0
  | x :: r => uptoBulkEntry x + uptoBulkEntries r
def uptoBulkEntry {H : Type} : Lit × DataW H → Nat
  | (.string bytes, d) => bytes.length + uptoBulk d + 1
  | (_, d) => uptoBulk d + 1
 end
def uptoSmall : (H : Type) → List (DataW H) → Bool := fun _ ds => decide (uptoBulkAll ds ≤ 1048576)
def OpenSpec.upto (s : _root_.Go.ChangeSpec) : _root_.Go.OpenSpec := { _root_.Go.OpenSpec.ofChange s with cond := some uptoSmall }

/-- 'laws.FnSets', WHERE WHAT IT READS IS OF BULK AT MOST 1048576: true; the input reads as it did. -/
def fnSetsUptoRow : OpenClaim := { program := "ytmlinjmjcfgijaa", sum := "04813c53e76982dca9d637b0b3cfab6d90752237800639bb7a302836754c45be", func := "loop.example/g01988/laws.FnSets", spec := "fnSets", apart := false, narrowed := true }
def FnSetsUptoSaid : Prop := fnSetsUptoRow.holds Try.pinned (OpenSpec.upto fnSetsSpec)

/-- 'laws.FnExactIsAttributes', WHERE WHAT IT READS IS OF BULK AT MOST 1048576: true; the input reads as it did. -/
def fnExactIsAttributesUptoRow : OpenClaim := { program := "ytmlinjmjcfgijaa", sum := "04813c53e76982dca9d637b0b3cfab6d90752237800639bb7a302836754c45be", func := "loop.example/g01988/laws.FnExactIsAttributes", spec := "fnExactIsAttributes", apart := false, narrowed := true }
def FnExactIsAttributesUptoSaid : Prop := fnExactIsAttributesUptoRow.holds Try.pinned (OpenSpec.upto fnExactIsAttributesSpec)

/-- 'laws.FnExactMembers', WHERE WHAT IT READS IS OF BULK AT MOST 1048576: true; the input reads as it did. -/
def fnExactMembersUptoRow : OpenClaim := { program := "ytmlinjmjcfgijaa", sum := "04813c53e76982dca9d637b0b3cfab6d90752237800639bb7a302836754c45be", func := "loop.example/g01988/laws.FnExactMembers", spec := "fnExactMembers", apart := false, narrowed := true }
def FnExactMembersUptoSaid : Prop := fnExactMembersUptoRow.holds Try.pinned (OpenSpec.upto fnExactMembersSpec)

/-- 'laws.FnExactCountMembers', WHERE WHAT IT READS IS OF BULK AT MOST 1048576: true; the input reads as it did. -/
def fnExactCountMembersUptoRow : OpenClaim := { program := "ytmlinjmjcfgijaa", sum := "04813c53e76982dca9d637b0b3cfab6d90752237800639bb7a302836754c45be", func := "loop.example/g01988/laws.FnExactCountMembers", spec := "fnExactCountMembers", apart := false, narrowed := true }
def FnExactCountMembersUptoSaid : Prop := fnExactCountMembersUptoRow.holds Try.pinned (OpenSpec.upto fnExactCountMembersSpec)

/-- 'laws.FnExactIsPart', WHERE WHAT IT READS IS OF BULK AT MOST 1048576: true; the input reads as it did. -/
def fnExactIsPartUptoRow : OpenClaim := { program := "ytmlinjmjcfgijaa", sum := "04813c53e76982dca9d637b0b3cfab6d90752237800639bb7a302836754c45be", func := "loop.example/g01988/laws.FnExactIsPart", spec := "fnExactIsPart", apart := false, narrowed := true }
def FnExactIsPartUptoSaid : Prop := fnExactIsPartUptoRow.holds Try.pinned (OpenSpec.upto fnExactIsPartSpec)

/-- 'laws.FnExactPartsBySize', WHERE WHAT IT READS IS OF BULK AT MOST 1048576: true; the input reads as it did. -/
def fnExactPartsBySizeUptoRow : OpenClaim := { program := "ytmlinjmjcfgijaa", sum := "04813c53e76982dca9d637b0b3cfab6d90752237800639bb7a302836754c45be", func := "loop.example/g01988/laws.FnExactPartsBySize", spec := "fnExactPartsBySize", apart := false, narrowed := true }
def FnExactPartsBySizeUptoSaid : Prop := fnExactPartsBySizeUptoRow.holds Try.pinned (OpenSpec.upto fnExactPartsBySizeSpec)

/-- 'laws.FnExactFormatAttributes', WHERE WHAT IT READS IS OF BULK AT MOST 1048576: true; the input reads as it did. -/
def fnExactFormatAttributesUptoRow : OpenClaim := { program := "ytmlinjmjcfgijaa", sum := "04813c53e76982dca9d637b0b3cfab6d90752237800639bb7a302836754c45be", func := "loop.example/g01988/laws.FnExactFormatAttributes", spec := "fnExactFormatAttributes", apart := false, narrowed := true }
def FnExactFormatAttributesUptoSaid : Prop := fnExactFormatAttributesUptoRow.holds Try.pinned (OpenSpec.upto fnExactFormatAttributesSpec)

/-- 'laws.FnExactParseAttributes', WHERE WHAT IT READS IS OF BULK AT MOST 1048576: true; the input reads as it did. -/
def fnExactParseAttributesUptoRow : OpenClaim := { program := "ytmlinjmjcfgijaa", sum := "04813c53e76982dca9d637b0b3cfab6d90752237800639bb7a302836754c45be", func := "loop.example/g01988/laws.FnExactParseAttributes", spec := "fnExactParseAttributes", apart := false, narrowed := true }
def FnExactParseAttributesUptoSaid : Prop := fnExactParseAttributesUptoRow.holds Try.pinned (OpenSpec.upto fnExactParseAttributesSpec)

end Rows
end Go.Proofs.Ytmlinjmjcfgijaa
