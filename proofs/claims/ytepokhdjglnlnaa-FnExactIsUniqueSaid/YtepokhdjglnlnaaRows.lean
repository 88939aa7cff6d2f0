/-
  No cell of these rows narrows 'for every input' (looked for: loops, veiled, ifaces, maps, wideKeys, modest, calm, conditions, laid).
  DERIVED. THE GIVEN ROWS OF THIS SEAT. 6 by the template 'for every input the law returns true; each argument reads behind the call as it read before'; 0 by the template 'total and deterministic' (their statements: YtepokhdjglnlnaaTotals.lean).
  GIVEN WITH THE SEED: the statements are not yours to turn. If you find one false, say at which input.
  Laid BY PROGRAM, IN A SANDBOX (cutbox-rows.mjs): the forced cells as the released guide's own fill.sh prints them over the translation f1571a05a6bac3a0… (all of the seat's roots in one cut). By AI agents, Wed Nov 11 2026. No macro, syntax, notation, axiom, sorry.
-/
import Derived.Test.YtepokhdjglnlnaaChecked
import GoSem.Claim
import GoSem.ClaimJoined
import GoSem.ClaimMapViews
import Derived.JoinedTies
import Derived.KernelRfl
namespace Go.Proofs.Ytepokhdjglnlnaa
/- THE CELL 'sum', in the pinned program and in every row, IS THE sha256 OF THE DUMP (.gsa) THAT YtepokhdjglnlnaaProg.lean LOADS. Nothing in Lean hashes anything: it is a label: what it is worth is what the hold of that sum in a sandbox is worth. -/
noncomputable def Try.pinned : Pinned := { name := "ytepokhdjglnlnaa", sum := "f1571a05a6bac3a01195973bc8c8657e8f752960a06815c5746b925e9bc2d32b", checked := Try.checked }
namespace Rows
def none {H : Type} : Left H := { results := [], args := [] }

/-- 'laws.FnExactMinimalDeps': WHATEVER THE INPUT: true; the input reads as it did. -/
def fnExactMinimalDepsSpec : ChangeSpec := { name := "fnExactMinimalDeps", fn := fun _ => fun
  | [d1, d2] => { results := [.lit (.bool true)], args := [d1, d2] }
  | _ => none }
def fnExactMinimalDepsRow : OpenClaim := { program := "ytepokhdjglnlnaa", sum := "f1571a05a6bac3a01195973bc8c8657e8f752960a06815c5746b925e9bc2d32b", func := "loop.example/g01988/laws.FnExactMinimalDeps", spec := "fnExactMinimalDeps", unfollowed := true, recurses := true, plainKeys := false, apart := false }
def FnExactMinimalDepsSaid : Prop := fnExactMinimalDepsRow.holds Try.pinned (OpenSpec.ofChange fnExactMinimalDepsSpec)

/-- ITS FALSE NEIGHBOUR: 'it returns false'. Refute it at one input. -/
def fnExactMinimalDepsWrong : ChangeSpec := { name := "fnExactMinimalDeps", fn := fun _ => fun
  | [d1, d2] => { results := [.lit (.bool false)], args := [d1, d2] }
  | _ => none }
def FnExactMinimalDepsWrongFalsely : Prop := fnExactMinimalDepsRow.holds Try.pinned (OpenSpec.ofChange fnExactMinimalDepsWrong)

/-- 'laws.FnExactIsMinimalDep': WHATEVER THE INPUT: true; the input reads as it did. -/
def fnExactIsMinimalDepSpec : ChangeSpec := { name := "fnExactIsMinimalDep", fn := fun _ => fun
  | [d1, d2, d3] => { results := [.lit (.bool true)], args := [d1, d2, d3] }
  | _ => none }
def fnExactIsMinimalDepRow : OpenClaim := { program := "ytepokhdjglnlnaa", sum := "f1571a05a6bac3a01195973bc8c8657e8f752960a06815c5746b925e9bc2d32b", func := "loop.example/g01988/laws.FnExactIsMinimalDep", spec := "fnExactIsMinimalDep", unfollowed := true, recurses := true, plainKeys := false, apart := false }
def FnExactIsMinimalDepSaid : Prop := fnExactIsMinimalDepRow.holds Try.pinned (OpenSpec.ofChange fnExactIsMinimalDepSpec)

/-- ITS FALSE NEIGHBOUR: 'it returns false'. Refute it at one input. -/
def fnExactIsMinimalDepWrong : ChangeSpec := { name := "fnExactIsMinimalDep", fn := fun _ => fun
  | [d1, d2, d3] => { results := [.lit (.bool false)], args := [d1, d2, d3] }
  | _ => none }
def FnExactIsMinimalDepWrongFalsely : Prop := fnExactIsMinimalDepRow.holds Try.pinned (OpenSpec.ofChange fnExactIsMinimalDepWrong)

/-- 'laws.FnExactViolatedBorder': WHATEVER THE INPUT: true; the input reads as it did. -/
def fnExactViolatedBorderSpec : ChangeSpec := { name := "fnExactViolatedBorder", fn := fun _ => fun
  | [d1, d2, d3] => { results := [.lit (.bool true)], args := [d1, d2, d3] }
  | _ => none }
def fnExactViolatedBorderRow : OpenClaim := { program := "ytepokhdjglnlnaa", sum := "f1571a05a6bac3a01195973bc8c8657e8f752960a06815c5746b925e9bc2d32b", func := "loop.example/g01988/laws.FnExactViolatedBorder", spec := "fnExactViolatedBorder", unfollowed := true, recurses := true, plainKeys := false, apart := false }
def FnExactViolatedBorderSaid : Prop := fnExactViolatedBorderRow.holds Try.pinned (OpenSpec.ofChange fnExactViolatedBorderSpec)

/-- ITS FALSE NEIGHBOUR: 'it returns false'. Refute it at one input. -/
def fnExactViolatedBorderWrong : ChangeSpec := { name := "fnExactViolatedBorder", fn := fun _ => fun
  | [d1, d2, d3] => { results := [.lit (.bool false)], args := [d1, d2, d3] }
  | _ => none }
def FnExactViolatedBorderWrongFalsely : Prop := fnExactViolatedBorderRow.holds Try.pinned (OpenSpec.ofChange fnExactViolatedBorderWrong)

/-- 'laws.FnExactMinimalKeys': WHATEVER THE INPUT: true; the input reads as it did. -/
def fnExactMinimalKeysSpec : ChangeSpec := { name := "fnExactMinimalKeys", fn := fun _ => fun
  | [d1, d2] => { results := [.lit (.bool true)], args := [d1, d2] }
  | _ => none }
def fnExactMinimalKeysRow : OpenClaim := { program := "ytepokhdjglnlnaa", sum := "f1571a05a6bac3a01195973bc8c8657e8f752960a06815c5746b925e9bc2d32b", func := "loop.example/g01988/laws.FnExactMinimalKeys", spec := "fnExactMinimalKeys", unfollowed := true, recurses := true, plainKeys := false, apart := false }
def FnExactMinimalKeysSaid : Prop := fnExactMinimalKeysRow.holds Try.pinned (OpenSpec.ofChange fnExactMinimalKeysSpec)

/-- ITS FALSE NEIGHBOUR: 'it returns false'. Refute it at one input. -/
def fnExactMinimalKeysWrong : ChangeSpec := { name := "fnExactMinimalKeys", fn := fun _ => fun
  | [d1, d2] => { results := [.lit (.bool false)], args := [d1, d2] }
  | _ => none }
def FnExactMinimalKeysWrongFalsely : Prop := fnExactMinimalKeysRow.holds Try.pinned (OpenSpec.ofChange fnExactMinimalKeysWrong)

/-- 'laws.FnExactIsUnique': WHATEVER THE INPUT: true; the input reads as it did. -/
def fnExactIsUniqueSpec : ChangeSpec := { name := "fnExactIsUnique", fn := fun _ => fun
  | [d1, d2, d3] => { results := [.lit (.bool true)], args := [d1, d2, d3] }
  | _ => none }
def fnExactIsUniqueRow : OpenClaim := { program := "ytepokhdjglnlnaa", sum := "f1571a05a6bac3a01195973bc8c8657e8f752960a06815c5746b925e9bc2d32b", func := "loop.example/g01988/laws.FnExactIsUnique", spec := "fnExactIsUnique", unfollowed := true, recurses := true, plainKeys := false, apart := false }
def FnExactIsUniqueSaid : Prop := fnExactIsUniqueRow.holds Try.pinned (OpenSpec.ofChange fnExactIsUniqueSpec)

/-- ITS FALSE NEIGHBOUR: 'it returns false'. Refute it at one input. -/
def fnExactIsUniqueWrong : ChangeSpec := { name := "fnExactIsUnique", fn := fun _ => fun
  | [d1, d2, d3] => { results := [.lit (.bool false)], args := [d1, d2, d3] }
  | _ => none }
def FnExactIsUniqueWrongFalsely : Prop := fnExactIsUniqueRow.holds Try.pinned (OpenSpec.ofChange fnExactIsUniqueWrong)

/-- 'laws.FnExactApproximateDeps': WHATEVER THE INPUT: true; the input reads as it did. -/
def fnExactApproximateDepsSpec : ChangeSpec := { name := "fnExactApproximateDeps", fn := fun _ => fun
  | [d1, d2, d3] => { results := [.lit (.bool true)], args := [d1, d2, d3] }
  | _ => none }
def fnExactApproximateDepsRow : OpenClaim := { program := "ytepokhdjglnlnaa", sum := "f1571a05a6bac3a01195973bc8c8657e8f752960a06815c5746b925e9bc2d32b", func := "loop.example/g01988/laws.FnExactApproximateDeps", spec := "fnExactApproximateDeps", unfollowed := true, recurses := true, plainKeys := false, apart := false }
def FnExactApproximateDepsSaid : Prop := fnExactApproximateDepsRow.holds Try.pinned (OpenSpec.ofChange fnExactApproximateDepsSpec)

/-- ITS FALSE NEIGHBOUR: 'it returns false'. Refute it at one input. -/
def fnExactApproximateDepsWrong : ChangeSpec := { name := "fnExactApproximateDeps", fn := fun _ => fun
  | [d1, d2, d3] => { results := [.lit (.bool false)], args := [d1, d2, d3] }
  | _ => none }
def FnExactApproximateDepsWrongFalsely : Prop := fnExactApproximateDepsRow.holds Try.pinned (OpenSpec.ofChange fnExactApproximateDepsWrong)

/- THE SECOND FORM. 'bulk': how many values and letters a reading holds, each counted each time it is reached (what is shared counts as often as it is met; a slice's spare places count too). A statement '..UptoSaid' is the law's where the arguments, and the package variables that the reading takes, are together of bulk at most 1048576: NARROWER than '..Said'. Prove '..Said' where nothing that the law and all that it calls make is longer than what came in: it says more and counts as full. Else prove '..UptoSaid'. A law counts once. -/
mutual
def uptoBulk {H : Type} : DataW H → Nat
  | .lit (.string bytes) => bytes.length + 1
  | .lit _ => 1
  | .nil => 1
  | .ptr d => uptoBulk d + 1
  | .slice elems spare => uptoBulkAll elems + uptoBulkAll spare + 1
  | .agg parts => uptoBulkAll parts + 1
  | .iface _ d => uptoBulk d + 1
  | .map entries => uptoBulkEntries entries + 1
  | .held _ => 1
def uptoBulkAll {H : Type} : List (DataW H) → Nat
  | [] => 0
  | d :: r => uptoBulk d + uptoBulkAll r
def uptoBulkEntries {H : Type} : List (Lit × DataW H) → Nat
  | [] => 0
  | x :: r => uptoBulkEntry x + uptoBulkEntries r
def uptoBulkEntry {H : Type} : Lit × DataW H → Nat
  | (.string bytes, d) => bytes.length + uptoBulk d + 1
  | (_, d) => uptoBulk d + 1
 end
def uptoSmall : (H : Type) → List (DataW H) → Bool := fun _ ds => decide (uptoBulkAll ds ≤ 1048576)
def OpenSpec.upto (s : _root_.Go.ChangeSpec) : _root_.Go.OpenSpec := { _root_.Go.OpenSpec.ofChange s with cond := some uptoSmall }

/-- 'laws.FnExactMinimalDeps', WHERE WHAT IT READS IS OF BULK AT MOST 1048576: true; the input reads as it did. -/
def fnExactMinimalDepsUptoRow : OpenClaim := { program := "ytepokhdjglnlnaa", sum := "f1571a05a6bac3a01195973bc8c8657e8f752960a06815c5746b925e9bc2d32b", func := "loop.example/g01988/laws.FnExactMinimalDeps", spec := "fnExactMinimalDeps", unfollowed := true, recurses := true, plainKeys := false, apart := false, narrowed := true }
def FnExactMinimalDepsUptoSaid : Prop := fnExactMinimalDepsUptoRow.holds Try.pinned (OpenSpec.upto fnExactMinimalDepsSpec)

/-- 'laws.FnExactIsMinimalDep', WHERE WHAT IT READS IS OF BULK AT MOST 1048576: true; the input reads as it did. -/
def fnExactIsMinimalDepUptoRow : OpenClaim := { program := "ytepokhdjglnlnaa", sum := "f1571a05a6bac3a01195973bc8c8657e8f752960a06815c5746b925e9bc2d32b", func := "loop.example/g01988/laws.FnExactIsMinimalDep", spec := "fnExactIsMinimalDep", unfollowed := true, recurses := true, plainKeys := false, apart := false, narrowed := true }
def FnExactIsMinimalDepUptoSaid : Prop := fnExactIsMinimalDepUptoRow.holds Try.pinned (OpenSpec.upto fnExactIsMinimalDepSpec)

/-- 'laws.FnExactViolatedBorder', WHERE WHAT IT READS IS OF BULK AT MOST 1048576: true; the input reads as it did. -/
def fnExactViolatedBorderUptoRow : OpenClaim := { program := "ytepokhdjglnlnaa", sum := "f1571a05a6bac3a01195973bc8c8657e8f752960a06815c5746b925e9bc2d32b", func := "loop.example/g01988/laws.FnExactViolatedBorder", spec := "fnExactViolatedBorder", unfollowed := true, recurses := true, plainKeys := false, apart := false, narrowed := true }
def FnExactViolatedBorderUptoSaid : Prop := fnExactViolatedBorderUptoRow.holds Try.pinned (OpenSpec.upto fnExactViolatedBorderSpec)

/-- 'laws.FnExactMinimalKeys', WHERE WHAT IT READS IS OF BULK AT MOST 1048576: true; the input reads as it did. -/
def fnExactMinimalKeysUptoRow : OpenClaim := { program := "ytepokhdjglnlnaa", sum := "f1571a05a6bac3a01195973bc8c8657e8f752960a06815c5746b925e9bc2d32b", func := "loop.example/g01988/laws.FnExactMinimalKeys", spec := "fnExactMinimalKeys", unfollowed := true, recurses := true, plainKeys := false, apart := false, narrowed := true }
def FnExactMinimalKeysUptoSaid : Prop := fnExactMinimalKeysUptoRow.holds Try.pinned (OpenSpec.upto fnExactMinimalKeysSpec)

/-- 'laws.FnExactIsUnique', WHERE WHAT IT READS IS OF BULK AT MOST 1048576: true; the input reads as it did. -/
def fnExactIsUniqueUptoRow : OpenClaim := { program := "ytepokhdjglnlnaa", sum := "f1571a05a6bac3a01195973bc8c8657e8f752960a06815c5746b925e9bc2d32b", func := "loop.example/g01988/laws.FnExactIsUnique", spec := "fnExactIsUnique", unfollowed := true, recurses := true, plainKeys := false, apart := false, narrowed := true }
def FnExactIsUniqueUptoSaid : Prop := fnExactIsUniqueUptoRow.holds Try.pinned (OpenSpec.upto fnExactIsUniqueSpec)

/-- 'laws.FnExactApproximateDeps', WHERE WHAT IT READS IS OF BULK AT MOST 1048576: true; the input reads as it did. -/
def fnExactApproximateDepsUptoRow : OpenClaim := { program := "ytepokhdjglnlnaa", sum := "f1571a05a6bac3a01195973bc8c8657e8f752960a06815c5746b925e9bc2d32b", func := "loop.example/g01988/laws.FnExactApproximateDeps", spec := "fnExactApproximateDeps", unfollowed := true, recurses := true, plainKeys := false, apart := false, narrowed := true }
def FnExactApproximateDepsUptoSaid : Prop := fnExactApproximateDepsUptoRow.holds Try.pinned (OpenSpec.upto fnExactApproximateDepsSpec)

end Rows
end Go.Proofs.Ytepokhdjglnlnaa
