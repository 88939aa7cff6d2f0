/-
  No cell of these rows narrows 'for every input' (looked for: loops, veiled, ifaces, maps, wideKeys, modest, calm, conditions, laid).
  DERIVED. THE GIVEN ROWS OF THIS SEAT. 7 by the template 'for every input the law returns true; each argument reads behind the call as it read before'; 0 by the template 'total and deterministic' (their statements: YtmapiljbhjblhaaTotals.lean).
  GIVEN WITH THE SEED: the statements are not yours to turn. If you find one false, say at which input.
  Laid BY PROGRAM, IN A SANDBOX (cutbox-rows.mjs): the forced cells as the released guide's own fill.sh prints them over the translation d5e8e8e414823df7… (all of the seat's roots in one cut). By AI agents, Wed Nov 11 2026. No macro, syntax, notation, axiom, sorry.
-/
import Derived.Test.YtmapiljbhjblhaaChecked
import GoSem.Claim
import GoSem.ClaimJoined
import GoSem.ClaimMapViews
import Derived.JoinedTies
import Derived.KernelRfl
namespace Go.Proofs.Ytmapiljbhjblhaa
/- THE CELL 'sum', in the pinned program and in every row, IS THE sha256 OF THE DUMP (.gsa) THAT YtmapiljbhjblhaaProg.lean LOADS. Nothing in Lean hashes anything: it is a label: what it is worth is what the hold of that sum in a sandbox is worth. -/
noncomputable def Try.pinned : Pinned := { name := "ytmapiljbhjblhaa", sum := "d5e8e8e414823df7d2c923908b3670c9a19f8ff531ff685f096db2b3068ef529", checked := Try.checked }
namespace Rows
def none {H : Type} : Left H := { results := [], args := [] }

/-- 'laws.FnExactAreDeps': WHATEVER THE INPUT: true; the input reads as it did. -/
def fnExactAreDepsSpec : ChangeSpec := { name := "fnExactAreDeps", fn := fun _ => fun
  | [d1, d2] => { results := [.lit (.bool true)], args := [d1, d2] }
  | _ => none }
def fnExactAreDepsRow : OpenClaim := { program := "ytmapiljbhjblhaa", sum := "d5e8e8e414823df7d2c923908b3670c9a19f8ff531ff685f096db2b3068ef529", func := "loop.example/g01988/laws.FnExactAreDeps", spec := "fnExactAreDeps", unfollowed := true, recurses := true, apart := false }
def FnExactAreDepsSaid : Prop := fnExactAreDepsRow.holds Try.pinned (OpenSpec.ofChange fnExactAreDepsSpec)

/-- ITS FALSE NEIGHBOUR: 'it returns false'. Refute it at one input. -/
def fnExactAreDepsWrong : ChangeSpec := { name := "fnExactAreDeps", fn := fun _ => fun
  | [d1, d2] => { results := [.lit (.bool false)], args := [d1, d2] }
  | _ => none }
def FnExactAreDepsWrongFalsely : Prop := fnExactAreDepsRow.holds Try.pinned (OpenSpec.ofChange fnExactAreDepsWrong)

/-- 'laws.FnExactClosureOf': WHATEVER THE INPUT: true; the input reads as it did. -/
def fnExactClosureOfSpec : ChangeSpec := { name := "fnExactClosureOf", fn := fun _ => fun
  | [d1, d2, d3] => { results := [.lit (.bool true)], args := [d1, d2, d3] }
  | _ => none }
def fnExactClosureOfRow : OpenClaim := { program := "ytmapiljbhjblhaa", sum := "d5e8e8e414823df7d2c923908b3670c9a19f8ff531ff685f096db2b3068ef529", func := "loop.example/g01988/laws.FnExactClosureOf", spec := "fnExactClosureOf", unfollowed := true, recurses := true, apart := false }
def FnExactClosureOfSaid : Prop := fnExactClosureOfRow.holds Try.pinned (OpenSpec.ofChange fnExactClosureOfSpec)

/-- ITS FALSE NEIGHBOUR: 'it returns false'. Refute it at one input. -/
def fnExactClosureOfWrong : ChangeSpec := { name := "fnExactClosureOf", fn := fun _ => fun
  | [d1, d2, d3] => { results := [.lit (.bool false)], args := [d1, d2, d3] }
  | _ => none }
def FnExactClosureOfWrongFalsely : Prop := fnExactClosureOfRow.holds Try.pinned (OpenSpec.ofChange fnExactClosureOfWrong)

/-- 'laws.FnExactImpliesDep': WHATEVER THE INPUT: true; the input reads as it did. -/
def fnExactImpliesDepSpec : ChangeSpec := { name := "fnExactImpliesDep", fn := fun _ => fun
  | [d1, d2, d3] => { results := [.lit (.bool true)], args := [d1, d2, d3] }
  | _ => none }
def fnExactImpliesDepRow : OpenClaim := { program := "ytmapiljbhjblhaa", sum := "d5e8e8e414823df7d2c923908b3670c9a19f8ff531ff685f096db2b3068ef529", func := "loop.example/g01988/laws.FnExactImpliesDep", spec := "fnExactImpliesDep", unfollowed := true, recurses := true, apart := false }
def FnExactImpliesDepSaid : Prop := fnExactImpliesDepRow.holds Try.pinned (OpenSpec.ofChange fnExactImpliesDepSpec)

/-- ITS FALSE NEIGHBOUR: 'it returns false'. Refute it at one input. -/
def fnExactImpliesDepWrong : ChangeSpec := { name := "fnExactImpliesDep", fn := fun _ => fun
  | [d1, d2, d3] => { results := [.lit (.bool false)], args := [d1, d2, d3] }
  | _ => none }
def FnExactImpliesDepWrongFalsely : Prop := fnExactImpliesDepRow.holds Try.pinned (OpenSpec.ofChange fnExactImpliesDepWrong)

/-- 'laws.FnExactDeriveDep': WHATEVER THE INPUT: true; the input reads as it did. -/
def fnExactDeriveDepSpec : ChangeSpec := { name := "fnExactDeriveDep", fn := fun _ => fun
  | [d1, d2, d3] => { results := [.lit (.bool true)], args := [d1, d2, d3] }
  | _ => none }
def fnExactDeriveDepRow : OpenClaim := { program := "ytmapiljbhjblhaa", sum := "d5e8e8e414823df7d2c923908b3670c9a19f8ff531ff685f096db2b3068ef529", func := "loop.example/g01988/laws.FnExactDeriveDep", spec := "fnExactDeriveDep", unfollowed := true, recurses := true, apart := false }
def FnExactDeriveDepSaid : Prop := fnExactDeriveDepRow.holds Try.pinned (OpenSpec.ofChange fnExactDeriveDepSpec)

/-- ITS FALSE NEIGHBOUR: 'it returns false'. Refute it at one input. -/
def fnExactDeriveDepWrong : ChangeSpec := { name := "fnExactDeriveDep", fn := fun _ => fun
  | [d1, d2, d3] => { results := [.lit (.bool false)], args := [d1, d2, d3] }
  | _ => none }
def FnExactDeriveDepWrongFalsely : Prop := fnExactDeriveDepRow.holds Try.pinned (OpenSpec.ofChange fnExactDeriveDepWrong)

/-- 'laws.FnExactCheckDerivation': WHATEVER THE INPUT: true; the input reads as it did. -/
def fnExactCheckDerivationSpec : ChangeSpec := { name := "fnExactCheckDerivation", fn := fun _ => fun
  | [d1, d2, d3, d4] => { results := [.lit (.bool true)], args := [d1, d2, d3, d4] }
  | _ => none }
def fnExactCheckDerivationRow : OpenClaim := { program := "ytmapiljbhjblhaa", sum := "d5e8e8e414823df7d2c923908b3670c9a19f8ff531ff685f096db2b3068ef529", func := "loop.example/g01988/laws.FnExactCheckDerivation", spec := "fnExactCheckDerivation", unfollowed := true, recurses := true, apart := false }
def FnExactCheckDerivationSaid : Prop := fnExactCheckDerivationRow.holds Try.pinned (OpenSpec.ofChange fnExactCheckDerivationSpec)

/-- ITS FALSE NEIGHBOUR: 'it returns false'. Refute it at one input. -/
def fnExactCheckDerivationWrong : ChangeSpec := { name := "fnExactCheckDerivation", fn := fun _ => fun
  | [d1, d2, d3, d4] => { results := [.lit (.bool false)], args := [d1, d2, d3, d4] }
  | _ => none }
def FnExactCheckDerivationWrongFalsely : Prop := fnExactCheckDerivationRow.holds Try.pinned (OpenSpec.ofChange fnExactCheckDerivationWrong)

/-- 'laws.FnExactClosedSets': WHATEVER THE INPUT: true; the input reads as it did. -/
def fnExactClosedSetsSpec : ChangeSpec := { name := "fnExactClosedSets", fn := fun _ => fun
  | [d1, d2] => { results := [.lit (.bool true)], args := [d1, d2] }
  | _ => none }
def fnExactClosedSetsRow : OpenClaim := { program := "ytmapiljbhjblhaa", sum := "d5e8e8e414823df7d2c923908b3670c9a19f8ff531ff685f096db2b3068ef529", func := "loop.example/g01988/laws.FnExactClosedSets", spec := "fnExactClosedSets", unfollowed := true, recurses := true, apart := false }
def FnExactClosedSetsSaid : Prop := fnExactClosedSetsRow.holds Try.pinned (OpenSpec.ofChange fnExactClosedSetsSpec)

/-- ITS FALSE NEIGHBOUR: 'it returns false'. Refute it at one input. -/
def fnExactClosedSetsWrong : ChangeSpec := { name := "fnExactClosedSets", fn := fun _ => fun
  | [d1, d2] => { results := [.lit (.bool false)], args := [d1, d2] }
  | _ => none }
def FnExactClosedSetsWrongFalsely : Prop := fnExactClosedSetsRow.holds Try.pinned (OpenSpec.ofChange fnExactClosedSetsWrong)

/-- 'laws.FnExactSameMeaning': WHATEVER THE INPUT: true; the input reads as it did. -/
def fnExactSameMeaningSpec : ChangeSpec := { name := "fnExactSameMeaning", fn := fun _ => fun
  | [d1, d2, d3] => { results := [.lit (.bool true)], args := [d1, d2, d3] }
  | _ => none }
def fnExactSameMeaningRow : OpenClaim := { program := "ytmapiljbhjblhaa", sum := "d5e8e8e414823df7d2c923908b3670c9a19f8ff531ff685f096db2b3068ef529", func := "loop.example/g01988/laws.FnExactSameMeaning", spec := "fnExactSameMeaning", unfollowed := true, recurses := true, apart := false }
def FnExactSameMeaningSaid : Prop := fnExactSameMeaningRow.holds Try.pinned (OpenSpec.ofChange fnExactSameMeaningSpec)

/-- ITS FALSE NEIGHBOUR: 'it returns false'. Refute it at one input. -/
def fnExactSameMeaningWrong : ChangeSpec := { name := "fnExactSameMeaning", fn := fun _ => fun
  | [d1, d2, d3] => { results := [.lit (.bool false)], args := [d1, d2, d3] }
  | _ => none }
def FnExactSameMeaningWrongFalsely : Prop := fnExactSameMeaningRow.holds Try.pinned (OpenSpec.ofChange fnExactSameMeaningWrong)

/- THE SECOND FORM. 'bulk': how many values and letters a reading holds, each counted each time it is reached (what is shared counts as often as it is met; a slice's spare places count too). A statement '..UptoSaid' is the law's where the arguments, and the package variables that the reading takes, are together of bulk at most 1048576: NARROWER than '..Said'. Prove '..Said' where nothing that the law and all that it calls make is longer than what came in: it says more and counts as full. Else prove '..UptoSaid'. A law counts once. -/
mutual
def uptoBulk {H : Type} : DataW H → Nat
  | .lit (.string bytes) => bytes.length + 1
  | .lit _ => 1
  | .nil => 1
  | .ptr d => uptoBulk d + 1
  | .slice elems spare => uptoBulkAll elems + uptoBulkAll spare + 1
  | .agg parts => uptoBulkAll parts + 1
  | .iface _ d => uptoBulk d + 1
  | .map entries => uptoBulkEntries entries + 1
  | .held _ => 1
def uptoBulkAll {H : Type} : List (DataW H) → Nat
  | [] => 0
  | d :: r => uptoBulk d + uptoBulkAll r
def uptoBulkEntries {H : Type} : List (Lit × DataW H) → Nat
  | [] => 0
  | x :: r => uptoBulkEntry x + uptoBulkEntries r
def uptoBulkEntry {H : Type} : Lit × DataW H → Nat
  | (.string bytes, d) => bytes.length + uptoBulk d + 1
  | (_, d) => uptoBulk d + 1
 end
def uptoSmall : (H : Type) → List (DataW H) → Bool := fun _ ds => decide (uptoBulkAll ds ≤ 1048576)
def OpenSpec.upto (s : _root_.Go.ChangeSpec) : _root_.Go.OpenSpec := { _root_.Go.OpenSpec.ofChange s with cond := some uptoSmall }

/-- 'laws.FnExactAreDeps', WHERE WHAT IT READS IS OF BULK AT MOST 1048576: true; the input reads as it did. -/
def fnExactAreDepsUptoRow : OpenClaim := { program := "ytmapiljbhjblhaa", sum := "d5e8e8e414823df7d2c923908b3670c9a19f8ff531ff685f096db2b3068ef529", func := "loop.example/g01988/laws.FnExactAreDeps", spec := "fnExactAreDeps", unfollowed := true, recurses := true, apart := false, narrowed := true }
def FnExactAreDepsUptoSaid : Prop := fnExactAreDepsUptoRow.holds Try.pinned (OpenSpec.upto fnExactAreDepsSpec)

/-- 'laws.FnExactClosureOf', WHERE WHAT IT READS IS OF BULK AT MOST 1048576: true; the input reads as it did. -/
def fnExactClosureOfUptoRow : OpenClaim := { program := "ytmapiljbhjblhaa", sum := "d5e8e8e414823df7d2c923908b3670c9a19f8ff531ff685f096db2b3068ef529", func := "loop.example/g01988/laws.FnExactClosureOf", spec := "fnExactClosureOf", unfollowed := true, recurses := true, apart := false, narrowed := true }
def FnExactClosureOfUptoSaid : Prop := fnExactClosureOfUptoRow.holds Try.pinned (OpenSpec.upto fnExactClosureOfSpec)

/-- 'laws.FnExactImpliesDep', WHERE WHAT IT READS IS OF BULK AT MOST 1048576: true; the input reads as it did. -/
def fnExactImpliesDepUptoRow : OpenClaim := { program := "ytmapiljbhjblhaa", sum := "d5e8e8e414823df7d2c923908b3670c9a19f8ff531ff685f096db2b3068ef529", func := "loop.example/g01988/laws.FnExactImpliesDep", spec := "fnExactImpliesDep", unfollowed := true, recurses := true, apart := false, narrowed := true }
def FnExactImpliesDepUptoSaid : Prop := fnExactImpliesDepUptoRow.holds Try.pinned (OpenSpec.upto fnExactImpliesDepSpec)

/-- 'laws.FnExactDeriveDep', WHERE WHAT IT READS IS OF BULK AT MOST 1048576: true; the input reads as it did. -/
def fnExactDeriveDepUptoRow : OpenClaim := { program := "ytmapiljbhjblhaa", sum := "d5e8e8e414823df7d2c923908b3670c9a19f8ff531ff685f096db2b3068ef529", func := "loop.example/g01988/laws.FnExactDeriveDep", spec := "fnExactDeriveDep", unfollowed := true, recurses := true, apart := false, narrowed := true }
def FnExactDeriveDepUptoSaid : Prop := fnExactDeriveDepUptoRow.holds Try.pinned (OpenSpec.upto fnExactDeriveDepSpec)

/-- 'laws.FnExactCheckDerivation', WHERE WHAT IT READS IS OF BULK AT MOST 1048576: true; the input reads as it did. -/
def fnExactCheckDerivationUptoRow : OpenClaim := { program := "ytmapiljbhjblhaa", sum := "d5e8e8e414823df7d2c923908b3670c9a19f8ff531ff685f096db2b3068ef529", func := "loop.example/g01988/laws.FnExactCheckDerivation", spec := "fnExactCheckDerivation", unfollowed := true, recurses := true, apart := false, narrowed := true }
def FnExactCheckDerivationUptoSaid : Prop := fnExactCheckDerivationUptoRow.holds Try.pinned (OpenSpec.upto fnExactCheckDerivationSpec)

/-- 'laws.FnExactClosedSets', WHERE WHAT IT READS IS OF BULK AT MOST 1048576: true; the input reads as it did. -/
def fnExactClosedSetsUptoRow : OpenClaim := { program := "ytmapiljbhjblhaa", sum := "d5e8e8e414823df7d2c923908b3670c9a19f8ff531ff685f096db2b3068ef529", func := "loop.example/g01988/laws.FnExactClosedSets", spec := "fnExactClosedSets", unfollowed := true, recurses := true, apart := false, narrowed := true }
def FnExactClosedSetsUptoSaid : Prop := fnExactClosedSetsUptoRow.holds Try.pinned (OpenSpec.upto fnExactClosedSetsSpec)

/-- 'laws.FnExactSameMeaning', WHERE WHAT IT READS IS OF BULK AT MOST 1048576: true; the input reads as it did. -/
def fnExactSameMeaningUptoRow : OpenClaim := { program := "ytmapiljbhjblhaa", sum := "d5e8e8e414823df7d2c923908b3670c9a19f8ff531ff685f096db2b3068ef529", func := "loop.example/g01988/laws.FnExactSameMeaning", spec := "fnExactSameMeaning", unfollowed := true, recurses := true, apart := false, narrowed := true }
def FnExactSameMeaningUptoSaid : Prop := fnExactSameMeaningUptoRow.holds Try.pinned (OpenSpec.upto fnExactSameMeaningSpec)

end Rows
end Go.Proofs.Ytmapiljbhjblhaa
