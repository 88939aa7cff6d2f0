/-
  No cell of these rows narrows 'for every input' (looked for: loops, veiled, ifaces, maps, wideKeys, modest, calm, conditions, laid).
  DERIVED. THE GIVEN ROWS OF THIS SEAT. 6 by the template 'for every input the law returns true; each argument reads behind the call as it read before'; 0 by the template 'total and deterministic' (their statements: YtigecfbmdbpbhaaTotals.lean).
  GIVEN WITH THE SEED: the statements are not yours to turn. If you find one false, say at which input.
  Laid BY PROGRAM, IN A SANDBOX (cutbox-rows.mjs): the forced cells as the released guide's own fill.sh prints them over the translation 39696cb9cf01b81a… (all of the seat's roots in one cut). By AI agents, Wed Nov 11 2026. No macro, syntax, notation, axiom, sorry.
-/
import Derived.Test.YtigecfbmdbpbhaaChecked
import GoSem.Claim
import GoSem.ClaimJoined
import GoSem.ClaimMapViews
import Derived.JoinedTies
import Derived.KernelRfl
namespace Go.Proofs.Ytigecfbmdbpbhaa
/- THE CELL 'sum', in the pinned program and in every row, IS THE sha256 OF THE DUMP (.gsa) THAT YtigecfbmdbpbhaaProg.lean LOADS. Nothing in Lean hashes anything: it is a label: what it is worth is what the hold of that sum in a sandbox is worth. -/
noncomputable def Try.pinned : Pinned := { name := "ytigecfbmdbpbhaa", sum := "39696cb9cf01b81a8b2e2499eaa63c7786a231b5b04afed511664e55b7e6686c", checked := Try.checked }
namespace Rows
def none {H : Type} : Left H := { results := [], args := [] }

/-- 'laws.FnExactNewSearch': WHATEVER THE INPUT: true; the input reads as it did. -/
def fnExactNewSearchSpec : ChangeSpec := { name := "fnExactNewSearch", fn := fun _ => fun
  | [d1, d2] => { results := [.lit (.bool true)], args := [d1, d2] }
  | _ => none }
def fnExactNewSearchRow : OpenClaim := { program := "ytigecfbmdbpbhaa", sum := "39696cb9cf01b81a8b2e2499eaa63c7786a231b5b04afed511664e55b7e6686c", func := "loop.example/g01988/laws.FnExactNewSearch", spec := "fnExactNewSearch", apart := false }
def FnExactNewSearchSaid : Prop := fnExactNewSearchRow.holds Try.pinned (OpenSpec.ofChange fnExactNewSearchSpec)

/-- ITS FALSE NEIGHBOUR: 'it returns false'. Refute it at one input. -/
def fnExactNewSearchWrong : ChangeSpec := { name := "fnExactNewSearch", fn := fun _ => fun
  | [d1, d2] => { results := [.lit (.bool false)], args := [d1, d2] }
  | _ => none }
def FnExactNewSearchWrongFalsely : Prop := fnExactNewSearchRow.holds Try.pinned (OpenSpec.ofChange fnExactNewSearchWrong)

/-- 'laws.FnExactIsSearch': WHATEVER THE INPUT: true; the input reads as it did. -/
def fnExactIsSearchSpec : ChangeSpec := { name := "fnExactIsSearch", fn := fun _ => fun
  | [d] => { results := [.lit (.bool true)], args := [d] }
  | _ => none }
def fnExactIsSearchRow : OpenClaim := { program := "ytigecfbmdbpbhaa", sum := "39696cb9cf01b81a8b2e2499eaa63c7786a231b5b04afed511664e55b7e6686c", func := "loop.example/g01988/laws.FnExactIsSearch", spec := "fnExactIsSearch", unfollowed := true, recurses := true, apart := false }
def FnExactIsSearchSaid : Prop := fnExactIsSearchRow.holds Try.pinned (OpenSpec.ofChange fnExactIsSearchSpec)

/-- ITS FALSE NEIGHBOUR: 'it returns false'. Refute it at one input. -/
def fnExactIsSearchWrong : ChangeSpec := { name := "fnExactIsSearch", fn := fun _ => fun
  | [d] => { results := [.lit (.bool false)], args := [d] }
  | _ => none }
def FnExactIsSearchWrongFalsely : Prop := fnExactIsSearchRow.holds Try.pinned (OpenSpec.ofChange fnExactIsSearchWrong)

/-- 'laws.FnExactCandidateAt': WHATEVER THE INPUT: true; the input reads as it did. -/
def fnExactCandidateAtSpec : ChangeSpec := { name := "fnExactCandidateAt", fn := fun _ => fun
  | [d] => { results := [.lit (.bool true)], args := [d] }
  | _ => none }
def fnExactCandidateAtRow : OpenClaim := { program := "ytigecfbmdbpbhaa", sum := "39696cb9cf01b81a8b2e2499eaa63c7786a231b5b04afed511664e55b7e6686c", func := "loop.example/g01988/laws.FnExactCandidateAt", spec := "fnExactCandidateAt", unfollowed := true, recurses := true, apart := false }
def FnExactCandidateAtSaid : Prop := fnExactCandidateAtRow.holds Try.pinned (OpenSpec.ofChange fnExactCandidateAtSpec)

/-- ITS FALSE NEIGHBOUR: 'it returns false'. Refute it at one input. -/
def fnExactCandidateAtWrong : ChangeSpec := { name := "fnExactCandidateAt", fn := fun _ => fun
  | [d] => { results := [.lit (.bool false)], args := [d] }
  | _ => none }
def FnExactCandidateAtWrongFalsely : Prop := fnExactCandidateAtRow.holds Try.pinned (OpenSpec.ofChange fnExactCandidateAtWrong)

/-- 'laws.FnExactRunSearch': WHATEVER THE INPUT: true; the input reads as it did. -/
def fnExactRunSearchSpec : ChangeSpec := { name := "fnExactRunSearch", fn := fun _ => fun
  | [d1, d2] => { results := [.lit (.bool true)], args := [d1, d2] }
  | _ => none }
def fnExactRunSearchRow : OpenClaim := { program := "ytigecfbmdbpbhaa", sum := "39696cb9cf01b81a8b2e2499eaa63c7786a231b5b04afed511664e55b7e6686c", func := "loop.example/g01988/laws.FnExactRunSearch", spec := "fnExactRunSearch", unfollowed := true, recurses := true, apart := false }
def FnExactRunSearchSaid : Prop := fnExactRunSearchRow.holds Try.pinned (OpenSpec.ofChange fnExactRunSearchSpec)

/-- ITS FALSE NEIGHBOUR: 'it returns false'. Refute it at one input. -/
def fnExactRunSearchWrong : ChangeSpec := { name := "fnExactRunSearch", fn := fun _ => fun
  | [d1, d2] => { results := [.lit (.bool false)], args := [d1, d2] }
  | _ => none }
def FnExactRunSearchWrongFalsely : Prop := fnExactRunSearchRow.holds Try.pinned (OpenSpec.ofChange fnExactRunSearchWrong)

/-- 'laws.FnExactIsSearched': WHATEVER THE INPUT: true; the input reads as it did. -/
def fnExactIsSearchedSpec : ChangeSpec := { name := "fnExactIsSearched", fn := fun _ => fun
  | [d] => { results := [.lit (.bool true)], args := [d] }
  | _ => none }
def fnExactIsSearchedRow : OpenClaim := { program := "ytigecfbmdbpbhaa", sum := "39696cb9cf01b81a8b2e2499eaa63c7786a231b5b04afed511664e55b7e6686c", func := "loop.example/g01988/laws.FnExactIsSearched", spec := "fnExactIsSearched", unfollowed := true, recurses := true, apart := false }
def FnExactIsSearchedSaid : Prop := fnExactIsSearchedRow.holds Try.pinned (OpenSpec.ofChange fnExactIsSearchedSpec)

/-- ITS FALSE NEIGHBOUR: 'it returns false'. Refute it at one input. -/
def fnExactIsSearchedWrong : ChangeSpec := { name := "fnExactIsSearched", fn := fun _ => fun
  | [d] => { results := [.lit (.bool false)], args := [d] }
  | _ => none }
def FnExactIsSearchedWrongFalsely : Prop := fnExactIsSearchedRow.holds Try.pinned (OpenSpec.ofChange fnExactIsSearchedWrong)

/-- 'laws.FnExactEqualSearches': WHATEVER THE INPUT: true; the input reads as it did. -/
def fnExactEqualSearchesSpec : ChangeSpec := { name := "fnExactEqualSearches", fn := fun _ => fun
  | [d1, d2] => { results := [.lit (.bool true)], args := [d1, d2] }
  | _ => none }
def fnExactEqualSearchesRow : OpenClaim := { program := "ytigecfbmdbpbhaa", sum := "39696cb9cf01b81a8b2e2499eaa63c7786a231b5b04afed511664e55b7e6686c", func := "loop.example/g01988/laws.FnExactEqualSearches", spec := "fnExactEqualSearches", unfollowed := true, recurses := true, apart := false }
def FnExactEqualSearchesSaid : Prop := fnExactEqualSearchesRow.holds Try.pinned (OpenSpec.ofChange fnExactEqualSearchesSpec)

/-- ITS FALSE NEIGHBOUR: 'it returns false'. Refute it at one input. -/
def fnExactEqualSearchesWrong : ChangeSpec := { name := "fnExactEqualSearches", fn := fun _ => fun
  | [d1, d2] => { results := [.lit (.bool false)], args := [d1, d2] }
  | _ => none }
def FnExactEqualSearchesWrongFalsely : Prop := fnExactEqualSearchesRow.holds Try.pinned (OpenSpec.ofChange fnExactEqualSearchesWrong)

/- THE SECOND FORM. 'bulk': how many values and letters a reading holds, each counted each time it is reached (what is shared counts as often as it is met; a slice's spare places count too). A statement '..UptoSaid' is the law's where the arguments, and the package variables that the reading takes, are together of bulk at most 1048576: NARROWER than '..Said'. Prove '..Said' where nothing that the law and all that it calls make is longer than what came in: it says more and counts as full. Else prove '..UptoSaid'. A law counts once. -/
mutual
def uptoBulk {H : Type} : DataW H → Nat
  | .lit (.string bytes) => bytes.length + 1
  | .lit _ => 1
  | .nil => 1
  | .ptr d => uptoBulk d + 1
  | .slice elems spare => uptoBulkAll elems + uptoBulkAll spare + 1
  | .agg parts => uptoBulkAll parts + 1
  | .iface _ d => uptoBulk d + 1
  | .map entries => uptoBulkEntries entries + 1
  | .held _ => 1
def uptoBulkAll {H : Type} : List (DataW H) → Nat
  | [] => 0
  | d :: r => uptoBulk d + uptoBulkAll r
def uptoBulkEntries {H : Type} : List (Lit × DataW H) → Nat
  | [] => 0
  | x :: r => uptoBulkEntry x + uptoBulkEntries r
def uptoBulkEntry {H : Type} : Lit × DataW H → Nat
  | (.string bytes, d) => bytes.length + uptoBulk d + 1
  | (_, d) => uptoBulk d + 1
 end
def uptoSmall : (H : Type) → List (DataW H) → Bool := fun _ ds => decide (uptoBulkAll ds ≤ 1048576)
def OpenSpec.upto (s : _root_.Go.ChangeSpec) : _root_.Go.OpenSpec := { _root_.Go.OpenSpec.ofChange s with cond := some uptoSmall }

/-- 'laws.FnExactNewSearch', WHERE WHAT IT READS IS OF BULK AT MOST 1048576: true; the input reads as it did. -/
def fnExactNewSearchUptoRow : OpenClaim := { program := "ytigecfbmdbpbhaa", sum := "39696cb9cf01b81a8b2e2499eaa63c7786a231b5b04afed511664e55b7e6686c", func := "loop.example/g01988/laws.FnExactNewSearch", spec := "fnExactNewSearch", apart := false, narrowed := true }
def FnExactNewSearchUptoSaid : Prop := fnExactNewSearchUptoRow.holds Try.pinned (OpenSpec.upto fnExactNewSearchSpec)

/-- 'laws.FnExactIsSearch', WHERE WHAT IT READS IS OF BULK AT MOST 1048576: true; the input reads as it did. -/
def fnExactIsSearchUptoRow : OpenClaim := { program := "ytigecfbmdbpbhaa", sum := "39696cb9cf01b81a8b2e2499eaa63c7786a231b5b04afed511664e55b7e6686c", func := "loop.example/g01988/laws.FnExactIsSearch", spec := "fnExactIsSearch", unfollowed := true, recurses := true, apart := false, narrowed := true }
def FnExactIsSearchUptoSaid : Prop := fnExactIsSearchUptoRow.holds Try.pinned (OpenSpec.upto fnExactIsSearchSpec)

/-- 'laws.FnExactCandidateAt', WHERE WHAT IT READS IS OF BULK AT MOST 1048576: true; the input reads as it did. -/
def fnExactCandidateAtUptoRow : OpenClaim := { program := "ytigecfbmdbpbhaa", sum := "39696cb9cf01b81a8b2e2499eaa63c7786a231b5b04afed511664e55b7e6686c", func := "loop.example/g01988/laws.FnExactCandidateAt", spec := "fnExactCandidateAt", unfollowed := true, recurses := true, apart := false, narrowed := true }
def FnExactCandidateAtUptoSaid : Prop := fnExactCandidateAtUptoRow.holds Try.pinned (OpenSpec.upto fnExactCandidateAtSpec)

/-- 'laws.FnExactRunSearch', WHERE WHAT IT READS IS OF BULK AT MOST 1048576: true; the input reads as it did. -/
def fnExactRunSearchUptoRow : OpenClaim := { program := "ytigecfbmdbpbhaa", sum := "39696cb9cf01b81a8b2e2499eaa63c7786a231b5b04afed511664e55b7e6686c", func := "loop.example/g01988/laws.FnExactRunSearch", spec := "fnExactRunSearch", unfollowed := true, recurses := true, apart := false, narrowed := true }
def FnExactRunSearchUptoSaid : Prop := fnExactRunSearchUptoRow.holds Try.pinned (OpenSpec.upto fnExactRunSearchSpec)

/-- 'laws.FnExactIsSearched', WHERE WHAT IT READS IS OF BULK AT MOST 1048576: true; the input reads as it did. -/
def fnExactIsSearchedUptoRow : OpenClaim := { program := "ytigecfbmdbpbhaa", sum := "39696cb9cf01b81a8b2e2499eaa63c7786a231b5b04afed511664e55b7e6686c", func := "loop.example/g01988/laws.FnExactIsSearched", spec := "fnExactIsSearched", unfollowed := true, recurses := true, apart := false, narrowed := true }
def FnExactIsSearchedUptoSaid : Prop := fnExactIsSearchedUptoRow.holds Try.pinned (OpenSpec.upto fnExactIsSearchedSpec)

/-- 'laws.FnExactEqualSearches', WHERE WHAT IT READS IS OF BULK AT MOST 1048576: true; the input reads as it did. -/
def fnExactEqualSearchesUptoRow : OpenClaim := { program := "ytigecfbmdbpbhaa", sum := "39696cb9cf01b81a8b2e2499eaa63c7786a231b5b04afed511664e55b7e6686c", func := "loop.example/g01988/laws.FnExactEqualSearches", spec := "fnExactEqualSearches", unfollowed := true, recurses := true, apart := false, narrowed := true }
def FnExactEqualSearchesUptoSaid : Prop := fnExactEqualSearchesUptoRow.holds Try.pinned (OpenSpec.upto fnExactEqualSearchesSpec)

end Rows
end Go.Proofs.Ytigecfbmdbpbhaa
