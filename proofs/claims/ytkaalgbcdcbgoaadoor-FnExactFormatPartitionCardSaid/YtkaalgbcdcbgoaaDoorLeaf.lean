/- The leaf functions of chapter 1: isWidth, l1In, by contract. Conditions: none. -/
import Derived.Test.YtkaalgbcdcbgoaaDoorRows
import Derived.WalkKit
import Derived.ProofKit
import Derived.OpenShut
import Derived.ShutString
import Derived.BigQuiet
import Derived.Deep.QuietTactic
import Derived.Lib.Hide
import Derived.WalkSpells
import Derived.WalkLawsBesides
namespace Go.Proofs.YtkaalgbcdcbgoaaDoor
open Go.RowKit

end Go.Proofs.YtkaalgbcdcbgoaaDoor
