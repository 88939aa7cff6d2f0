/- The model's RunSearch, by contract. Conditions: as stated. -/
import Derived.Test.YtigecfbmdbpbhaaGreatSmDm
import Derived.Test.YtigecfbmdbpbhaaGreatSb23
import Derived.Deep.LoopGhost
namespace Go.Proofs.YtigecfbmdbpbhaaGreat
open Go.RowKit

section
set_option maxRecDepth 20000
set_option maxHeartbeats 3200000
end
end Go.Proofs.YtigecfbmdbpbhaaGreat
