/- The program's filtered over dependencies, once for each test that it is given, by contract. Conditions: as stated. -/
import Derived.Test.YtlecfkfcjhliiaaWb11
import Derived.Test.YtlecfkfcjhliiaaWb12
import Derived.Maps.AppendAt
namespace Go.Proofs.Ytlecfkfcjhliiaa
open Go.RowKit

end Go.Proofs.Ytlecfkfcjhliiaa
