/- FormatInt of the program, by contract: the decimal numeral of every int. Conditions: the library's table of powers of ten reads as its initialiser lays it. -/
import Derived.Test.YtkaalgbcdcbgoaaDoorFmt
import Derived.Test.YtkaalgbcdcbgoaaDoorShelf
import Derived.Lib.AppendIntMem
namespace Go.Proofs.YtkaalgbcdcbgoaaDoor
open Go.RowKit

/-- The table of powers of ten stands, whatever is done beyond block B. -/
def Tab (B : Nat) (w : World) : Prop := Lib.TabBelow Tryd.prog B w "internal/strconv.uint64pow10" .u64 Lib.pow10Tab

theorem implFI (n : Int) (h0 : -9223372036854775808 ≤ n) (h1 : n ≤ 9223372036854775807) (B : Nat) (w : World) (hT : Tab B w) :
    Calls Tryd.prog 12 #[.int .i64 n] w fun e w' => e = .returned (.string (itoaB n)) ∧ Below w.heap.size w w' := by
  have HT := Lib.hid hT
  clear hT
  go_enter Tryd.func12, Tryd.ntmps12
  go_wp2_with fail
  refine (Tryd.strconv_Itoa n h0 h1 _ HT.out.here).mono ?_
  rintro e w' ⟨rfl, k, os, rfl⟩
  go_wp2_with fail
  go_ret
  exact ⟨rfl, Lib.below_grow _ _ (Nat.le_refl _) k os⟩
end Go.Proofs.YtkaalgbcdcbgoaaDoor
