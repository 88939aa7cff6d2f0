/- Sets of columns: the model's functions of chapter 2, by contract. Conditions: none (invalid sets are separate cases). -/
import Derived.Test.YtkaalgbcdcbgoaaDoorLeaf
import Derived.Test.YtkaalgbcdcbgoaaDoorInts
import Derived.Test.YtkaalgbcdcbgoaaDoorBits
namespace Go.Proofs.YtkaalgbcdcbgoaaDoor
open Go.RowKit

theorem i64_and_1 (n : Int) : bits .and .i64 n 1 = n % 2 := by
  have h : (BitVec.ofInt 64 1).toNat = 2 ^ 1 - 1 := by decide
  have key : (BitVec.ofInt 64 n &&& BitVec.ofInt 64 1).toNat = (n % ((2 ^ 64 : Nat) : Int)).toNat % 2 ^ 1 := by
    rw [BitVec.toNat_and, BitVec.toNat_ofInt, h, Nat.and_two_pow_sub_one_eq_mod]
  show IntKind.i64.wrap ((BitVec.ofInt 64 n &&& BitVec.ofInt 64 1).toNat : Nat) = n % 2
  rw [key, IntKind.wrap_i64]
  omega
/-- Column k is in the set X. -/
def bitB (X k : Nat) : Bool := X / 2 ^ k % 2 == 1
theorem bit_test (X k : Nat) : (bits BinOp.and IntKind.i64 ((X : Int) / 2 ^ k) 1 == 1) = bitB X k := by
  rw [i64_and_1]
  have e : (X : Int) / 2 ^ k % 2 = ((X / 2 ^ k % 2 : Nat) : Int) := by
    rw [Int.natCast_emod, Int.natCast_ediv, Int.natCast_pow]; rfl
  rw [e]; unfold bitB
  rw [Bool.eq_iff_iff, beq_iff_eq, beq_iff_eq]; omega
def memN (X k : Nat) : List Int := ((List.range k).filter (bitB X)).map fun (i : Nat) => (i : Int)
theorem memN_succ (X k : Nat) : memN X (k + 1) = if bitB X k = true then memN X k ++ [(k : Int)] else memN X k := by
  unfold memN
  rw [List.range_succ, List.filter_append, List.map_append]
  by_cases h : bitB X k = true
  · rw [if_pos h]; simp [h]
  · rw [if_neg h]; simp [h]
theorem memN_len (X k : Nat) : (memN X k).length ≤ k := by
  have := List.length_filter_le (bitB X) (List.range k)
  simpa [memN] using this
/-- The members of x, as a list; none if x is no set of columns. -/
def mems (x : Int) : List Int := if 0 ≤ x ∧ x ≤ 31 then memN x.toNat 5 else []
theorem mems_len (x : Int) : (mems x).length ≤ 5 := by unfold mems; split; exact memN_len _ _; simp
theorem info3i : (Tryd.prog.info? 3).map (fun i => (i.zero, i.size, i.bytes)) = some (some (.int .i64 0), 1, 8) := by kernel_rfl
/-- A result that is a slice of ints of the call's own. -/
def RetI (l : List Int) (w : World) (e : Ending) (w' : World) : Prop := ∃ v, e = .returned v ∧ OwnI w' w.heap.size v l ∧ Below w.heap.size w w'

/-- x is a set of the first n columns. -/
def isA (n x : Int) : Bool := decide ((0 ≤ n ∧ n ≤ 5) ∧ 0 ≤ x ∧ x ≤ 2 ^ n.toNat - 1)
def valB (x : Int) : Bool := decide (0 ≤ x ∧ x ≤ 31)
end Go.Proofs.YtkaalgbcdcbgoaaDoor
