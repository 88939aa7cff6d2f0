/- What the draws of chapter 2 return: sets and numbers of columns near their limits. Conditions: the code is a readable slice of at most 1048576 bytes. -/
import Derived.Test.YtchdceglcjjggaaDraw3
import Derived.Test.YtchdceglcjjggaaSets
namespace Go.Proofs.Ytchdceglcjjggaa
open Go.RowKit

def CurBool (W : World) (v : Value) (n c : Nat) (w : World) (e : Ending) (w' : World) : Prop :=
  ∃ b : Bool, e = .returned (.bool b) ∧ w.grownBy w' (some c) ∧ Cur W v n c w'
theorem once_any (W : World) (v : Value) (n : Nat) (hn : n ≤ 1048576) (hcode : CodeAt W v n) (c : Nat) (w : World) (hcur : Cur W v n c w) (m : Int) (h1 : 1 ≤ m) (h2 : m ≤ 4294967296) :
    Calls Try.prog 69 #[.pointer (some ⟨c, 0, none⟩), .int .i64 m] w (CurBool W v n c w) := by
  have HB := Lib.hid (below_any W v n hn hcode c w hcur m h1 h2)
  go_enter Try.func69, Try.ntmps69
  go_wp2_with fail
  refine HB.out.mono ?_
  rintro e w1 ⟨x, x0, x1, rfl, g1, hc1⟩
  go_wp2_with fail
  go_ret
  exact ⟨_, rfl, g1, hc1⟩
theorem pick4 (w : World) (C : Array Value) (hC : C = #[.int .i64 (-1), .int .i64 31, .int .i64 32, .int .i64 33]) (t : TypeId) :
    ∀ i, i < 4 → ∃ y : Int, -1 ≤ y ∧ y ≤ 33 ∧ (w.alloc (.cells C t)).cell? ⟨w.heap.size, i, none⟩ = some (.int .i64 y) := by
  intro i hi
  have e : (w.alloc (.cells C t)).cell? ⟨w.heap.size, i, none⟩ = C[i]? := World.cell?_alloc_mark w C t (0, 0) i
  rw [e, hC]
  rcases (show i = 0 ∨ i = 1 ∨ i = 2 ∨ i = 3 by omega) with rfl | rfl | rfl | rfl
  all_goals (refine ⟨_, ?_, ?_, rfl⟩ <;> decide)
set_option maxHeartbeats 800000 in
theorem anySet_any (W : World) (v : Value) (n : Nat) (hn : n ≤ 1048576) (hcode : CodeAt W v n) (c : Nat) (w : World) (hcur : Cur W v n c w) :
    Calls Try.prog 77 #[.pointer (some ⟨c, 0, none⟩)] w (CurInt W v n c (-1) 33 w) := by
  have HO := Lib.hid (once_any W v n hn hcode c)
  have HB := Lib.hid (below_any W v n hn hcode c)
  have HP := Lib.hid (pick_any W v n hn hcode c)
  go_enter Try.func77, Try.ntmps77
  go_wp2_with fail
  refine (HO.out _ hcur 8 (by omega) (by omega)).mono ?_
  rintro e w1 ⟨b, rfl, g1, hc1⟩
  cases b with
  | true =>
    have hlt := hc1.lt
    have hc2 : ∀ o, Cur W v n c (w1.alloc o) := fun o => hc1.kept (World.grownBy_alloc w1 o none) (by simp) (by simp)
    have HC2 := Lib.hid hc2
    clear hc2
    go_wp2_with fail
    refine (HP.out _ (HC2.out _) w1.heap.size 4 _ _ (by omega) (by omega) (by omega) (by simp) (pick4 w1 _ rfl _)).mono ?_
    rintro e w2 ⟨y, y0, y1, rfl, g2, hc3⟩
    go_wp2_with fail
    go_ret
    exact ⟨y, y0, y1, rfl, grown_trans (grown_trans g1 (World.grownBy_alloc w1 _ _)) g2, hc3⟩
  | false =>
    go_wp2_with fail
    refine (HB.out _ hc1 32 (by omega) (by omega)).mono ?_
    rintro e w2 ⟨y, y0, y1, rfl, g2, hc2⟩
    go_wp2_with fail
    go_ret
    exact ⟨_, by omega, by omega, rfl, grown_trans g1 g2, hc2⟩
theorem or_bd (a b : Int) : -9223372036854775808 ≤ bits .or .i64 a b ∧ bits .or .i64 a b ≤ 9223372036854775807 := by
  rw [show bits .or .i64 a b = IntKind.i64.wrap ((BitVec.ofInt 64 a ||| BitVec.ofInt 64 b).toNat : Int) from rfl, IntKind.wrap_i64]; omega
def TwoAny (w : World) (e : Ending) (w' : World) : Prop := ∃ x y : Int, -1 ≤ x ∧ x ≤ 33 ∧ -9223372036854775808 ≤ y ∧ y ≤ 9223372036854775807 ∧ e = .returned (.tuple #[.int .i64 x, .int .i64 y]) ∧ Below w.heap.size w w'
end Go.Proofs.Ytchdceglcjjggaa
