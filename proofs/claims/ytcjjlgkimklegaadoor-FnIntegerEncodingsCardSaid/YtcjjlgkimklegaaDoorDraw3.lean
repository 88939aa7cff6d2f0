/- The drawing functions of chapter 1 that the laws call, by contract. Conditions: as stated. -/
import Derived.Test.YtcjjlgkimklegaaDoorDraw2
import Derived.ChangeOld
import Derived.Below
namespace Go.Proofs.YtcjjlgkimklegaaDoor
open Go.RowKit

theorem wf_u8_bd {n : Int} (h : (Lit.int .u8 n).wf = true) : 0 ≤ n ∧ n ≤ 255 := by
  simp [Lit.wf, IntKind.max, IntKind.min, IntKind.bits, IntKind.signed] at h; omega
theorem big_any (v : Value) (n : Nat) (hv : ∃ a cap, v = .slice a n cap) (w : World) :
    Calls Tryd.prog 6 #[v] w fun e w' => e = .returned (.bool (decide (1048576 < (n : Int)))) ∧ w = w' := by
  obtain ⟨a, cap, rfl⟩ := hv
  go_enter Tryd.func6, Tryd.ntmps6
  go_wp2_with fail
  go_ret
  exact ⟨rfl, rfl⟩
theorem code_slice {W : World} {v : Value} {n : Nat} (h : CodeAt W v n) : ∃ a cap, v = .slice a n cap := by
  rcases h with ⟨rfl, rfl⟩ | ⟨x, cap, rfl, _, _⟩
  · exact ⟨_, _, rfl⟩
  · exact ⟨_, _, rfl⟩
theorem below_of_grown {w w1 w2 : World} {c : Nat} (h1 : w.grownBy w1 none) (h2 : w1.grownBy w2 (some c)) (hc : w.heap.size ≤ c) : Below w.heap.size w w2 :=
  ((Below.refl _ w).grown h1 (Nat.le_refl _) (by simp)).grown h2 h1.size (fun k hk => by simp at hk; omega)

def IntIn (lo hi : Int) (w : World) (e : Ending) (w' : World) : Prop := ∃ x : Int, lo ≤ x ∧ x ≤ hi ∧ e = .returned (.int .i64 x) ∧ Below w.heap.size w w'
def TwoIn (lo hi lo' hi' : Int) (w : World) (e : Ending) (w' : World) : Prop := ∃ x y : Int, lo ≤ x ∧ x ≤ hi ∧ lo' ≤ y ∧ y ≤ hi' ∧ e = .returned (.tuple #[.int .i64 x, .int .i64 y]) ∧ Below w.heap.size w w'
def StrIn (most : Int) (w : World) (e : Ending) (w' : World) : Prop := ∃ s : ByteArray, (s.size : Int) ≤ most ∧ e = .returned (.string s) ∧ Below w.heap.size w w'

theorem drawEncodeVarint_any (W : World) (v : Value) (n : Nat) (hn : n ≤ 1048576) (hcode : CodeAt W v n) (w : World) (hb : Below W.heap.size W w) :
    Calls Tryd.prog 7 #[v] w (IntIn (-9223372036854775808) 9223372036854775807 w) := by
  have H1 := Lib.hid (new_any W v n hn hcode w hb)
  have H2 := Lib.hid (num_any W v n hn hcode)
  obtain ⟨a, cap, rfl⟩ := code_slice hcode
  go_enter Tryd.func7, Tryd.ntmps7
  go_wp2_with fail
  refine H1.out.mono ?_
  rintro e w1 ⟨c, hc, rfl, g1, hc1⟩
  go_wp2_with fail
  refine (H2.out c w1 hc1).mono ?_
  rintro e w2 ⟨x, x0, x1, rfl, g2, _⟩
  go_wp2_with fail
  go_ret
  exact ⟨x, x0, x1, rfl, below_of_grown g1 g2 hc⟩
theorem drawEncodeHex_any (W : World) (v : Value) (n : Nat) (hn : n ≤ 1048576) (hcode : CodeAt W v n) (w : World) (hb : Below W.heap.size W w) :
    Calls Tryd.prog 8 #[v] w (StrIn 40 w) := by
  have H1 := Lib.hid (new_any W v n hn hcode w hb)
  have H2 := Lib.hid (text_any W v n hn hcode)
  obtain ⟨a, cap, rfl⟩ := code_slice hcode
  go_enter Tryd.func8, Tryd.ntmps8
  go_wp2_with fail
  refine H1.out.mono ?_
  rintro e w1 ⟨c, hc, rfl, g1, hc1⟩
  go_wp2_with fail
  refine (H2.out c w1 hc1 40 (by omega) (by omega)).mono ?_
  rintro e w2 ⟨x, x1, rfl, g2, _⟩
  go_wp2_with fail
  go_ret
  exact ⟨x, x1, rfl, below_of_grown g1 g2 hc⟩
theorem drawEncodeFixed_any (W : World) (v : Value) (n : Nat) (hn : n ≤ 1048576) (hcode : CodeAt W v n) (w : World) (hb : Below W.heap.size W w) :
    Calls Tryd.prog 11 #[v] w (TwoIn (-9223372036854775808) 9223372036854775807 (-1) 8 w) := by
  have H1 := Lib.hid (new_any W v n hn hcode w hb)
  have H2 := Lib.hid (num_any W v n hn hcode)
  have H3 := Lib.hid (below_any W v n hn hcode)
  obtain ⟨a, cap, rfl⟩ := code_slice hcode
  go_enter Tryd.func11, Tryd.ntmps11
  go_wp2_with fail
  refine H1.out.mono ?_
  rintro e w1 ⟨c, hc, rfl, g1, hc1⟩
  go_wp2_with fail
  refine (H2.out c w1 hc1).mono ?_
  rintro e w2 ⟨x, x0, x1, rfl, g2, hc2⟩
  go_wp2_with fail
  refine (H3.out c w2 hc2 10 (by omega) (by omega)).mono ?_
  rintro e w3 ⟨y, y0, y1, rfl, g3, hc3⟩
  go_wp2_with fail
  go_ret2
  exact ⟨x, y - 1, x0, x1, by omega, by omega, rfl, below_of_grown g1 (grown_trans g2 g3) hc⟩
end Go.Proofs.YtcjjlgkimklegaaDoor
