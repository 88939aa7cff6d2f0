/- What the draws of chapter 3 return: rows and tables. Conditions: the code is a readable slice of at most 1048576 bytes. -/
import Derived.Test.YtchdceglcjjggaaSetsDraw
import Derived.Test.YtchdceglcjjggaaTabs4
namespace Go.Proofs.Ytchdceglcjjggaa
open Go.RowKit

def CurRow (W : World) (v : Value) (n c : Nat) (k : Nat) (wide : Int) (w : World) (e : Ending) (w' : World) : Prop :=
  ∃ u l, e = .returned u ∧ l.length = k ∧ (∀ x ∈ l, -1 ≤ x ∧ x < wide) ∧ OwnI w' w.heap.size u l ∧ w.grownBy w' (some c) ∧ Cur W v n c w'
set_option maxHeartbeats 1600000 in
theorem row_any (W : World) (v : Value) (n : Nat) (hn : n ≤ 1048576) (hcode : CodeAt W v n) (c : Nat) (w : World) (hcur : Cur W v n c w) (k : Nat) (hk : k ≤ 1000) (wide : Int) (h1 : 1 ≤ wide) (h2 : wide ≤ 1000000) :
    Calls Try.prog 81 #[.pointer (some ⟨c, 0, none⟩), .int .i64 (k : Int), .int .i64 wide] w (CurRow W v n c k wide w) := by
  have HB := Lib.hid (below_any W v n hn hcode c)
  have HO := Lib.hid (once_any W v n hn hcode c)
  obtain ⟨i0, hi, hz0, hz1, hz2⟩ := info_parts info3j
  have HI : Hid (_ ∧ _ ∧ _ ∧ _) := Lib.hid ⟨hi, hz0, hz1, hz2⟩
  clear hi hz0 hz1 hz2
  have hcw := hcur.lt
  have hWc : W.heap.size ≤ c := by obtain ⟨_, _, h, _⟩ := hcur; exact h
  have hcur0 := hcur.kept (World.grownBy_alloc w (.cells #[] 3) none) (by simp) (by simp)
  have hown0 : OwnI (w.alloc (.cells #[] 3)) w.heap.size (.slice (some ⟨w.heap.size, 0, none⟩) 0 0) [] :=
    OwnI.made (World.ownsRow_made w #[] 0 (Nat.le_refl _) (by unfold maxLen; omega) rfl)
  have hg0 : w.grownBy (w.alloc (.cells #[] 3)) (some c) := World.grownBy_alloc w _ _
  go_enter Try.func81, Try.ntmps81
  go_wp2_with fail
  go_loopw [7, 8] (fun ov iv wr => ∃ (j : Nat) (l : List Int), j ≤ k ∧ iv = .int .i64 (j : Int) ∧ Hid (l.length = j ∧ ∀ x ∈ l, -1 ≤ x ∧ x < wide) ∧ OwnI wr w.heap.size ov l ∧ w.grownBy wr (some c) ∧ Cur W v n c wr) (fun _ iv _ => k - (intOf iv).toNat)
  case atStart => exact ⟨0, [], by omega, rfl, Lib.hid ⟨rfl, by simp⟩, hown0, hg0, hcur0⟩
  case round =>
    clear hown0 hg0 hcur0
    obtain ⟨j, l, hj, rfl, hL, ho, hg, hc⟩ := hrel
    have hll : l.length = j := hL.out.1
    by_cases hlt : j < k
    · have z0 : (0 : Int) ≤ (j : Int) := by omega
      have z1 : (j : Int) < (k : Int) := by omega
      clear hll
      go_wp2_with fail
      refine (HB.out _ hc wide (by omega) (by omega)).mono ?_
      rintro e w1 ⟨x, x0, x1, rfl, g1, hc1⟩
      have ho1 := ho.keptBy g1 (fun g h e => by cases h; have := (ho.lt c e).1; omega)
      have hg1 := grown_trans hg g1
      clear g1 hc ho hg
      go_wp2_with fail
      refine (HO.out _ hc1 12 (by omega) (by omega)).mono ?_
      rintro e w2 ⟨b, rfl, g2, hc2⟩
      have ho2 := ho1.keptBy g2 (fun g h e => by cases h; have := (ho1.lt c e).1; omega)
      have hg2 := grown_trans hg1 g2
      clear g2 hc1 ho1 hg1
      have hlm : l.length ≤ 1000 := by have := hL.out.1; omega
      cases b with
      | true =>
        go_wp2_with (at_builtin; refine wpList_append_own _ rfl _ _ 29 rfl w.heap.size 3 i0 (.int .i64 0) 1 8 Try.underlying29 HI.out.1 HI.out.2.1 HI.out.2.2.1 HI.out.2.2.2 rfl (by decide) _ _ _ rfl (World.ownsRow.alloc ho2 _) ⟨w2.heap.size, 0, none⟩ 1 1 [.int .i64 (-1)] rfl rfl (cell_one_new _ _ _) (one_i64 _) (by unfold maxLen; omega) (by omega) (le_of_grown hg2 _) ?_; intro v' w4 hown' hgrow _)
        have ho4 := OwnI.snoc hown'
        have hg4 := grown_above (grown_trans hg2 (World.grownBy_alloc w2 _ _)) hgrow (fun g h => (OwnI.lt ho2 g h).1)
        have hc4 := (hc2.kept (World.grownBy_alloc w2 _ none) (by simp) (by simp)).kept hgrow (fun g h => by have := (OwnI.lt ho2 g h).1; omega) (fun h => by have := (OwnI.lt ho2 c h).1; omega)
        clear hown' hgrow
        go_wp2_with fail
        go_roundw
        case rel => exact ⟨j + 1, _, by omega, by go_num, Lib.hid ⟨by simp [hL.out.1], fun y hy => by
          rcases List.mem_append.1 hy with h | h
          · exact hL.out.2 y h
          · simp at h; omega⟩, ho4, hg4, hc4⟩
        case measure => simp [intOf]; omega
      | false =>
        go_wp2_with (at_builtin; refine wpList_append_own _ rfl _ _ 29 rfl w.heap.size 3 i0 (.int .i64 0) 1 8 Try.underlying29 HI.out.1 HI.out.2.1 HI.out.2.2.1 HI.out.2.2.2 rfl (by decide) _ _ _ rfl (World.ownsRow.alloc ho2 _) ⟨w2.heap.size, 0, none⟩ 1 1 [.int .i64 x] rfl rfl (cell_one_new _ _ _) (one_i64 _) (by unfold maxLen; omega) (by omega) (le_of_grown hg2 _) ?_; intro v' w4 hown' hgrow _)
        have ho4 := OwnI.snoc hown'
        have hg4 := grown_above (grown_trans hg2 (World.grownBy_alloc w2 _ _)) hgrow (fun g h => (OwnI.lt ho2 g h).1)
        have hc4 := (hc2.kept (World.grownBy_alloc w2 _ none) (by simp) (by simp)).kept hgrow (fun g h => by have := (OwnI.lt ho2 g h).1; omega) (fun h => by have := (OwnI.lt ho2 c h).1; omega)
        clear hown' hgrow
        go_wp2_with fail
        go_roundw
        case rel => exact ⟨j + 1, _, by omega, by go_num, Lib.hid ⟨by simp [hL.out.1], fun y hy => by
          rcases List.mem_append.1 hy with h | h
          · exact hL.out.2 y h
          · simp at h; omega⟩, ho4, hg4, hc4⟩
        case measure => simp [intOf]; omega
    · obtain rfl : j = k := by omega
      have hL2 := hL.out.2
      clear hll
      go_wp2_with fail
      go_ret
      exact ⟨_, _, rfl, hL.out.1, hL2, ho, hg, hc⟩
end Go.Proofs.Ytchdceglcjjggaa
