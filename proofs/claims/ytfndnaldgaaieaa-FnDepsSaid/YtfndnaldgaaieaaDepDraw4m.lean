/- A string is spoilt by the draw: a byte out, in, changed, or the rest cut off. Conditions: the code is a readable slice of at most 1048576 bytes. -/
import Derived.Test.YtfndnaldgaaieaaSh12
namespace Go.Proofs.Ytfndnaldgaaieaa
open Go.RowKit

theorem ex_size (s : ByteArray) (i j : Nat) (hi : i ≤ j) (hj : j ≤ s.size) : (s.extract i j).size = j - i := by rw [ByteArray.size_extract]; omega
set_option maxHeartbeats 3200000 in
set_option maxRecDepth 20000 in
theorem spoil_any (W : World) (v : Value) (n : Nat) (hn : n ≤ 1048576) (hcode : CodeAt W v n) (c : Nat) (w : World) (hcur : Cur W v n c w) (s : ByteArray) (hs : s.size ≤ 1000) :
    Calls Try.prog 34 #[.pointer (some ⟨c, 0, none⟩), .string s] w (CurStr W v n c 1001 w) := by
  have HB := Lib.hid (below_any W v n hn hcode c)
  have HY := Lib.hid (byte_any W v n hn hcode c)
  have HT := Lib.hid (text_any W v n hn hcode c)
  by_cases h0 : s.size = 0
  · go_enter Try.func34, Try.ntmps34
    go_wp2_with fail
    refine (HT.out w hcur 3 (by omega) (by omega)).mono ?_
    rintro e w1 ⟨t, ht, rfl, g1, hc1⟩
    go_wp2_with fail
    go_ret
    exact ⟨t, by omega, rfl, g1, hc1⟩
  · have hI : ¬ (s.size : Int) = 0 := by omega
    go_enter Try.func34, Try.ntmps34
    go_wp2_with fail
    refine (HB.out w hcur s.size (by omega) (by omega)).mono ?_
    rintro e w1 ⟨k, k0, k1, rfl, g1, hcA⟩
    obtain ⟨j, rfl⟩ := Int.eq_ofNat_of_zero_le k0
    have hj : j < s.size := by omega
    go_wp2_with fail
    refine (HB.out w1 hcA 4 (by omega) (by omega)).mono ?_
    rintro e w2 ⟨z, z0, z1, rfl, g2, hc2⟩
    have hw1 : IntKind.i64.wrap ((j : Int) + 1) = ((j + 1 : Nat) : Int) := by rw [IntKind.wrap_i64]; omega
    have j0 : (j : Int) ≤ (s.size : Int) := by omega
    have j1 : ((j + 1 : Nat) : Int) ≤ (s.size : Int) := by omega
    have j2 : (0 : Int) ≤ ((j + 1 : Nat) : Int) := by omega
    have j3 : (j : Int) < (s.size : Int) := by omega
    have hc1 := @conv_one Try.prog 5 22 9 Try.underlying22 Try.underlying5 Try.underlying9
    have S1 := Lib.hid (ex_size s 0 j (Nat.zero_le _) (by omega))
    have S2 := Lib.hid (ex_size s (j + 1) s.size (by omega) (Nat.le_refl _))
    have S3 := Lib.hid (ex_size s j s.size (by omega) (Nat.le_refl _))
    have a1 : ¬ 9223372036854775807 < min j s.size + (s.size - (j + 1)) := by omega
    have j4 : (0 : Int) ≤ (j : Int) + 1 := by omega
    have j5 : (j : Int) + 1 ≤ (s.size : Int) := by omega
    have HG := Lib.hid (grown_trans g1 g2)
    have HC2 := Lib.hid hc2
    have HGD : Hid (w.grownBy w2.drew (some c)) := Lib.hid ⟨HG.out.os, HG.out.tape, HG.out.output, HG.out.size, HG.out.block⟩
    have HC3 : Hid (Cur W v n c w2.drew) := Lib.hid (hc2.kept (row := none) ⟨rfl, rfl, rfl, Nat.le_refl _, fun _ _ _ => rfl⟩ (by simp) (by simp))
    clear g1 g2
    rcases (show z = 0 ∨ z = 1 ∨ z = 2 ∨ z = 3 by omega) with rfl | rfl | rfl | rfl
    · go_wp2_with fail
      go_quiet (fail)
      all_goals go_wp2_with fail
      all_goals go_ret
      all_goals exact ⟨s.extract 0 j ++ s.extract (j + 1) s.size, by rw [ByteArray.size_append, S1.out, S2.out]; omega, rfl, ⟨HG.out.os, HG.out.tape, HG.out.output, HG.out.size, HG.out.block⟩, HC2.out.kept (row := none) ⟨rfl, rfl, rfl, Nat.le_refl _, fun _ _ _ => rfl⟩ (by simp) (by simp)⟩
    · go_wp2_with fail
      go_region_law (go_simp; go_at_call 59; refine (HY.out w2.drew HC3.out).mono ?_; rintro e w3 ⟨b, b0, b1, rfl, g3, hc3⟩; have A2 : Hid ((strOfNums [IntKind.u8.wrap b]).size = 1) := Lib.hid (by rw [strOfNums_size]; rfl); have a3 : ¬ 9223372036854775807 < min j s.size + (strOfNums [IntKind.u8.wrap b]).size := (by have := A2.out; omega); have a4 : ¬ 9223372036854775807 < min j s.size + (strOfNums [IntKind.u8.wrap b]).size + (s.size - j) := (by have := A2.out; omega))
      all_goals go_wp2_with fail
      all_goals exact bodyPost_ret (v := .string (s.extract 0 j ++ strOfNums [IntKind.u8.wrap b] ++ s.extract j s.size)) (by simp [results, Try.results34, go_sem]) rfl ⟨_, by rw [ByteArray.size_append, ByteArray.size_append, S1.out, A2.out, S3.out]; omega, rfl, grown_trans HGD.out (grown_trans g3 (World.grownBy_alloc w3 _ _)), hc3.kept (World.grownBy_alloc w3 _ none) (by simp) (by simp)⟩
    · go_wp2_with fail
      go_ret
      exact ⟨_, by rw [S1.out]; omega, rfl, HG.out, HC2.out⟩
    · have A2 : ∀ y : Int, (strOfNums [y]).size = 1 := fun y => by rw [strOfNums_size]; rfl
      have a3 : ∀ y : Int, ¬ 9223372036854775807 < min j s.size + (strOfNums [y]).size := fun y => by have := A2 y; omega
      have a4 : ∀ y : Int, ¬ 9223372036854775807 < min j s.size + (strOfNums [y]).size + (s.size - (j + 1)) := fun y => by have := A2 y; omega
      replace A2 := Lib.hid A2
      go_wp2_with fail
      go_region_law (go_simp; go_at_call 32; refine (HB.out w2.drew HC3.out 255 (by omega) (by omega)).mono ?_; rintro e w3 ⟨b, b0, b1, rfl, g3, hc3⟩; have hb1 : IntKind.i64.wrap (1 + b) = 1 + b := (by rw [IntKind.wrap_i64]; omega))
      all_goals go_wp2_with fail
      all_goals exact bodyPost_ret (v := .string (s.extract 0 j ++ strOfNums [IntKind.u8.wrap (bits .xor .i64 (IntKind.i64.wrap ((s[j]'hj).toNat : Int)) (1 + b))] ++ s.extract (j + 1) s.size)) (by simp [results, Try.results34, go_sem]) rfl ⟨_, by rw [ByteArray.size_append, ByteArray.size_append, S1.out, A2.out, S2.out]; omega, rfl, grown_trans HGD.out (grown_trans g3 (World.grownBy_alloc w3 _ _)), hc3.kept (World.grownBy_alloc w3 _ none) (by simp) (by simp)⟩
end Go.Proofs.Ytfndnaldgaaieaa
