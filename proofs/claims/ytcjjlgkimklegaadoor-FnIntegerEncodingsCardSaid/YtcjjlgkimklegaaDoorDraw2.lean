/- The drawing functions of chapter 1 of the model's package, by contract: numbers and texts in range. Conditions: as stated. -/
import Derived.Test.YtcjjlgkimklegaaDoorDraw
import Derived.Maps.AppendAt
namespace Go.Proofs.YtcjjlgkimklegaaDoor
open Go.RowKit

theorem pick17 (w : World) (C : Array Value) (hC : C = #[.int .i64 (-1), .int .i64 0, .int .i64 127, .int .i64 128, .int .i64 255, .int .i64 256, .int .i64 16383, .int .i64 16384, .int .i64 65535, .int .i64 65536, .int .i64 562949953421311, .int .i64 562949953421312, .int .i64 999999999, .int .i64 1000000000, .int .i64 (-999999999), .int .i64 9223372036854775807, .int .i64 (-9223372036854775808)]) (t : TypeId) :
    ∀ i, i < 17 → ∃ y : Int, -9223372036854775808 ≤ y ∧ y ≤ 9223372036854775807 ∧ (w.alloc (.cells C t)).cell? ⟨w.heap.size, i, none⟩ = some (.int .i64 y) := by
  intro i hi
  have e : (w.alloc (.cells C t)).cell? ⟨w.heap.size, i, none⟩ = C[i]? := World.cell?_alloc_mark w C t (0, 0) i
  rw [e, hC]
  rcases (show i = 0 ∨ i = 1 ∨ i = 2 ∨ i = 3 ∨ i = 4 ∨ i = 5 ∨ i = 6 ∨ i = 7 ∨ i = 8 ∨ i = 9 ∨ i = 10 ∨ i = 11 ∨ i = 12 ∨ i = 13 ∨ i = 14 ∨ i = 15 ∨ i = 16 by omega) with rfl | rfl | rfl | rfl | rfl | rfl | rfl | rfl | rfl | rfl | rfl | rfl | rfl | rfl | rfl | rfl | rfl
  all_goals (refine ⟨_, ?_, ?_, rfl⟩ <;> decide)

set_option maxHeartbeats 1600000 in
theorem num_any (W : World) (v : Value) (n : Nat) (hn : n ≤ 1048576) (hcode : CodeAt W v n) (c : Nat) (w : World) (hcur : Cur W v n c w) :
    Calls Tryd.prog 22 #[.pointer (some ⟨c, 0, none⟩)] w (CurInt W v n c (-9223372036854775808) 9223372036854775807 w) := by
  have HB := Lib.hid (below_any W v n hn hcode c)
  have HP := Lib.hid (pick_any W v n hn hcode c)
  go_enter Tryd.func22, Tryd.ntmps22
  go_wp2_with fail
  refine (HB.out _ hcur 8 (by omega) (by omega)).mono ?_
  rintro e w1 ⟨x, x0, x1, rfl, g1, hc1⟩
  by_cases h0 : x = 0
  · subst h0
    have hlt := hc1.lt
    have hc2 : ∀ o, Cur W v n c (w1.alloc o) := fun o => hc1.kept (World.grownBy_alloc w1 o none) (by simp) (by simp)
    have HC2 := Lib.hid hc2
    clear hc2
    go_wp2_with fail
    refine (HP.out _ (HC2.out _) w1.heap.size 17 _ _ (by omega) (by omega) (by omega) (by simp) (pick17 w1 _ rfl _)).mono ?_
    rintro e w2 ⟨y, y0, y1, rfl, g2, hc3⟩
    go_wp2_with fail
    go_ret
    exact ⟨y, y0, y1, rfl, grown_trans (grown_trans g1 (World.grownBy_alloc w1 _ _)) g2, hc3⟩
  · have e0 : (x == 0) = false := by simpa using h0
    by_cases h1 : x = 1
    · subst h1
      go_wp2_with fail
      refine (HB.out _ hc1 1000000000 (by omega) (by omega)).mono ?_
      rintro e w2 ⟨y, y0, y1, rfl, g2, hc2⟩
      go_wp2_with fail
      refine (HB.out _ hc2 1000000000 (by omega) (by omega)).mono ?_
      rintro e w3 ⟨z, z0, z1, rfl, g3, hc3⟩
      have hp0 : 0 ≤ y * z := Int.mul_nonneg y0 z0
      have hp1 : y * z ≤ 999999999 * 999999999 := Int.mul_le_mul y1 z1 z0 (by omega)
      have hp2 : y * z ≤ 999999998000000001 := by omega
      clear hp1
      go_wp2_with fail
      go_ret
      exact ⟨_, by omega, by omega, rfl, grown_trans (grown_trans g1 g2) g3, hc3⟩
    · have e1 : (x == 1) = false := by simpa using h1
      by_cases h2 : x = 2
      · subst h2
        go_wp2_with fail
        refine (HB.out _ hc1 100000 (by omega) (by omega)).mono ?_
        rintro e w2 ⟨y, y0, y1, rfl, g2, hc2⟩
        go_wp2_with fail
        go_ret
        exact ⟨_, by omega, by omega, rfl, grown_trans g1 g2, hc2⟩
      · have e2 : (x == 2) = false := by simpa using h2
        go_wp2_with fail
        refine (HB.out _ hc1 70000 (by omega) (by omega)).mono ?_
        rintro e w2 ⟨y, y0, y1, rfl, g2, hc2⟩
        go_wp2_with fail
        go_ret
        exact ⟨_, by omega, by omega, rfl, grown_trans g1 g2, hc2⟩

def CurStr (W : World) (v : Value) (n c : Nat) (most : Int) (w : World) (e : Ending) (w' : World) : Prop :=
  ∃ s : ByteArray, (s.size : Int) ≤ most ∧ e = .returned (.string s) ∧ w.grownBy w' (some c) ∧ Cur W v n c w'
theorem grown_above {a b d : World} {row row' : Option Nat} (h : a.grownBy b row) (k : b.grownBy d row') (hr : ∀ g, row' = some g → a.heap.size ≤ g) : a.grownBy d row :=
  ⟨k.os.trans h.os, k.tape.trans h.tape, k.output.trans h.output, Nat.le_trans h.size k.size, fun j hj hne => (k.block j (Nat.lt_of_lt_of_le hj h.size) (fun e => by have := hr j e.symm; omega)).trans (h.block j hj hne)⟩
theorem le_of_grown {w wr : World} {row : Option Nat} (h : w.grownBy wr row) (o : Obj) : w.heap.size ≤ (wr.alloc o).heap.size := by have := h.size; simp; omega
theorem info8d : (Tryd.prog.info? 5).map (fun i => (i.zero, i.size, i.bytes)) = some (some (.int .u8 0), 1, 1) := by kernel_rfl
theorem OwnB.keptBy {w w' : World} {B : Nat} {E : TypeId} {v : Value} {l : List UInt8} {row : Option Nat} (h : OwnB w B E v l) (hg : w.grownBy w' row) (hr : ∀ g, row = some g → g < B) : OwnB w' B E v l := by
  refine World.ownsRow.kept h hg ?_
  cases hv : v.ownBlock with
  | none => exact .inl rfl
  | some g => right; intro e; have h1 := hr g e.symm; have h2 := (OwnB.lt h g hv).1; omega

set_option maxHeartbeats 1600000 in
theorem text_any (W : World) (v : Value) (n : Nat) (hn : n ≤ 1048576) (hcode : CodeAt W v n) (c : Nat) (w : World) (hcur : Cur W v n c w) (most : Int) (hm0 : 0 ≤ most) (hm1 : most ≤ 1000000) :
    Calls Tryd.prog 23 #[.pointer (some ⟨c, 0, none⟩), .int .i64 most] w (CurStr W v n c most w) := by
  have HB := Lib.hid (below_any W v n hn hcode c)
  have HY := Lib.hid (byte_any W v n hn hcode c)
  obtain ⟨i0, hi, hz0, hz1, hz2⟩ := info_parts info8d
  have HI : Hid (_ ∧ _ ∧ _ ∧ _) := Lib.hid ⟨hi, hz0, hz1, hz2⟩
  clear hi hz0 hz1 hz2
  have hcw := hcur.lt
  have hWc : W.heap.size ≤ c := by obtain ⟨_, _, h, _⟩ := hcur; exact h
  have hcur0 := hcur.kept (World.grownBy_alloc w (.cells #[] 5) none) (by simp) (by simp)
  go_enter Tryd.func23, Tryd.ntmps23
  go_wp2_with fail
  refine (HB.out _ hcur0 4 (by omega) (by omega)).mono ?_
  rintro e w1 ⟨st, st0, st1, rfl, g1, hc1⟩
  go_wp2_with fail
  refine (HB.out _ hc1 (most + 1) (by omega) (by omega)).mono ?_
  rintro e w2 ⟨cnt, ct0, ct1, rfl, g2, hc2⟩
  have hown0 : OwnB w2 w.heap.size 5 (.slice (some ⟨w.heap.size, 0, none⟩) 0 0) [] :=
    ((OwnB.made (World.ownsRow_made w #[] 0 (Nat.le_refl _) (by unfold maxLen; omega) rfl)).keptBy g1 (fun g h => by simp at h; omega)).keptBy g2 (fun g h => by simp at h; omega)
  have hg0 : w.grownBy w2 (some c) := grown_trans (grown_trans (World.grownBy_alloc w _ _) g1) g2
  clear g1 g2 hc1 hcur0
  go_wp2_with fail
  go_loopw [5, 7] (fun ov nv wr => ∃ (k : Int) (l : List UInt8), 0 ≤ k ∧ (l.length : Int) + k ≤ most ∧ nv = .int .i64 k ∧ OwnB wr w.heap.size 5 ov l ∧ w.grownBy wr (some c) ∧ Cur W v n c wr) (fun _ nv _ => (intOf nv).toNat)
  case atStart => exact ⟨cnt, [], ct0, by simp; omega, rfl, hown0, hg0, hc2⟩
  case round =>
    clear hc2 hg0 hown0
    obtain ⟨k, l, hk0, hkl, rfl, ho, hg, hc⟩ := hrel
    by_cases hk : 0 < k
    · by_cases s1 : st = 1
      · subst s1
        go_wp2_with fail
        refine (HY.out _ hc).mono ?_
        rintro e w3 ⟨x, x0, x1, rfl, g3, hc3⟩
        have ho3 := ho.keptBy g3 (fun g h => by simp at h; omega)
        have hg3 := grown_trans hg g3
        clear ho hg hc g3
        go_wp2_with (at_builtin; refine wpList_append_own _ rfl _ _ 22 rfl w.heap.size 5 i0 (.int .u8 0) 1 1 Tryd.underlying22 HI.out.1 HI.out.2.1 HI.out.2.2.1 HI.out.2.2.2 rfl (by decide) _ _ _ rfl (World.ownsRow.alloc ho3 _) ⟨w3.heap.size, 0, none⟩ 1 1 [.int .u8 (x % 2)] rfl rfl (cell_one_new _ _ _) (one_u8 _) (by unfold maxLen; omega) (by omega) (le_of_grown hg3 _) ?_; intro v' w4 hown' hgrow _)
        have ho4 := OwnB.snoc (by omega) (by omega) hown'
        have hg4 := grown_above (grown_trans hg3 (World.grownBy_alloc w3 _ _)) hgrow (fun g h => (OwnB.lt ho3 g h).1)
        have hc4 := (hc3.kept (World.grownBy_alloc w3 _ none) (by simp) (by simp)).kept hgrow (fun g h => by have := (OwnB.lt ho3 g h).1; omega) (fun h => by have := (OwnB.lt ho3 c h).1; omega)
        clear hown' hgrow
        go_wp2_with fail
        go_roundw
        case rel => exact ⟨k - 1, _, by omega, by simp; omega, rfl, ho4, hg4, hc4⟩
        case measure => simp [intOf]; omega
      · have e1 : (st == 1) = false := by simpa using s1
        by_cases s2 : st = 2
        · subst s2
          go_wp2_with fail
          refine (HY.out _ hc).mono ?_
          rintro e w3 ⟨x, x0, x1, rfl, g3, hc3⟩
          have ho3 := ho.keptBy g3 (fun g h => by simp at h; omega)
          have hg3 := grown_trans hg g3
          clear ho hg hc g3
          go_wp2_with (at_builtin; refine wpList_append_own _ rfl _ _ 22 rfl w.heap.size 5 i0 (.int .u8 0) 1 1 Tryd.underlying22 HI.out.1 HI.out.2.1 HI.out.2.2.1 HI.out.2.2.2 rfl (by decide) _ _ _ rfl (World.ownsRow.alloc ho3 _) ⟨w3.heap.size, 0, none⟩ 1 1 [.int .u8 (97 + x % 4)] rfl rfl (cell_one_new _ _ _) (one_u8 _) (by unfold maxLen; omega) (by omega) (le_of_grown hg3 _) ?_; intro v' w4 hown' hgrow _)
          have ho4 := OwnB.snoc (by omega) (by omega) hown'
          have hg4 := grown_above (grown_trans hg3 (World.grownBy_alloc w3 _ _)) hgrow (fun g h => (OwnB.lt ho3 g h).1)
          have hc4 := (hc3.kept (World.grownBy_alloc w3 _ none) (by simp) (by simp)).kept hgrow (fun g h => by have := (OwnB.lt ho3 g h).1; omega) (fun h => by have := (OwnB.lt ho3 c h).1; omega)
          clear hown' hgrow
          go_wp2_with fail
          go_roundw
          case rel => exact ⟨k - 1, _, by omega, by simp; omega, rfl, ho4, hg4, hc4⟩
          case measure => simp [intOf]; omega
        · have e2 : (st == 2) = false := by simpa using s2
          go_wp2_with fail
          refine (HY.out _ hc).mono ?_
          rintro e w3 ⟨x, x0, x1, rfl, g3, hc3⟩
          have ho3 := ho.keptBy g3 (fun g h => by simp at h; omega)
          have hg3 := grown_trans hg g3
          clear ho hg hc g3
          go_wp2_with (at_builtin; refine wpList_append_own _ rfl _ _ 22 rfl w.heap.size 5 i0 (.int .u8 0) 1 1 Tryd.underlying22 HI.out.1 HI.out.2.1 HI.out.2.2.1 HI.out.2.2.2 rfl (by decide) _ _ _ rfl (World.ownsRow.alloc ho3 _) ⟨w3.heap.size, 0, none⟩ 1 1 [.int .u8 x] rfl rfl (cell_one_new _ _ _) (one_u8 _) (by unfold maxLen; omega) (by omega) (le_of_grown hg3 _) ?_; intro v' w4 hown' hgrow _)
          have ho4 := OwnB.snoc (by omega) (by omega) hown'
          have hg4 := grown_above (grown_trans hg3 (World.grownBy_alloc w3 _ _)) hgrow (fun g h => (OwnB.lt ho3 g h).1)
          have hc4 := (hc3.kept (World.grownBy_alloc w3 _ none) (by simp) (by simp)).kept hgrow (fun g h => by have := (OwnB.lt ho3 g h).1; omega) (fun h => by have := (OwnB.lt ho3 c h).1; omega)
          clear hown' hgrow
          go_wp2_with fail
          go_roundw
          case rel => exact ⟨k - 1, _, by omega, by simp; omega, rfl, ho4, hg4, hc4⟩
          case measure => simp [intOf]; omega
    · have hconv := fun (wx : World) (v : Value) (x : List UInt8) (h : OwnB wx w.heap.size 5 v x) => OwnB.conv (P := Tryd.prog) Tryd.underlying22 Tryd.underlying5 Tryd.underlying9 h
      have hcv := hconv wr _ l ho
      clear hconv
      go_wp2_with fail
      go_ret
      exact ⟨_, by have : ((⟨l.toArray⟩ : ByteArray).size : Int) = l.length := by rw [str_size]
                   omega, rfl, hg, hc⟩
end Go.Proofs.YtcjjlgkimklegaaDoor
