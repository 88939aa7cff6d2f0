/- The drawing functions of the model's package, by contract: they return values in range and write nothing but their cursor. Conditions: as stated. -/
import Derived.Test.YtchdceglcjjggaaKit
import Derived.Test.YtchdceglcjjggaaBits
import Derived.Test.YtchdceglcjjggaaRows
import Derived.Deep.QuietTactic
import Derived.BigQuiet
namespace Go.Proofs.Ytchdceglcjjggaa
open Go.RowKit

theorem i64_and_255 (n : Int) : bits .and .i64 n 255 = n % 256 := by
  have h : (BitVec.ofInt 64 255).toNat = 2 ^ 8 - 1 := by decide
  have key : (BitVec.ofInt 64 n &&& BitVec.ofInt 64 255).toNat = (n % ((2 ^ 64 : Nat) : Int)).toNat % 2 ^ 8 := by
    rw [BitVec.toNat_and, BitVec.toNat_ofInt, h, Nat.and_two_pow_sub_one_eq_mod]
  show IntKind.i64.wrap ((BitVec.ofInt 64 n &&& BitVec.ofInt 64 255).toNat : Nat) = n % 256
  rw [key, IntKind.wrap_i64]
  omega
theorem i64_and_255_bd (n : Int) : 0 ≤ bits .and .i64 n 255 ∧ bits .and .i64 n 255 ≤ 255 := by rw [i64_and_255]; omega

theorem grown_trans {a b c : World} {row : Option Nat} (h : a.grownBy b row) (k : b.grownBy c row) : a.grownBy c row :=
  ⟨k.os.trans h.os, k.tape.trans h.tape, k.output.trans h.output, Nat.le_trans h.size k.size, fun j hj hne => (k.block j (Nat.lt_of_lt_of_le hj h.size) hne).trans (h.block j hj hne)⟩
/-- The bytes that came in: nil, or n readable cells. -/
def CodeAt (W : World) (v : Value) (n : Nat) : Prop :=
  (v = .slice none 0 0 ∧ n = 0) ∨ ∃ x cap, v = .slice (some x) n cap ∧ n ≤ cap ∧ ∀ i, i < n → ∃ y : Int, 0 ≤ y ∧ y ≤ 255 ∧ W.cell? (x.add i) = some (.int .u8 y)
/-- A cursor over them, in block c, in the world w; W is the world in which they came in. -/
def Cur (W : World) (v : Value) (n c : Nat) (w : World) : Prop :=
  ∃ i h : Int, W.heap.size ≤ c ∧ w.heap[c]? = some (.cells #[v, .int .i64 i, .int .i64 h] 79 (0, 0)) ∧ 0 ≤ i ∧ i ≤ n ∧ Below W.heap.size W w
theorem Cur.lt {W w : World} {v : Value} {n c : Nat} (h : Cur W v n c w) : c < w.heap.size := by
  obtain ⟨i, h, _, hc, _⟩ := h; exact (Array.getElem?_eq_some_iff.1 hc).1
theorem Cur.kept {W w w' : World} {v : Value} {n c : Nat} {row : Option Nat} (h : Cur W v n c w) (hg : w.grownBy w' row) (hr : ∀ k, row = some k → W.heap.size ≤ k) (hne : row ≠ some c) : Cur W v n c w' := by
  have hlt := h.lt
  obtain ⟨i, j, a, b, d, e, f⟩ := h
  refine ⟨i, j, a, (hg.block c hlt (Ne.symm hne)).trans b, d, e, f.grown hg ?_ hr⟩
  have := f.size; exact this
def CurInt (W : World) (v : Value) (n c : Nat) (lo hi : Int) (w : World) (e : Ending) (w' : World) : Prop :=
  ∃ x : Int, lo ≤ x ∧ x ≤ hi ∧ e = .returned (.int .i64 x) ∧ w.grownBy w' (some c) ∧ Cur W v n c w'

theorem add_block' (x : Addr) (i : Nat) : (x.add i).block = x.block := by unfold Addr.add; split <;> rfl
theorem Code_cell {W w : World} {x : Addr} {i : Nat} {u : Value} (h : W.cell? (x.add i) = some u) (hb : Below W.heap.size W w) : w.cell? (x.add i) = some u := by
  have := World.block_lt_of_cell? W _ h
  rw [hb.cell this]; exact h

theorem store_h {w : World} {c : Nat} {v : Value} {i h : Int} (hb : w.heap[c]? = some (.cells #[v, .int .i64 i, .int .i64 h] 79 (0, 0))) (H : Int) (k : Nat) :
    w.grownBy ((w.setCell ⟨c, 2, none⟩ (.int .i64 H)).drewN k) (some c) ∧ ((w.setCell ⟨c, 2, none⟩ (.int .i64 H)).drewN k).heap[c]? = some (.cells #[v, .int .i64 i, .int .i64 H] 79 (0, 0)) := by
  refine ⟨⟨rfl, rfl, rfl, ?_, fun j _ hj => ?_⟩, ?_⟩
  · show w.heap.size ≤ (w.setCell ⟨c, 2, none⟩ (.int .i64 H)).heap.size
    simp
  · exact heap_setCell_other w ⟨c, 2, none⟩ j _ (fun e => hj (by rw [e]))
  · exact heap_setCell_same w c 2 _ _ _ hb
theorem store_hi {w : World} {c : Nat} {v : Value} {i h : Int} (hb : w.heap[c]? = some (.cells #[v, .int .i64 i, .int .i64 h] 79 (0, 0))) (H I : Int) (k : Nat) :
    w.grownBy (((w.setCell ⟨c, 2, none⟩ (.int .i64 H)).drewN k).setCell ⟨c, 1, none⟩ (.int .i64 I)) (some c) ∧ (((w.setCell ⟨c, 2, none⟩ (.int .i64 H)).drewN k).setCell ⟨c, 1, none⟩ (.int .i64 I)).heap[c]? = some (.cells #[v, .int .i64 I, .int .i64 H] 79 (0, 0)) := by
  obtain ⟨g1, h1⟩ := store_h hb H k
  refine ⟨⟨rfl, rfl, rfl, ?_, fun j hj hjc => ?_⟩, ?_⟩
  · have := g1.size; simp
  · exact (heap_setCell_other _ ⟨c, 1, none⟩ j _ (fun e => hjc (by rw [e]))).trans (g1.block j hj hjc)
  · exact heap_setCell_same _ c 1 _ _ _ h1
set_option maxHeartbeats 800000 in
theorem byte_any (W : World) (v : Value) (n : Nat) (hn : n ≤ 1048576) (hcode : CodeAt W v n) (c : Nat) (w : World) (hcur : Cur W v n c w) :
    Calls Try.prog 72 #[.pointer (some ⟨c, 0, none⟩)] w (CurInt W v n c 0 255 w) := by
  obtain ⟨i, h, hWc, hblk, hi0, hin, hb⟩ := hcur
  have c0 := cell_of_row w c 0 _ _ _ hblk
  have c1 := cell_of_row w c 1 _ _ _ hblk
  have c2 := cell_of_row w c 2 _ _ _ hblk
  have f1 := frozen_of_row w c 1 _ _ hblk
  have f2 := frozen_of_row w c 2 _ _ hblk
  by_cases hlt : i < n
  · rcases hcode with ⟨_, h0⟩ | ⟨x, cap, rfl, hcap, hcells⟩
    · omega
    · obtain ⟨y, y0, y1, hy⟩ := hcells i.toNat (by omega)
      have hy2 := Code_cell hy hb
      have hxc : x.block < W.heap.size := by have := World.block_lt_of_cell? W _ hy; rwa [add_block'] at this
      have hy3 : ∀ H : Int, (w.setCell ⟨c, 2, none⟩ (.int .i64 H)).cell? (x.add i.toNat) = some (.int .u8 y) := fun H =>
        (World.cell?_of_block (heap_setCell_other w ⟨c, 2, none⟩ _ _ (by rw [add_block']; simp; omega))).trans hy2
      have z1 : i < (n : Int) := by omega
      go_enter Try.func72, Try.ntmps72
      go_wp2_with fail
      go_quiet (fail)
      go_wp2_with fail
      have hX := i64_and_255_bd (bits BinOp.xor IntKind.i64 (wrap64 (wrap64 (h * 6364136223846793005) + 1442695040888963407) / 8589934592) (wrap64 (wrap64 (h * 6364136223846793005) + 1442695040888963407) / 35184372088832))
      generalize bits BinOp.and IntKind.i64 (bits BinOp.xor IntKind.i64 (wrap64 (wrap64 (h * 6364136223846793005) + 1442695040888963407) / 8589934592) (wrap64 (wrap64 (h * 6364136223846793005) + 1442695040888963407) / 35184372088832)) 255 = X at hX
      generalize bits BinOp.xor IntKind.i64 (wrap64 (wrap64 (h * 6364136223846793005) + 1442695040888963407) / 8589934592) (wrap64 (wrap64 (h * 6364136223846793005) + 1442695040888963407) / 35184372088832) = Y
      generalize wrap64 (wrap64 (h * 6364136223846793005) + 1442695040888963407) = H
      obtain ⟨x0, x1⟩ := hX
      go_quiet (fail)
      go_wp2_with fail
      go_quiet (fail)
      go_wp2_with fail
      go_ret
      obtain ⟨g1, g2⟩ := store_hi hblk H (i + 1) _
      exact ⟨_, (i64_and_255_bd _).1, (i64_and_255_bd _).2, rfl, g1, i + 1, H, hWc, g2, by omega, by omega, hb.grown g1 hb.size (fun k hk => by simp at hk; omega)⟩
  · go_enter Try.func72, Try.ntmps72
    have hlen : ∃ a cap, v = .slice a n cap := by
      rcases hcode with ⟨rfl, rfl⟩ | ⟨x, cap, rfl, _, _⟩
      · exact ⟨_, _, rfl⟩
      · exact ⟨_, _, rfl⟩
    obtain ⟨a, cap, rfl⟩ := hlen
    have z1 : ¬ i < (n : Int) := by omega
    go_wp2_with fail
    go_quiet (fail)
    go_wp2_with fail
    have hX := i64_and_255_bd (bits BinOp.xor IntKind.i64 (wrap64 (wrap64 (h * 6364136223846793005) + 1442695040888963407) / 8589934592) (wrap64 (wrap64 (h * 6364136223846793005) + 1442695040888963407) / 35184372088832))
    generalize bits BinOp.and IntKind.i64 (bits BinOp.xor IntKind.i64 (wrap64 (wrap64 (h * 6364136223846793005) + 1442695040888963407) / 8589934592) (wrap64 (wrap64 (h * 6364136223846793005) + 1442695040888963407) / 35184372088832)) 255 = X at hX
    generalize bits BinOp.xor IntKind.i64 (wrap64 (wrap64 (h * 6364136223846793005) + 1442695040888963407) / 8589934592) (wrap64 (wrap64 (h * 6364136223846793005) + 1442695040888963407) / 35184372088832) = Y
    generalize wrap64 (wrap64 (h * 6364136223846793005) + 1442695040888963407) = H
    obtain ⟨x0, x1⟩ := hX
    go_quiet (fail)
    go_wp2_with fail
    go_ret
    obtain ⟨g1, g2⟩ := store_h hblk H 0
    exact ⟨_, x0, x1, rfl, ⟨g1.os, g1.tape, g1.output, g1.size, g1.block⟩, i, H, hWc, g2, by omega, by omega, hb.grown (w' := ((w.setCell ⟨c, 2, none⟩ (.int .i64 H)).drewN _).drewN _) (row := some c) ⟨g1.os, g1.tape, g1.output, g1.size, g1.block⟩ hb.size (fun k hk => by simp at hk; omega)⟩

set_option maxHeartbeats 800000 in
theorem below_any (W : World) (v : Value) (n : Nat) (hn : n ≤ 1048576) (hcode : CodeAt W v n) (c : Nat) (w : World) (hcur : Cur W v n c w) (m : Int) (h1 : 1 ≤ m) (h2 : m ≤ 4294967296) :
    Calls Try.prog 42 #[.pointer (some ⟨c, 0, none⟩), .int .i64 m] w (CurInt W v n c 0 (m - 1) w) := by
  have HB := Lib.hid (byte_any W v n hn hcode c)
  by_cases hs : m ≤ 256
  · go_enter Try.func42, Try.ntmps42
    go_wp2_with fail
    refine (HB.out _ hcur).mono ?_
    rintro e w1 ⟨x, x0, x1, rfl, g1, hc1⟩
    go_wp2_with fail
    go_ret
    exact ⟨_, Int.emod_nonneg _ (by omega), by have := Int.emod_lt_of_pos x (show 0 < m by omega); omega, rfl, g1, hc1⟩
  · go_enter Try.func42, Try.ntmps42
    go_wp2_with fail
    refine (HB.out _ hcur).mono ?_
    rintro e w1 ⟨x, x0, x1, rfl, g1, hc1⟩
    go_wp2_with fail
    refine (HB.out _ hc1).mono ?_
    rintro e w2 ⟨y, y0, y1, rfl, g2, hc2⟩
    go_wp2_with fail
    refine (HB.out _ hc2).mono ?_
    rintro e w3 ⟨z, z0, z1, rfl, g3, hc3⟩
    go_wp2_with fail
    refine (HB.out _ hc3).mono ?_
    rintro e w4 ⟨u, u0, u1, rfl, g4, hc4⟩
    go_wp2_with fail
    go_ret
    exact ⟨_, Int.emod_nonneg _ (by omega), by have := Int.emod_lt_of_pos (x * 16777216 + y * 65536 + z * 256 + u) (show 0 < m by omega); omega, rfl, grown_trans (grown_trans (grown_trans g1 g2) g3) g4, hc4⟩

def NewCur (W : World) (v : Value) (n : Nat) (w : World) (e : Ending) (w' : World) : Prop :=
  ∃ c : Nat, w.heap.size ≤ c ∧ e = .returned (.pointer (some ⟨c, 0, none⟩)) ∧ w.grownBy w' none ∧ Cur W v n c w'
set_option maxHeartbeats 800000 in
theorem new_any (W : World) (v : Value) (n : Nat) (hn : n ≤ 1048576) (hcode : CodeAt W v n) (w : World) (hb : Below W.heap.size W w) :
    Calls Try.prog 40 #[v] w (NewCur W v n w) := by
  have hlen : ∃ a cap, v = .slice a n cap := by
    rcases hcode with ⟨rfl, rfl⟩ | ⟨x, cap, rfl, _, _⟩
    · exact ⟨_, _, rfl⟩
    · exact ⟨_, _, rfl⟩
  obtain ⟨a, cap, rfl⟩ := hlen
  have hcells : ∀ i, i < n → ∃ (x : Addr) (y : Int), a = some x ∧ 0 ≤ y ∧ y ≤ 255 ∧ w.cell? (x.add i) = some (.int .u8 y) := by
    intro i hi
    rcases hcode with ⟨h1, rfl⟩ | ⟨x, cap', h1, _, hc⟩
    · omega
    · obtain ⟨y, y0, y1, hy⟩ := hc i hi
      simp at h1
      exact ⟨x, y, h1.1, y0, y1, Code_cell hy hb⟩
  have HC := Lib.hid hcells
  have HCODE := Lib.hid hcode
  clear hcells hcode
  go_enter Try.func40, Try.ntmps40
  go_wp2_with fail
  go_loop [3, 4] (fun hv iv => ∃ (h : Int) (i : Nat), i ≤ n ∧ hv = .int .i64 h ∧ iv = .int .i64 (i : Int)) (fun _ iv => n - (intOf iv).toNat)
  case atStart => exact ⟨_, 0, by omega, rfl, rfl⟩
  case round =>
    obtain ⟨h, i, hi, rfl, rfl⟩ := hrel
    by_cases hlt : i < n
    · by_cases h4 : (i : Int) < 4000
      · obtain ⟨x, y, rfl, y0, y1, hy⟩ := HC.out i hlt
        have z0 : (0 : Int) ≤ (i : Int) := by omega
        have z1 : (i : Int) < (n : Int) := by omega
        go_wp2_with fail
        go_round
        case rel => exact ⟨_, i + 1, by omega, rfl, by go_num⟩
        case measure => simp [intOf]; omega
      · go_wp2_with fail
        go_ret
        exact ⟨_, Nat.le_refl _, rfl, World.grownBy_alloc w _ none, 0, _, hb.size, heap_alloc_new w _, by omega, by omega, hb.alloc hb.size _⟩
    · go_wp2_with fail
      go_ret
      exact ⟨_, Nat.le_refl _, rfl, World.grownBy_alloc w _ none, 0, _, hb.size, heap_alloc_new w _, by omega, by omega, hb.alloc hb.size _⟩

set_option maxHeartbeats 800000 in
theorem pick_any (W : World) (v : Value) (n : Nat) (hn : n ≤ 1048576) (hcode : CodeAt W v n) (c : Nat) (w : World) (hcur : Cur W v n c w) (L m : Nat) (lo hi : Int) (hm : 1 ≤ m) (hm2 : m ≤ 1000) (hLc : L ≠ c) (hL : L < w.heap.size)
    (hcells : ∀ i, i < m → ∃ y : Int, lo ≤ y ∧ y ≤ hi ∧ w.cell? ⟨L, i, none⟩ = some (.int .i64 y)) :
    Calls Try.prog 71 #[.pointer (some ⟨c, 0, none⟩), .slice (some ⟨L, 0, none⟩) m m] w (CurInt W v n c lo hi w) := by
  have HC := Lib.hid hcells
  have HB := Lib.hid (below_any W v n hn hcode c w hcur (m : Int) (by omega) (by omega))
  clear hcells
  go_enter Try.func71, Try.ntmps71
  go_wp2_with fail
  refine HB.out.mono ?_
  rintro e w1 ⟨x, x0, x1, rfl, g1, hc1⟩
  obtain ⟨j, rfl⟩ : ∃ j : Nat, x = (j : Int) := ⟨x.toNat, by omega⟩
  obtain ⟨y, y0, y1, hy⟩ := HC.out j (by omega)
  have hy1 : w1.cell? ⟨L, j, none⟩ = some (.int .i64 y) := (World.cell?_of_block (g1.block L hL (by simp [hLc]))).trans hy
  have z1 : (j : Int) < (m : Int) := by omega
  go_wp2_with fail
  go_ret
  exact ⟨y, y0, y1, rfl, g1, hc1⟩
end Go.Proofs.Ytchdceglcjjggaa
