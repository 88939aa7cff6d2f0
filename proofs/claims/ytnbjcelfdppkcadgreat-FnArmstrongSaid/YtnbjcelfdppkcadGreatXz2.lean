/- Texts of this claim, merged: Sets, SetsDraw, Grw, DepDraw, Tabs, Tabs2. Conditions: as stated. -/
import Derived.Test.YtnbjcelfdppkcadGreatXz1
import Derived.WalkSmall
namespace Go.Proofs.YtnbjcelfdppkcadGreat
open Go.RowKit

theorem i64_and_1 (n : Int) : bits .and .i64 n 1 = n % 2 := by
  have h : (BitVec.ofInt 64 1).toNat = 2 ^ 1 - 1 := by decide
  have key : (BitVec.ofInt 64 n &&& BitVec.ofInt 64 1).toNat = (n % ((2 ^ 64 : Nat) : Int)).toNat % 2 ^ 1 := by
    rw [BitVec.toNat_and, BitVec.toNat_ofInt, h, Nat.and_two_pow_sub_one_eq_mod]
  show IntKind.i64.wrap ((BitVec.ofInt 64 n &&& BitVec.ofInt 64 1).toNat : Nat) = n % 2
  rw [key, IntKind.wrap_i64]
  omega
/-- Column k is in the set X. -/
def bitB (X k : Nat) : Bool := X / 2 ^ k % 2 == 1
theorem bit_test (X k : Nat) : (bits BinOp.and IntKind.i64 ((X : Int) / 2 ^ k) 1 == 1) = bitB X k := by
  rw [i64_and_1]
  have e : (X : Int) / 2 ^ k % 2 = ((X / 2 ^ k % 2 : Nat) : Int) := by
    rw [Int.natCast_emod, Int.natCast_ediv, Int.natCast_pow]; rfl
  rw [e]; unfold bitB
  rw [Bool.eq_iff_iff, beq_iff_eq, beq_iff_eq]; omega
def memN (X k : Nat) : List Int := ((List.range k).filter (bitB X)).map fun (i : Nat) => (i : Int)
theorem memN_succ (X k : Nat) : memN X (k + 1) = if bitB X k = true then memN X k ++ [(k : Int)] else memN X k := by
  unfold memN
  rw [List.range_succ, List.filter_append, List.map_append]
  by_cases h : bitB X k = true
  · rw [if_pos h]; simp [h]
  · rw [if_neg h]; simp [h]
theorem memN_len (X k : Nat) : (memN X k).length ≤ k := by
  have := List.length_filter_le (bitB X) (List.range k)
  simpa [memN] using this
/-- The members of x, as a list; none if x is no set of columns. -/
def mems (x : Int) : List Int := if 0 ≤ x ∧ x ≤ 31 then memN x.toNat 5 else []
theorem mems_len (x : Int) : (mems x).length ≤ 5 := by unfold mems; split; exact memN_len _ _; simp
theorem info3i : (Tryz.prog.info? 3).map (fun i => (i.zero, i.size, i.bytes)) = some (some (.int .i64 0), 1, 8) := by kernel_rfl
/-- A result that is a slice of ints of the call's own. -/
def RetI (l : List Int) (w : World) (e : Ending) (w' : World) : Prop := ∃ v, e = .returned v ∧ OwnI w' w.heap.size v l ∧ Below w.heap.size w w'

theorem all_any (n : Int) (w : World) (h0 : 0 ≤ n) (h1 : n ≤ 5) :
    Calls Tryz.prog 26 #[.int .i64 n] w fun e w' => e = .returned (.int .i64 (2 ^ n.toNat - 1)) ∧ w = w' := by
  rcases (show n = 0 ∨ n = 1 ∨ n = 2 ∨ n = 3 ∨ n = 4 ∨ n = 5 by omega) with rfl | rfl | rfl | rfl | rfl | rfl
  all_goals
    go_enter Tryz.func26, Tryz.ntmps26
    go_wp2
    go_ret
    exact ⟨rfl, rfl⟩
/-- x is a set of the first n columns. -/
def isA (n x : Int) : Bool := decide ((0 ≤ n ∧ n ≤ 5) ∧ 0 ≤ x ∧ x ≤ 2 ^ n.toNat - 1)
theorem isA_any (n x : Int) (w : World) :
    Calls Tryz.prog 54 #[.int .i64 n, .int .i64 x] w fun e w' => e = .returned (.bool (isA n x)) ∧ w = w' := by
  by_cases hn : 0 ≤ n ∧ n ≤ 5
  · have h1 : decide (0 ≤ n ∧ n ≤ 5) = true := by simp [hn]
    go_enter Tryz.func54, Tryz.ntmps54
    go_wp2_with fail
    refine (in_any _ _ _ _).mono ?_
    rintro e w' ⟨rfl, rfl⟩
    go_wp2_with fail
    refine (all_any n _ hn.1 hn.2).mono ?_
    rintro e w' ⟨rfl, rfl⟩
    go_wp2_with fail
    refine (in_any _ _ _ _).mono ?_
    rintro e w' ⟨rfl, rfl⟩
    go_wp2_with fail
    go_ret
    exact ⟨ret_b (by unfold isA; simp [hn]), rfl⟩
  · have h1 : decide (0 ≤ n ∧ n ≤ 5) = false := by simp only [hn, decide_false]
    go_enter Tryz.func54, Tryz.ntmps54
    go_wp2_with fail
    refine (in_any _ _ _ _).mono ?_
    rintro e w' ⟨rfl, rfl⟩
    go_wp2_with fail
    go_ret
    exact ⟨ret_b (by unfold isA; simp only [hn, false_and, decide_false]), rfl⟩
def valB (x : Int) : Bool := decide (0 ≤ x ∧ x ≤ 31)
theorem valid_any (x : Int) (w : World) :
    Calls Tryz.prog 118 #[.int .i64 x] w fun e w' => e = .returned (.bool (valB x)) ∧ w = w' := by
  go_enter Tryz.func118, Tryz.ntmps118
  go_wp2_with fail
  refine (isA_any _ _ _).mono ?_
  rintro e w' ⟨rfl, rfl⟩
  go_wp2_with fail
  go_ret
  exact ⟨ret_b (by unfold isA valB; simp), rfl⟩

set_option maxHeartbeats 800000 in
theorem membersS_any (x : Int) (w : World) :
    Calls Tryz.prog 113 #[.int .i64 x] w (RetI (mems x) w) := by
  obtain ⟨i0, hi, hz0, hz1, hz2⟩ := info_parts info3i
  have HI : Hid (_ ∧ _ ∧ _ ∧ _) := Lib.hid ⟨hi, hz0, hz1, hz2⟩
  clear hi hz0 hz1 hz2
  by_cases hx : 0 ≤ x ∧ x ≤ 31
  · obtain ⟨X, rfl⟩ : ∃ X : Nat, x = (X : Int) := ⟨x.toNat, by omega⟩
    have hv : valB (X : Int) = true := by unfold valB; simp [hx]
    have he : mems (X : Int) = memN X 5 := by unfold mems; rw [if_pos hx]; rfl
    have HE := Lib.hid he
    clear he
    have HV := Lib.hid (valid_any (X : Int))
    go_enter Tryz.func113, Tryz.ntmps113
    go_wp2_with fail
    go_loopw [3, 4] (fun ov iv wr => ∃ (k : Nat) (l : List Int), k ≤ 5 ∧ iv = .int .i64 (k : Int) ∧ Hid (l = memN X k) ∧ OwnI wr w.heap.size ov l ∧ Below w.heap.size w wr) (fun _ iv _ => (5 - intOf iv).toNat)
    case atStart => exact ⟨0, [], by omega, rfl, Lib.hid rfl, OwnI.made (World.ownsRow_made w #[] 0 (Nat.le_refl _) (by unfold maxLen; omega) rfl), (Below.refl _ _).alloc (Nat.le_refl _) _⟩
    case round =>
      obtain ⟨k, l, hk, rfl, hl, ho, hb⟩ := hrel
      by_cases hlt : k < 5
      · have hll : l.length ≤ 5 := by rw [hl.out]; have := memN_len X k; omega
        have hbit := bit_test X k
        by_cases hB : bitB X k = true
        · rw [hB] at hbit
          go_wp2_with fail
          refine (HV.out _).mono ?_
          rintro e w' ⟨rfl, rfl⟩
          go_wp2_with (at_builtin; refine wpList_append_own _ rfl _ _ 40 rfl w.heap.size 3 i0 (.int .i64 0) 1 8 Tryz.underlying40 HI.out.1 HI.out.2.1 HI.out.2.2.1 HI.out.2.2.2 rfl (by decide) _ _ _ rfl (World.ownsRow.alloc ho _) ⟨wr.heap.size, 0, none⟩ 1 1 [.int .i64 (k : Int)] rfl rfl (cell_one_new _ _ _) (one_i64 _) (by unfold maxLen; omega) (by omega) (le_alloc hb (Nat.le_refl _) _) ?_; intro v' w1 hown' hgrow _)
          have ho' := OwnI.snoc hown'
          have hb' := (hb.alloc hb.size (.cells #[.int .i64 (k : Int)] 3)).grown hgrow (by simp; have := hb.size; omega) (fun k hk => (OwnI.lt ho k hk).1)
          clear hown' hgrow
          go_wp2_with fail
          go_roundw
          case rel => exact ⟨k + 1, _, by omega, by go_num, Lib.hid (by rw [memN_succ, if_pos hB, ← hl.out]), ho', hb'⟩
          case measure => simp [intOf]; omega
        · have hB2 : bitB X k = false := by simpa using hB
          rw [hB2] at hbit
          go_wp2_with fail
          refine (HV.out _).mono ?_
          rintro e w' ⟨rfl, rfl⟩
          go_wp2_with fail
          go_roundw
          case rel => exact ⟨k + 1, _, by omega, by go_num, Lib.hid (by rw [memN_succ, if_neg hB, ← hl.out]), ho, hb⟩
          case measure => simp [intOf]; omega
      · obtain rfl : k = 5 := by omega
        go_wp2_with fail
        go_ret
        exact ⟨_, rfl, by rw [HE.out, ← hl.out]; exact ho, hb⟩
  · have hv : valB x = false := by unfold valB; simp only [hx, decide_false]
    have he : mems x = [] := by unfold mems; rw [if_neg hx]
    have HE := Lib.hid he
    clear he hx
    have HV := Lib.hid (valid_any x)
    go_enter Tryz.func113, Tryz.ntmps113
    go_wp2_with fail
    refine wp_loop_rounds 1 ?_
    rw [rounds_succ]
    go_wp2_with fail
    refine (HV.out _).mono ?_
    rintro e w' ⟨rfl, rfl⟩
    go_wp2_with fail
    go_ret
    exact ⟨_, rfl, by rw [HE.out]; exact OwnI.made (World.ownsRow_made w #[] 0 (Nat.le_refl _) (by unfold maxLen; omega) rfl), (Below.refl _ _).alloc (Nat.le_refl _) _⟩
end Go.Proofs.YtnbjcelfdppkcadGreat
namespace Go.Proofs.YtnbjcelfdppkcadGreat
open Go.RowKit

def CurBool (W : World) (v : Value) (n c : Nat) (w : World) (e : Ending) (w' : World) : Prop :=
  ∃ b : Bool, e = .returned (.bool b) ∧ w.grownBy w' (some c) ∧ Cur W v n c w'
theorem once_any (W : World) (v : Value) (n : Nat) (hn : n ≤ 1048576) (hcode : CodeAt W v n) (c : Nat) (w : World) (hcur : Cur W v n c w) (m : Int) (h1 : 1 ≤ m) (h2 : m ≤ 4294967296) :
    Calls Tryz.prog 37 #[.pointer (some ⟨c, 0, none⟩), .int .i64 m] w (CurBool W v n c w) := by
  have HB := Lib.hid (below_any W v n hn hcode c w hcur m h1 h2)
  go_enter Tryz.func37, Tryz.ntmps37
  go_wp2_with fail
  refine HB.out.mono ?_
  rintro e w1 ⟨x, x0, x1, rfl, g1, hc1⟩
  go_wp2_with fail
  go_ret
  exact ⟨_, rfl, g1, hc1⟩
theorem pick4 (w : World) (C : Array Value) (hC : C = #[.int .i64 (-1), .int .i64 31, .int .i64 32, .int .i64 33]) (t : TypeId) :
    ∀ i, i < 4 → ∃ y : Int, -1 ≤ y ∧ y ≤ 33 ∧ (w.alloc (.cells C t)).cell? ⟨w.heap.size, i, none⟩ = some (.int .i64 y) := by
  intro i hi
  have e : (w.alloc (.cells C t)).cell? ⟨w.heap.size, i, none⟩ = C[i]? := World.cell?_alloc_mark w C t (0, 0) i
  rw [e, hC]
  rcases (show i = 0 ∨ i = 1 ∨ i = 2 ∨ i = 3 by omega) with rfl | rfl | rfl | rfl
  all_goals (refine ⟨_, ?_, ?_, rfl⟩ <;> decide)
set_option maxHeartbeats 800000 in
theorem anySet_any (W : World) (v : Value) (n : Nat) (hn : n ≤ 1048576) (hcode : CodeAt W v n) (c : Nat) (w : World) (hcur : Cur W v n c w) :
    Calls Tryz.prog 76 #[.pointer (some ⟨c, 0, none⟩)] w (CurInt W v n c (-1) 33 w) := by
  have HO := Lib.hid (once_any W v n hn hcode c)
  have HB := Lib.hid (below_any W v n hn hcode c)
  have HP := Lib.hid (pick_any W v n hn hcode c)
  go_enter Tryz.func76, Tryz.ntmps76
  go_wp2_with fail
  refine (HO.out _ hcur 8 (by omega) (by omega)).mono ?_
  rintro e w1 ⟨b, rfl, g1, hc1⟩
  cases b with
  | true =>
    have hlt := hc1.lt
    have hc2 : ∀ o, Cur W v n c (w1.alloc o) := fun o => hc1.kept (World.grownBy_alloc w1 o none) (by simp) (by simp)
    have HC2 := Lib.hid hc2
    clear hc2
    go_wp2_with fail
    refine (HP.out _ (HC2.out _) w1.heap.size 4 _ _ (by omega) (by omega) (by omega) (by simp) (pick4 w1 _ rfl _)).mono ?_
    rintro e w2 ⟨y, y0, y1, rfl, g2, hc3⟩
    go_wp2_with fail
    go_ret
    exact ⟨y, y0, y1, rfl, grown_trans (grown_trans g1 (World.grownBy_alloc w1 _ _)) g2, hc3⟩
  | false =>
    go_wp2_with fail
    refine (HB.out _ hc1 32 (by omega) (by omega)).mono ?_
    rintro e w2 ⟨y, y0, y1, rfl, g2, hc2⟩
    go_wp2_with fail
    go_ret
    exact ⟨_, by omega, by omega, rfl, grown_trans g1 g2, hc2⟩
theorem or_bd (a b : Int) : -9223372036854775808 ≤ bits .or .i64 a b ∧ bits .or .i64 a b ≤ 9223372036854775807 := by
  rw [show bits .or .i64 a b = IntKind.i64.wrap ((BitVec.ofInt 64 a ||| BitVec.ofInt 64 b).toNat : Int) from rfl, IntKind.wrap_i64]; omega
def TwoAny (w : World) (e : Ending) (w' : World) : Prop := ∃ x y : Int, -1 ≤ x ∧ x ≤ 33 ∧ -9223372036854775808 ≤ y ∧ y ≤ 9223372036854775807 ∧ e = .returned (.tuple #[.int .i64 x, .int .i64 y]) ∧ Below w.heap.size w w'
end Go.Proofs.YtnbjcelfdppkcadGreat
namespace Go.Proofs.YtnbjcelfdppkcadGreat
open Go.RowKit

theorem grown_set {w w1 : World} {row : Option Nat} (h : w.grownBy w1 row) {p : Addr} (hp : w.heap.size ≤ p.block) (u : Value) : w.grownBy (w1.setCell p u) row :=
  ⟨h.os, h.tape, h.output, by have := h.size; simpa using this, fun j hj hne => (Below.heap_setCell _ _ _ _ (by omega)).trans (h.block j hj hne)⟩
theorem grown_cell (w : World) (p : Addr) (u : Value) : w.grownBy (w.setCell p u) (some p.block) :=
  ⟨rfl, rfl, rfl, by simp, fun j _ hne => Below.heap_setCell _ _ _ _ (fun e => hne (by rw [e]))⟩
theorem Cur.set {W w : World} {v : Value} {n c : Nat} (h : Cur W v n c w) {p : Addr} (hp : W.heap.size ≤ p.block) (hc : p.block ≠ c) (u : Value) : Cur W v n c (w.setCell p u) :=
  h.kept (grown_cell w p u) (fun k hk => by cases hk; exact hp) (fun e => hc (by cases e; rfl))
end Go.Proofs.YtnbjcelfdppkcadGreat
namespace Go.Proofs.YtnbjcelfdppkcadGreat
open Go.RowKit

def CurDep (lo hi : Int) (W : World) (v : Value) (n c : Nat) (w : World) (e : Ending) (w' : World) : Prop :=
  ∃ l r : Int, lo ≤ l ∧ l ≤ 33 ∧ lo ≤ r ∧ r ≤ hi ∧ e = .returned (.agg #[.int .i64 l, .int .i64 r]) ∧ w.grownBy w' (some c) ∧ Cur W v n c w'
/-- A block of two ints: a dependency. -/
def DBox (w : World) (T : Nat) (l r : Int) : Prop := w.heap[T]? = some (.cells #[.int .i64 l, .int .i64 r] 35 (0, 0))
theorem DBox.cells {w : World} {T : Nat} {l r : Int} (h : DBox w T l r) : (w.cell? ⟨T, 0, none⟩ = some (.int .i64 l) ∧ w.cell? ⟨T, 1, none⟩ = some (.int .i64 r)) ∧ w.frozen? ⟨T, 0, none⟩ = false ∧ w.frozen? ⟨T, 1, none⟩ = false := by
  unfold DBox at h
  refine ⟨⟨?_, ?_⟩, ?_, ?_⟩
  · rw [cell_of_row w T 0 _ _ _ h]; rfl
  · rw [cell_of_row w T 1 _ _ _ h]; rfl
  · simp [World.frozen?, h]
  · simp [World.frozen?, h]
theorem DBox.lt {w : World} {T : Nat} {l r : Int} (h : DBox w T l r) : T < w.heap.size := (Array.getElem?_eq_some_iff.1 h).1
theorem DBox.grown {w w' : World} {T : Nat} {l r : Int} {row : Option Nat} (h : DBox w T l r) (hg : w.grownBy w' row) (hT : row ≠ some T) : DBox w' T l r := (hg.block T h.lt (Ne.symm hT)).trans h
theorem DBox.set0 {w : World} {T : Nat} {l r x : Int} (h : DBox w T l r) : DBox (w.setCell ⟨T, 0, none⟩ (.int .i64 x)) T x r := by
  unfold DBox at *
  simp only [World.setCell, Array.getElem?_modify]
  rw [if_pos trivial, h]
  rfl
theorem DBox.set1 {w : World} {T : Nat} {l r x : Int} (h : DBox w T l r) : DBox (w.setCell ⟨T, 1, none⟩ (.int .i64 x)) T l x := by
  unfold DBox at *
  simp only [World.setCell, Array.getElem?_modify]
  rw [if_pos trivial, h]
  rfl
/-- The result's cell is filled: the state at the return. -/
theorem fin_dep {W w x : World} {v : Value} {n c : Nat} {a b l r : Int} (hz : DBox x w.heap.size a b) (hg : w.grownBy x (some c)) (hc : Cur W v n c x) (hcw : c < w.heap.size) (hW : W.heap.size ≤ c) :
    DBox ((x.setCell ⟨w.heap.size, 0, none⟩ (.int .i64 l)).setCell ⟨w.heap.size, 1, none⟩ (.int .i64 r)) w.heap.size l r ∧
    w.grownBy ((x.setCell ⟨w.heap.size, 0, none⟩ (.int .i64 l)).setCell ⟨w.heap.size, 1, none⟩ (.int .i64 r)) (some c) ∧ Cur W v n c ((x.setCell ⟨w.heap.size, 0, none⟩ (.int .i64 l)).setCell ⟨w.heap.size, 1, none⟩ (.int .i64 r)) :=
  ⟨hz.set0.set1, grown_set (grown_set hg (p := ⟨w.heap.size, 0, none⟩) (Nat.le_refl _) _) (p := ⟨w.heap.size, 1, none⟩) (Nat.le_refl _) _,
   (hc.set (p := ⟨w.heap.size, 0, none⟩) (by show W.heap.size ≤ w.heap.size; omega) (by show w.heap.size ≠ c; omega) (.int .i64 l)).set (p := ⟨w.heap.size, 1, none⟩) (by show W.heap.size ≤ w.heap.size; omega) (by show w.heap.size ≠ c; omega) (.int .i64 r)⟩
set_option maxHeartbeats 1600000 in
set_option maxRecDepth 20000 in
theorem dep6_any (W : World) (v : Value) (n : Nat) (hn : n ≤ 1048576) (hcode : CodeAt W v n) (c : Nat) (w : World) (hcur : Cur W v n c w) (k : Int) (h1 : 1 ≤ k) (h2 : k ≤ 5) :
    Calls Tryz.prog 75 #[.pointer (some ⟨c, 0, none⟩), .int .i64 k] w (CurDep 0 4 W v n c w) := by
  have HB := Lib.hid (below_any W v n hn hcode c)
  have hlt := Lib.hid hcur.lt
  have hWc : Hid (W.heap.size ≤ c) := Lib.hid (by obtain ⟨_, _, h, _⟩ := hcur; exact h)
  have hg0 : Hid (w.grownBy (w.alloc (.cells #[.int .i64 0, .int .i64 0] 35)) (some c)) := Lib.hid (World.grownBy_alloc w _ _)
  have hz0 : Hid (DBox (w.alloc (.cells #[.int .i64 0, .int .i64 0] 35)) w.heap.size 0 0) := Lib.hid (heap_alloc_new w _)
  have HC0 := Lib.hid (hcur.kept (World.grownBy_alloc w (.cells #[.int .i64 0, .int .i64 0] 35) none) (by simp) (by simp))
  rcases (show k = 1 ∨ k = 2 ∨ k = 3 ∨ k = 4 ∨ k = 5 by omega) with rfl | rfl | rfl | rfl | rfl
  all_goals
    go_enter Tryz.func75, Tryz.ntmps75
    go_wp2_with fail
    refine (HB.out _ HC0.out _ (by omega) (by omega)).mono ?_
    rintro e w1 ⟨x, x0, x1, rfl, g1, hc1⟩
    have hz1 := Lib.hid (hz0.out.grown g1 (by have := hlt.out; simp; omega))
    go_wp2_with fail
    refine (HB.out w1 hc1 _ (by omega) (by omega)).mono ?_
    rintro e w2 ⟨y, y0, y1, rfl, g2, hc2⟩
    have hz2 := hz1.out.grown g2 (by have := hlt.out; simp; omega)
    have HF := Lib.hid (fin_dep (l := x) (r := y) hz2 (grown_trans (grown_trans hg0.out g1) g2) hc2 hlt.out hWc.out)
    obtain ⟨⟨d0, d1⟩, f0, f1⟩ := hz2.cells
    obtain ⟨⟨r0, r1⟩, -, -⟩ := HF.out.1.cells
    have HR := Lib.hid (And.intro r0 r1)
    clear r0 r1 g1 g2 hc1 hc2 hz2
    go_wp2_with fail
    exact bodyPost_ret (v := .agg #[.int .i64 x, .int .i64 y]) (by simp [results, Tryz.results75, go_sem, HR.out.1, HR.out.2]) rfl ⟨x, y, by omega, by omega, by omega, by omega, rfl, HF.out.2.1, HF.out.2.2⟩
/-- The state of the draw of a dependency: the result's cell, the own cell, the growth, the cursor. -/
structure DepSt (W : World) (v : Value) (n c : Nat) (w : World) (D : Nat) (l r : Int) (x : World) : Prop where
  z : DBox x w.heap.size 0 0
  b : DBox x D l r
  g : w.grownBy x (some c)
  t : w.heap.size < D
  k : c < w.heap.size
  o : W.heap.size ≤ c
  c : Cur W v n c x
theorem DepSt.grown {W w x y : World} {v : Value} {n c D : Nat} {l r : Int} (h : DepSt W v n c w D l r x) (hg : x.grownBy y (some c)) (hc : Cur W v n c y) : DepSt W v n c w D l r y :=
  ⟨h.z.grown hg (by have := h.k; simp; omega), h.b.grown hg (by have := h.t; have := h.k; simp; omega), grown_trans h.g hg, h.t, h.k, h.o, hc⟩
theorem DepSt.alloc {W w x : World} {v : Value} {n c D : Nat} {l r : Int} (h : DepSt W v n c w D l r x) (o : Obj) : DepSt W v n c w D l r (x.alloc o) :=
  h.grown (World.grownBy_alloc x o _) (h.c.kept (World.grownBy_alloc x o none) (by simp) (by simp))
theorem DepSt.put {W w x : World} {v : Value} {n c D : Nat} {l r : Int} (h : DepSt W v n c w D l r x) {p : Addr} (u : Value) {l' r' : Int} (hp : p.block = D) (hb : DBox (x.setCell p u) D l' r') : DepSt W v n c w D l' r' (x.setCell p u) :=
  ⟨h.z.grown (grown_cell x p u) (by have := h.t; rw [hp]; simp; omega), hb, grown_set h.g (by have := h.t; omega) u, h.t, h.k, h.o, h.c.set (by have := h.t; have := h.k; have := h.o; omega) (by have := h.t; have := h.k; omega) u⟩
theorem pick3d (w : World) (C : Array Value) (hC : C = #[.int .i64 (-1), .int .i64 4, .int .i64 5]) (t : TypeId) :
    ∀ i, i < 3 → ∃ y : Int, -1 ≤ y ∧ y ≤ 5 ∧ (w.alloc (.cells C t)).cell? ⟨w.heap.size, i, none⟩ = some (.int .i64 y) := by
  intro i hi
  have e : (w.alloc (.cells C t)).cell? ⟨w.heap.size, i, none⟩ = C[i]? := World.cell?_alloc_mark w C t (0, 0) i
  rw [e, hC]
  rcases (show i = 0 ∨ i = 1 ∨ i = 2 by omega) with rfl | rfl | rfl
  all_goals (refine ⟨_, ?_, ?_, rfl⟩ <;> decide)
set_option maxHeartbeats 3200000 in
set_option maxRecDepth 20000 in
theorem anyDep_any (W : World) (v : Value) (n : Nat) (hn : n ≤ 1048576) (hcode : CodeAt W v n) (c : Nat) (w : World) (hcur : Cur W v n c w) (k : Int) :
    Calls Tryz.prog 38 #[.pointer (some ⟨c, 0, none⟩), .int .i64 k] w (CurDep (-1) 5 W v n c w) := by
  have HB := Lib.hid (below_any W v n hn hcode c)
  have HD := Lib.hid (dep6_any W v n hn hcode c)
  have HY := Lib.hid (anySet_any W v n hn hcode c)
  have HP := Lib.hid (pick_any W v n hn hcode c)
  have hlt := Lib.hid hcur.lt
  have hWc : Hid (W.heap.size ≤ c) := Lib.hid (by obtain ⟨_, _, h, _⟩ := hcur; exact h)
  have hg0 : Hid (w.grownBy (w.alloc (.cells #[.int .i64 0, .int .i64 0] 35)) (some c)) := Lib.hid (World.grownBy_alloc w _ _)
  have hz0 : Hid (DBox (w.alloc (.cells #[.int .i64 0, .int .i64 0] 35)) w.heap.size 0 0) := Lib.hid (heap_alloc_new w _)
  have HC0 := Lib.hid (hcur.kept (World.grownBy_alloc w (.cells #[.int .i64 0, .int .i64 0] 35) none) (by simp) (by simp))
  by_cases hk : 1 ≤ k ∧ k ≤ 5
  all_goals
    go_enter Tryz.func38, Tryz.ntmps38
    go_wp2_with (go_at_call 29; refine (in_any _ _ _ _).mono ?_; rintro e w' ⟨rfl, rfl⟩; simp only [hk, decide_false])
    refine (HD.out _ HC0.out _ (by omega) (by omega)).mono ?_
    rintro e w1 ⟨x, y, x0, x1, y0, y1, rfl, g1, hc1⟩
    have s1 := g1.size
    simp only [World.size_alloc] at s1
    have HST : Hid (DepSt W v n c w w1.heap.size x y (w1.alloc (.cells #[.int .i64 x, .int .i64 y] 35))) := Lib.hid
      ⟨(hz0.out.grown g1 (by have := hlt.out; simp; omega)).grown (World.grownBy_alloc w1 _ none) (by simp), heap_alloc_new w1 _, grown_trans (grown_trans hg0.out g1) (World.grownBy_alloc w1 _ _), by omega, hlt.out, hWc.out, hc1.kept (World.grownBy_alloc w1 _ none) (by simp) (by simp)⟩
    clear g1 hc1
    go_wp2_with fail
    refine (HB.out _ HST.out.c 14 (by omega) (by omega)).mono ?_
    rintro e w2 ⟨z, z0, z1, rfl, g2, hc2⟩
    have HS2 := Lib.hid (HST.out.grown g2 hc2)
    obtain ⟨D, hD⟩ : ∃ D, D = w1.heap.size := ⟨_, rfl⟩
    rw [← hD] at HS2 ⊢
    clear hD g2 hc2 HST s1
    by_cases hz : z = 0
    · subst hz
      go_wp2_with fail
      refine (HY.out _ HS2.out.c).mono ?_
      rintro e w3 ⟨q, q0, q1, rfl, g3, hc3⟩
      have HS3 := HS2.out.grown g3 hc3
      obtain ⟨⟨b0, b1⟩, e0, e1⟩ := HS3.b.cells
      have HS4 := HS3.put (p := ⟨D, 0, none⟩) (.int .i64 q) rfl HS3.b.set0
      obtain ⟨⟨c0, c1⟩, f0, f1⟩ := HS4.b.cells
      obtain ⟨⟨d0, d1⟩, i0, i1⟩ := HS4.z.cells
      have HF := Lib.hid (fin_dep (l := q) (r := y) HS4.z HS4.g HS4.c HS4.k HS4.o)
      obtain ⟨⟨r0, r1⟩, -, -⟩ := HF.out.1.cells
      have HR := Lib.hid (And.intro r0 r1)
      clear r0 r1 HS4 HS3 g3 hc3
      go_wp2_with fail
      exact bodyPost_ret (v := .agg #[.int .i64 q, .int .i64 y]) (by simp [results, Tryz.results38, go_sem, HR.out.1, HR.out.2]) rfl ⟨q, y, by omega, by omega, by omega, by omega, rfl, HF.out.2.1, HF.out.2.2⟩
    · by_cases hz' : z = 1
      · subst hz'
        have HAL := Lib.hid (fun o => HS2.out.alloc o)
        have hcl := HS2.out.c.lt
        go_wp2_with fail
        refine (HP.out _ (HAL.out _).c w2.heap.size 3 (-1) 5 (by omega) (by omega) (by omega) (by simp) (pick3d w2 _ rfl _)).mono ?_
        rintro e w3 ⟨q, q0, q1, rfl, g3, hc3⟩
        have HS3 := (HAL.out _).grown g3 hc3
        obtain ⟨⟨b0, b1⟩, e0, e1⟩ := HS3.b.cells
        have HS4 := HS3.put (p := ⟨D, 1, none⟩) (.int .i64 q) rfl HS3.b.set1
        obtain ⟨⟨c0, c1⟩, f0, f1⟩ := HS4.b.cells
        obtain ⟨⟨d0, d1⟩, i0, i1⟩ := HS4.z.cells
        have HF := Lib.hid (fin_dep (l := x) (r := q) HS4.z HS4.g HS4.c HS4.k HS4.o)
        obtain ⟨⟨r0, r1⟩, -, -⟩ := HF.out.1.cells
        have HR := Lib.hid (And.intro r0 r1)
        clear r0 r1 HS4 HS3 g3 hc3
        go_wp2_with fail
        exact bodyPost_ret (v := .agg #[.int .i64 x, .int .i64 q]) (by simp [results, Tryz.results38, go_sem, HR.out.1, HR.out.2]) rfl ⟨x, q, by omega, by omega, by omega, by omega, rfl, HF.out.2.1, HF.out.2.2⟩
      · obtain ⟨⟨c0, c1⟩, f0, f1⟩ := HS2.out.b.cells
        obtain ⟨⟨d0, d1⟩, i0, i1⟩ := HS2.out.z.cells
        have HF := Lib.hid (fin_dep (l := x) (r := y) HS2.out.z HS2.out.g HS2.out.c HS2.out.k HS2.out.o)
        obtain ⟨⟨r0, r1⟩, -, -⟩ := HF.out.1.cells
        have HR := Lib.hid (And.intro r0 r1)
        clear r0 r1
        go_wp2_with fail
        exact bodyPost_ret (v := .agg #[.int .i64 x, .int .i64 y]) (by simp [results, Tryz.results38, go_sem, HR.out.1, HR.out.2]) rfl ⟨x, y, by omega, by omega, by omega, by omega, rfl, HF.out.2.1, HF.out.2.2⟩
end Go.Proofs.YtnbjcelfdppkcadGreat
namespace Go.Proofs.YtnbjcelfdppkcadGreat
open Go.RowKit

/-- The blocks from B on and below C hold what they held. -/
def Same (B C : Nat) (w w' : World) : Prop := ∀ k, B ≤ k → k < C → w'.heap[k]? = w.heap[k]?
theorem Same.refl (B C : Nat) (w : World) : Same B C w w := fun _ _ _ => rfl
theorem Same.trans {B C : Nat} {a b c : World} (h : Same B C a b) (k : Same B C b c) : Same B C a c := fun i x y => (k i x y).trans (h i x y)
theorem Same.sub {B C B' C' : Nat} {w w' : World} (h : Same B C w w') (hB : B ≤ B') (hC : C' ≤ C) : Same B' C' w w' := fun i x y => h i (by omega) (by omega)
theorem Below.keeps {D B C : Nat} {w w' : World} (h : Below D w w') (hC : C ≤ D) : Same B C w w' := fun i _ y => h.block i (by omega)
theorem Same.setCell {B C : Nat} {a w : World} (h : Same B C a w) {p : Addr} (hp : p.block < B ∨ C ≤ p.block) (u : Value) : Same B C a (w.setCell p u) := h.trans fun k x y => Below.heap_setCell _ _ _ _ (by omega)
/-- Only the blocks from B on and below C may have been written; new ones may have come. -/
structure Mid (B C : Nat) (w w' : World) : Prop where
  os : w'.os = w.os
  tape : w'.tape = w.tape
  output : w'.output = w.output
  size : w.heap.size ≤ w'.heap.size
  block : ∀ k, k < w.heap.size → (k < B ∨ C ≤ k) → w'.heap[k]? = w.heap[k]?
theorem Mid.refl (B C : Nat) (w : World) : Mid B C w w := ⟨rfl, rfl, rfl, Nat.le_refl _, fun _ _ _ => rfl⟩
theorem Mid.trans {B C : Nat} {a b c : World} (h : Mid B C a b) (k : Mid B C b c) : Mid B C a c :=
  ⟨k.os.trans h.os, k.tape.trans h.tape, k.output.trans h.output, Nat.le_trans h.size k.size, fun i x y => (k.block i (Nat.lt_of_lt_of_le x h.size) y).trans (h.block i x y)⟩
theorem Mid.sub {B C B' C' : Nat} {w w' : World} (h : Mid B C w w') (hB : B' ≤ B) (hC : C ≤ C') : Mid B' C' w w' := ⟨h.os, h.tape, h.output, h.size, fun k x y => h.block k x (by omega)⟩
theorem Mid.below {B C D : Nat} {w w' : World} (h : Mid B C w w') (hD : D ≤ B) (hw : D ≤ w.heap.size) : Below D w w' := ⟨h.os, h.tape, h.output, h.size, fun k x => h.block k (by omega) (.inl (by omega))⟩
theorem Mid.same {B C B' C' : Nat} {w w' : World} (h : Mid B C w w') (hC : C' ≤ w.heap.size) (hd : C' ≤ B ∨ C ≤ B') : Same B' C' w w' := fun k x y => h.block k (by omega) (by omega)
theorem Mid.ofGrown {B C : Nat} {w w' : World} {row : Option Nat} (h : w.grownBy w' row) (hr : ∀ g, row = some g → B ≤ g ∧ g < C) : Mid B C w w' :=
  ⟨h.os, h.tape, h.output, h.size, fun k x y => h.block k x (fun e => by have := hr k e.symm; omega)⟩
theorem Mid.ofBelow {B C : Nat} {w w' : World} (h : Below w.heap.size w w') : Mid B C w w' := ⟨h.os, h.tape, h.output, h.size, fun k x _ => h.block k x⟩

theorem ReadI.kept {w w' : World} {v : Value} {l : List Int} (h : ReadI w v l) (hb : Below w.heap.size w w') : ReadI w' v l := by
  obtain ⟨a, cap, hv, hc⟩ := h
  refine ⟨a, cap, hv, fun i hi => ?_⟩
  obtain ⟨x, hx, hcell⟩ := hc i hi
  exact ⟨x, hx, (hb.cell (World.block_lt_of_cell? w _ hcell)).trans hcell⟩
theorem ReadI.nil (w : World) : ReadI w (.slice none 0 0) [] := ⟨none, 0, rfl, fun i h => by simp at h⟩
theorem OwnI.same {w w' : World} {B : Nat} {v : Value} {l : List Int} (h : OwnI w B v l) (hs : ∀ g, v.ownBlock = some g → w'.heap[g]? = w.heap[g]?) : OwnI w' B v l := by
  refine ⟨h.1, ?_⟩
  rcases h.2 with hn | ⟨g, cap, cur, rfl, hB, hgg, rest⟩
  · exact .inl hn
  · exact .inr ⟨g, cap, cur, rfl, hB, (hs g rfl).trans hgg, rest⟩

/-- The slice value v can be read: it holds rows that can be read. -/
def ReadSS (w : World) (v : Value) (ll : List (List Int)) : Prop :=
  ∃ a cap, v = .slice a ll.length cap ∧ ∀ i, i < ll.length → ∃ x u, a = some x ∧ w.cell? (x.add i) = some u ∧ ReadI w u (ll.getD i [])
theorem ReadSS.kept {w w' : World} {v : Value} {ll : List (List Int)} (h : ReadSS w v ll) (hb : Below w.heap.size w w') : ReadSS w' v ll := by
  obtain ⟨a, cap, hv, hc⟩ := h
  refine ⟨a, cap, hv, fun i hi => ?_⟩
  obtain ⟨x, u, hx, hcell, hr⟩ := hc i hi
  exact ⟨x, u, hx, (hb.cell (World.block_lt_of_cell? w _ hcell)).trans hcell, hr.kept hb⟩
theorem ReadSS.nil (w : World) : ReadSS w (.slice none 0 0) [] := ⟨none, 0, rfl, fun i h => by simp at h⟩

/-- The slice value v owns rows of its own, all of them blocks from B on and below C, no two of them one block. -/
def OwnSS (w : World) (B C : Nat) (v : Value) (ll : List (List Int)) : Prop :=
  ∃ V : Nat → Value, w.ownsRow B 40 1 v ll.length ((List.range ll.length).map V) ∧ (∀ g, v.ownBlock = some g → g < C) ∧
    (∀ i, i < ll.length → OwnI w B (V i) (ll.getD i []) ∧ ∀ g, (V i).ownBlock = some g → g < C) ∧
    (∀ i j, i < j → j < ll.length → ∀ g, (V i).ownBlock = some g → (V j).ownBlock ≠ some g)
theorem OwnSS.nil (w : World) (B C : Nat) : OwnSS w B C (.slice none 0 0) [] :=
  ⟨fun _ => .slice none 0 0, World.ownsRow_nil _ _ _ _, (fun g h => by cases h), (fun i h => absurd h (Nat.not_lt_zero _)), (fun i j _ h => absurd h (Nat.not_lt_zero _))⟩
theorem OwnSS.same {w w' : World} {B C : Nat} {v : Value} {ll : List (List Int)} (h : OwnSS w B C v ll) (hs : Same B C w w') : OwnSS w' B C v ll := by
  obtain ⟨V, h1, h2, h3, h4⟩ := h
  refine ⟨V, ⟨h1.1, ?_⟩, h2, fun i hi => ⟨(h3 i hi).1.same fun g hg => hs g ((h3 i hi).1.lt g hg).1 ((h3 i hi).2 g hg), (h3 i hi).2⟩, h4⟩
  rcases h1.2 with hn | ⟨g, cap, cur, rfl, hB, hgg, rest⟩
  · exact .inl hn
  · exact .inr ⟨g, cap, cur, rfl, hB, (hs g hB (h2 g rfl)).trans hgg, rest⟩
theorem OwnSS.base {w : World} {B B' C C' : Nat} {v : Value} {ll : List (List Int)} (h : OwnSS w B C v ll) (hB : B' ≤ B) (hC : C ≤ C') : OwnSS w B' C' v ll := by
  obtain ⟨V, h1, h2, h3, h4⟩ := h
  refine ⟨V, ⟨h1.1, ?_⟩, fun g hg => Nat.lt_of_lt_of_le (h2 g hg) hC, fun i hi => ⟨(h3 i hi).1.base hB, fun g hg => Nat.lt_of_lt_of_le ((h3 i hi).2 g hg) hC⟩, h4⟩
  rcases h1.2 with hn | ⟨g, cap, cur, rfl, hb, rest⟩
  · exact .inl hn
  · exact .inr ⟨g, cap, cur, rfl, by omega, rest⟩
/-- The shape of an owned value, and the cells of the outer row. -/
theorem ownsRow_shape {w : World} {B : Nat} {e : TypeId} {v : Value} {n : Nat} {xs : List Value} (h : w.ownsRow B e 1 v n xs) : (v = .slice none 0 0 ∧ n = 0) ∨ ∃ g cap, v = .slice (some ⟨g, 0, none⟩) n cap ∧ v.ownBlock = some g ∧ B ≤ g ∧ g < w.heap.size := by
  rcases h.2 with ⟨rfl, hn⟩ | ⟨g, cap, cur, rfl, hB, hgg, rest⟩
  · exact .inl ⟨rfl, hn⟩
  · exact .inr ⟨g, cap, rfl, rfl, hB, (Array.getElem?_eq_some_iff.1 hgg).1⟩
theorem add_zero_off (g i : Nat) : (⟨g, 0, none⟩ : Addr).add i = ⟨g, i, none⟩ := by unfold Addr.add; split <;> simp_all
theorem OwnSS.read {w : World} {B C : Nat} {v : Value} {ll : List (List Int)} (h : OwnSS w B C v ll) : ReadSS w v ll := by
  obtain ⟨V, h1, h2, h3, h4⟩ := h
  rcases ownsRow_shape h1 with ⟨rfl, hn⟩ | ⟨g, cap, rfl, -, -, -⟩
  · exact ⟨none, 0, by rw [hn], fun i hi => by omega⟩
  · refine ⟨_, cap, rfl, fun i hi => ⟨_, V i, rfl, ?_, (h3 i hi).1.read⟩⟩
    rw [add_zero_off, World.ownsRow.cellAt h1 i (by omega)]
    simp [hi]
/-- Blocks of rows of ints and blocks of rows of slices differ. -/
theorem row_apart {w : World} {B B' : Nat} {v v' : Value} {n : Nat} {xs : List Value} {l : List Int} (h : w.ownsRow B 40 1 v n xs) (h' : OwnI w B' v' l) : ∀ g, v.ownBlock = some g → v'.ownBlock ≠ some g := by
  intro g hg hg'
  rcases h.2 with ⟨rfl, _⟩ | ⟨g1, cap, cur, rfl, hB, hgg, rest⟩
  · cases hg
  · rcases h'.2 with ⟨rfl, _⟩ | ⟨g2, cap2, cur2, rfl, hB2, hgg2, rest2⟩
    · cases hg'
    · simp [Value.ownBlock] at hg hg'
      subst hg hg'
      rw [hgg] at hgg2
      simp at hgg2
theorem getD_snoc {α : Type} (l : List α) (x d : α) (i : Nat) (hi : i < l.length + 1) : (l ++ [x]).getD i d = if i < l.length then l.getD i d else x := by
  split
  · next h => simp [List.getD_eq_getElem?_getD, List.getElem?_append_left h]
  · next h =>
    obtain rfl : i = l.length := by omega
    simp [List.getD_eq_getElem?_getD]
/-- The outer row after one more row u was appended to it (the law of append gives h1, hg); u is a row of its own in a block of its own. -/
theorem OwnSS.snocV {w w' : World} {B C C' : Nat} {v v' u : Value} {ll : List (List Int)} {l : List Int} {V : Nat → Value} (o1 : w.ownsRow B 40 1 v ll.length ((List.range ll.length).map V)) (_o2 : ∀ g, v.ownBlock = some g → g < C)
    (o3 : ∀ i, i < ll.length → OwnI w B (V i) (ll.getD i []) ∧ ∀ g, (V i).ownBlock = some g → g < C) (o4 : ∀ i j, i < j → j < ll.length → ∀ g, (V i).ownBlock = some g → (V j).ownBlock ≠ some g)
    (hu : OwnI w B u l) (huC : ∀ g, u.ownBlock = some g → C ≤ g ∧ g < C')
    (h1 : w'.ownsRow B 40 1 v' (ll.length + 1) ((List.range ll.length).map V ++ [u])) (hg : w.grownBy w' v.ownBlock) (hC : C ≤ C') (hv' : ∀ g, v'.ownBlock = some g → g < C') : OwnSS w' B C' v' (ll ++ [l]) := by
  have hap : ∀ i, i < ll.length → ∀ g, v.ownBlock = some g → (V i).ownBlock ≠ some g := fun i hi => row_apart o1 (o3 i hi).1
  have hapu : ∀ g, v.ownBlock = some g → u.ownBlock ≠ some g := row_apart o1 hu
  refine ⟨fun i => if i < ll.length then V i else u, ?_, hv', fun i hi => ?_, fun i j hij hj g => ?_⟩
  · have e : (List.range (ll ++ [l]).length).map (fun i => if i < ll.length then V i else u) = (List.range ll.length).map V ++ [u] := by
      rw [List.length_append, List.length_singleton, List.range_succ, List.map_append]
      congr 1
      · apply List.map_congr_left; intro i hi; rw [List.mem_range] at hi; simp [hi]
      · simp
    rw [e, List.length_append]; exact h1
  · rw [List.length_append, List.length_singleton] at hi
    rw [getD_snoc _ _ _ _ hi]
    by_cases hlt : i < ll.length
    · simp only [hlt, if_true]
      exact ⟨(o3 i hlt).1.keptBy hg (fun g hg => hap i hlt g hg), fun g hgg => Nat.lt_of_lt_of_le ((o3 i hlt).2 g hgg) hC⟩
    · simp only [hlt, if_false]
      exact ⟨hu.keptBy hg hapu, fun g hgg => (huC g hgg).2⟩
  · rw [List.length_append, List.length_singleton] at hj
    have hi : i < ll.length := by omega
    simp only [hi, if_true]
    by_cases hlt : j < ll.length
    · simp only [hlt, if_true]; exact o4 i j hij hlt g
    · simp only [hlt, if_false]
      intro a b
      have := (o3 i hi).2 g a
      have := (huC g b).1
      omega
theorem OwnSS.full {w : World} {B C : Nat} {v : Value} {n : Nat} (h : w.ownsRow B 40 1 v n (madeCells (Value.cells (.slice none 0 0)) (n * 1)).toList) (hC : ∀ g, v.ownBlock = some g → g < C) : OwnSS w B C v (List.replicate n []) := by
  have e : (madeCells (Value.cells (.slice none 0 0)) (n * 1)).toList = (List.range n).map (fun _ => Value.slice none 0 0) := by
    rw [show Value.cells (.slice none 0 0) = #[.slice none 0 0] from rfl, toList_madeCells_one, Nat.mul_one]
    apply List.ext_getElem
    · simp
    · intro i h1 h2; simp
  rw [e] at h
  refine ⟨fun _ => .slice none 0 0, by rw [List.length_replicate]; exact h, hC, fun i hi => ⟨?_, fun g hg => by cases hg⟩, fun i j _ _ g hg => by cases hg⟩
  rw [List.length_replicate] at hi
  rw [show (List.replicate n ([] : List Int)).getD i [] = [] by rw [List.getD_eq_getElem?_getD, List.getElem?_eq_getElem (by simpa using hi)]; simp]
  exact World.ownsRow_nil _ _ _ _
theorem OwnSS.outer {w : World} {B C g n cap : Nat} {ll : List (List Int)} (h : OwnSS w B C (.slice (some ⟨g, 0, none⟩) n cap) ll) (k : Nat) (hk : k < ll.length) : (∃ u, w.cell? ⟨g, k, none⟩ = some u ∧ ReadI w u (ll.getD k [])) ∧ w.frozen? ⟨g, k, none⟩ = false := by
  obtain ⟨V, h1, h2, h3, h4⟩ := h
  have hn : n = ll.length := by
    rcases h1.2 with ⟨h', _⟩ | ⟨g', cap', cur, h', _⟩ <;> simp at h'; omega
  subst hn
  refine ⟨⟨V k, ?_, (h3 k hk).1.read⟩, World.ownsRow.frozenAt h1 k⟩
  rw [World.ownsRow.cellAt h1 k (by omega)]
  simp [hk]
theorem getD_set {α : Type} (l : List α) (k i : Nat) (x d : α) (hk : k < l.length) : (l.set k x).getD i d = if i = k then x else l.getD i d := by
  rw [List.getD_eq_getElem?_getD, List.getElem?_set]
  by_cases h : k = i
  · subst h; simp [hk]
  · rw [if_neg h, if_neg (fun e => h e.symm), List.getD_eq_getElem?_getD]
theorem OwnSS.store {w : World} {B C C' g n cap k : Nat} {u : Value} {ll : List (List Int)} {l : List Int} (h : OwnSS w B C (.slice (some ⟨g, 0, none⟩) n cap) ll) (hk : k < ll.length) (hu : OwnI w B u l) (huC : ∀ q, u.ownBlock = some q → C ≤ q ∧ q < C') (hC : C ≤ C') :
    OwnSS (w.setCell ⟨g, k, none⟩ u) B C' (.slice (some ⟨g, 0, none⟩) n cap) (ll.set k l) := by
  obtain ⟨V, o1, o2, o3, o4⟩ := h
  have hn : n = ll.length := by
    rcases o1.2 with ⟨h', _⟩ | ⟨g', cap', cur, h', _⟩ <;> simp at h'; omega
  subst hn
  have hap : ∀ i, i < ll.length → (V i).ownBlock ≠ some g := fun i hi => row_apart o1 (o3 i hi).1 g rfl
  have hapu : u.ownBlock ≠ some g := row_apart o1 hu g rfl
  obtain ⟨s1, s2⟩ := World.ownsRow.stored o1 k u
  have hblk : ∀ q, q ≠ g → (w.setCell ⟨g, k, none⟩ u).heap[q]? = w.heap[q]? := fun q hq => Below.heap_setCell _ _ _ _ hq
  refine ⟨fun i => if i = k then u else V i, ?_, fun q hq => Nat.lt_of_lt_of_le (o2 q hq) hC, fun i hi => ?_, fun i j hij hj q => ?_⟩
  · have e : (List.range (ll.set k l).length).map (fun i => if i = k then u else V i) = ((List.range ll.length).map V).set k u := by
      rw [List.length_set]
      apply List.ext_getElem
      · simp
      · intro i h1 h2
        simp only [List.length_map, List.length_range] at h1
        rw [List.getElem_set]
        simp only [List.getElem_map, List.getElem_range]
        by_cases h : i = k
        · simp [h]
        · rw [if_neg h, if_neg (fun e => h e.symm)]
    rw [e, List.length_set]; exact s1
  · rw [List.length_set] at hi
    rw [getD_set _ _ _ _ _ hk]
    by_cases hik : i = k
    · simp only [hik, if_true]
      exact ⟨hu.same (fun q hq => hblk q (fun e => hapu (by rw [← e]; exact hq))), fun q hq => (huC q hq).2⟩
    · simp only [hik, if_false]
      exact ⟨(o3 i hi).1.same (fun q hq => hblk q (fun e => hap i hi (by rw [← e]; exact hq))), fun q hq => Nat.lt_of_lt_of_le ((o3 i hi).2 q hq) hC⟩
  · rw [List.length_set] at hj
    by_cases hik : i = k
    · have hjk : ¬ j = k := by omega
      simp only [hik, hjk, if_true, if_false]
      intro a b
      have := (huC q a).1
      have := (o3 j hj).2 q b
      omega
    · by_cases hjk : j = k
      · simp only [hik, hjk, if_true, if_false]
        intro a b
        have := (huC q b).1
        have := (o3 i (by omega)).2 q a
        omega
      · simp only [hik, hjk, if_false]; exact o4 i j hij hj q
theorem OwnSS.cap {w : World} {B C : Nat} {v : Value} {ll : List (List Int)} (h : OwnSS w B C v ll) : ∃ a cap, v = .slice a ll.length cap ∧ ll.length ≤ cap := by
  obtain ⟨V, h1, -⟩ := h
  rcases h1.2 with ⟨rfl, hn⟩ | ⟨g, cap, cur, rfl, hB, hgg, hc, rest⟩
  · exact ⟨none, 0, by rw [hn], by omega⟩
  · exact ⟨_, cap, rfl, hc⟩
/-- A slice of rows in memory of the call's own. -/
def RetSS (ll : List (List Int)) (w : World) (e : Ending) (w' : World) : Prop := ∃ v, e = .returned v ∧ OwnSS w' w.heap.size w'.heap.size v ll ∧ Below w.heap.size w w'
/-- A table in memory of the call's own. -/
def RetT (c : Int) (ll : List (List Int)) (w : World) (e : Ending) (w' : World) : Prop := ∃ v, e = .returned (.agg #[.int .i64 c, v]) ∧ OwnSS w' w.heap.size w'.heap.size v ll ∧ Below w.heap.size w w'
end Go.Proofs.YtnbjcelfdppkcadGreat
namespace Go.Proofs.YtnbjcelfdppkcadGreat
open Go.RowKit

/-- The number of cells of all rows. -/
def tot (ll : List (List Int)) : Nat := (ll.map List.length).sum
theorem take_succ_getD {α : Type} (l : List α) (d : α) (k : Nat) (h : k < l.length) : l.take (k + 1) = l.take k ++ [l.getD k d] := by
  rw [List.take_succ_eq_append_getElem h, List.getD_eq_getElem?_getD, List.getElem?_eq_getElem h]; rfl
theorem tot_succ {ll : List (List Int)} {k : Nat} (h : k < ll.length) : tot (ll.take (k + 1)) = tot (ll.take k) + (ll.getD k []).length := by
  rw [take_succ_getD ll [] k h]; simp [tot]
theorem tot_take (ll : List (List Int)) (k : Nat) : tot (ll.take k) ≤ tot ll := by
  have h : tot ll = tot (ll.take k) + tot (ll.drop k) := by
    unfold tot; rw [← List.sum_append, ← List.map_append, List.take_append_drop]
  omega
theorem tot_get {ll : List (List Int)} {k : Nat} (h : k < ll.length) : (ll.getD k []).length ≤ tot ll := by
  have h1 := tot_succ h
  have h2 := tot_take ll (k + 1)
  omega
/-- What is left of a budget. -/
def szD (left : Int) (n : Nat) : Int := if (n : Int) ≤ left then left - n else -1
/-- No row is longer than a slice may be. -/
def Short (ll : List (List Int)) : Prop := ll.length ≤ 9223372036854775807 ∧ ∀ i, i < ll.length → (ll.getD i []).length ≤ 9223372036854775807
theorem bcell {W w1 : World} (hb : Below W.heap.size W w1) : (∀ b o, b < W.heap.size → w1.cell? ⟨b, o, none⟩ = W.cell? ⟨b, o, none⟩) ∧ (∀ b o, b < W.heap.size → w1.frozen? ⟨b, o, none⟩ = W.frozen? ⟨b, o, none⟩) :=
  ⟨fun b o h => hb.cell (p := ⟨b, o, none⟩) h, fun b o h => hb.frozen (p := ⟨b, o, none⟩) h⟩
/-- The cells of a table. -/
def szOf (ll : List (List Int)) : Nat := ll.length + tot ll
/-! ### Equality -/
theorem take_eq_all {ll ll' : List (List Int)} {n : Nat} (h : ll.take n = ll'.take n) (h1 : ll.length ≤ n) (h2 : ll'.length ≤ n) : ll = ll' := by
  rwa [List.take_of_length_le h1, List.take_of_length_le h2] at h
/-- Two tables are equal. -/
def eqTb (c c' : Int) (ll ll' : List (List Int)) : Bool := decide (c = c') && decide (ll = ll')
theorem eqTb_self (c : Int) (ll : List (List Int)) : eqTb c c ll ll = true := by unfold eqTb; simp
theorem szD_ok {left : Int} {n : Nat} (h : (n : Int) ≤ left) : szD left n = left - n := by unfold szD; rw [if_pos h]
theorem szD_no {left : Int} {n : Nat} (h : ¬ (n : Int) ≤ left) : szD left n = -1 := by unfold szD; rw [if_neg h]
theorem szOf_bd {ll : List (List Int)} {m : Nat} (h : szOf ll ≤ m) : ll.length ≤ m ∧ ∀ i, i < ll.length → (ll.getD i []).length ≤ m := by
  unfold szOf at h
  exact ⟨by omega, fun i hi => by have := tot_get hi; omega⟩
end Go.Proofs.YtnbjcelfdppkcadGreat
