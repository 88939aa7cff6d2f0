/- Texts of this claim, merged: Kit, Bits, Draw, Draw2, Draw3, Leaf, Ints. Conditions: as stated. -/
import Derived.WalkKit
import Derived.ProofKit
import Derived.OpenShut
import Derived.ShutString
import Derived.OwnWalk
import Derived.Lib.Hide
import Derived.Laws.BytesArg
import Derived.Laws.IdiomStrings
import Derived.Laws.OwnMore
import Derived.Laws.BitsAllLaws
import Derived.Test.YtnbjcelfdppkcadGreatRows
import Derived.Deep.QuietTactic
import Derived.BigQuiet
import Derived.Maps.AppendAt
import Derived.ChangeOld
import Derived.Below
import Derived.WalkSpells
import Derived.WalkLawsBesides
import Derived.LoopN
namespace Go.Proofs.YtnbjcelfdppkcadGreat
open Go.RowKit

/-! ### Bytes as values -/
def bytesV (l : List UInt8) : List Value := l.map fun b => Value.int .u8 (b.toNat : Int)
theorem bytesV_length (l : List UInt8) : (bytesV l).length = l.length := by simp [bytesV]
theorem bytesV_append (l m : List UInt8) : bytesV (l ++ m) = bytesV l ++ bytesV m := by simp [bytesV]
theorem bytesV_one {x : Int} (h0 : 0 ≤ x) (h1 : x < 256) : [Value.int .u8 x] = bytesV [UInt8.ofNat x.toNat] := by
  have : x.toNat % 256 = x.toNat := Nat.mod_eq_of_lt (by omega)
  simp [bytesV, this]; omega
theorem bytesV_two {x y : Int} (h0 : 0 ≤ x) (h1 : x < 256) (k0 : 0 ≤ y) (k1 : y < 256) : [Value.int .u8 x, Value.int .u8 y] = bytesV [UInt8.ofNat x.toNat, UInt8.ofNat y.toNat] := by
  have e1 : x.toNat % 256 = x.toNat := Nat.mod_eq_of_lt (by omega)
  have e2 : y.toNat % 256 = y.toNat := Nat.mod_eq_of_lt (by omega)
  simp [bytesV, e1, e2]; omega
theorem bytesV_get (l : List UInt8) (j : Nat) (hj : j < l.length) : (bytesV l)[j]? = some (.int .u8 (l[j].toNat : Int)) := by
  simp [bytesV, List.getElem?_eq_getElem hj]

/-- The slice value v owns the bytes l, among blocks from B on. -/
def OwnB (w : World) (B : Nat) (E : TypeId) (v : Value) (l : List UInt8) : Prop := w.ownsRow B E 1 v l.length (bytesV l)
theorem OwnB.nil (w : World) (B : Nat) (E : TypeId) : OwnB w B E (.slice none 0 0) [] := World.ownsRow_nil _ _ _ _
theorem OwnB.made {w : World} {B : Nat} {E : TypeId} {v : Value} (h : w.ownsRow B E 1 v 0 []) : OwnB w B E v [] := h
theorem OwnB.alloc {w : World} {B : Nat} {E : TypeId} {v : Value} {l : List UInt8} (h : OwnB w B E v l) (o : Obj) : OwnB (w.alloc o) B E v l := World.ownsRow.alloc h o
theorem OwnB.drew {w : World} {B : Nat} {E : TypeId} {v : Value} {l : List UInt8} (h : OwnB w B E v l) : OwnB w.drew B E v l := h
theorem OwnB.kept {w w' : World} {B C : Nat} {E : TypeId} {v : Value} {l : List UInt8} (h : OwnB w B E v l) (hb : Below C w w') (hC : ∀ k, v.ownBlock = some k → k < C) : OwnB w' B E v l := by
  refine ⟨h.1, ?_⟩
  rcases h.2 with hn | ⟨g, cap, cur, rfl, hB, hgg, rest⟩
  · exact .inl hn
  · exact .inr ⟨g, cap, cur, rfl, hB, (hb.block g (hC g rfl)).trans hgg, rest⟩
theorem OwnB.snoc {w : World} {B : Nat} {E : TypeId} {v : Value} {l : List UInt8} {x : Int} (h0 : 0 ≤ x) (h1 : x < 256)
    (h : w.ownsRow B E 1 v (l.length + 1) (bytesV l ++ [.int .u8 x])) : OwnB w B E v (l ++ [UInt8.ofNat x.toNat]) := by
  unfold OwnB
  rw [bytesV_append, ← bytesV_one h0 h1, List.length_append]; exact h
theorem OwnB.snoc2 {w : World} {B : Nat} {E : TypeId} {v : Value} {l : List UInt8} {x y : Int} (h0 : 0 ≤ x) (h1 : x < 256) (k0 : 0 ≤ y) (k1 : y < 256)
    (h : w.ownsRow B E 1 v (l.length + 2) (bytesV l ++ [.int .u8 x, .int .u8 y])) : OwnB w B E v (l ++ [UInt8.ofNat x.toNat, UInt8.ofNat y.toNat]) := by
  unfold OwnB
  rw [bytesV_append, ← bytesV_two h0 h1 k0 k1, List.length_append]; exact h
theorem OwnB.lt {w : World} {B : Nat} {E : TypeId} {v : Value} {l : List UInt8} (h : OwnB w B E v l) : ∀ k, v.ownBlock = some k → B ≤ k ∧ k < w.heap.size := World.ownsRow.lt h

theorem bytesV_set (l : List UInt8) (j : Nat) {x : Int} (h0 : 0 ≤ x) (h1 : x < 256) : (bytesV l).set j (.int .u8 x) = bytesV (l.set j (UInt8.ofNat x.toNat)) := by
  have e := bytesV_one h0 h1
  have e2 : Value.int .u8 x = Value.int .u8 ((UInt8.ofNat x.toNat).toNat : Int) := by simpa [bytesV] using e
  rw [e2]; unfold bytesV; rw [List.map_set]
theorem OwnB.store {w : World} {B : Nat} {E : TypeId} {g n cap : Nat} {l : List UInt8} (h : OwnB w B E (.slice (some ⟨g, 0, none⟩) n cap) l) (j : Nat) {x : Int} (h0 : 0 ≤ x) (h1 : x < 256) :
    OwnB (w.setCell ⟨g, j, none⟩ (.int .u8 x)) B E (.slice (some ⟨g, 0, none⟩) n cap) (l.set j (UInt8.ofNat x.toNat)) := by
  have hn : n = l.length := by
    rcases h.2 with ⟨h', _⟩ | ⟨g', cap', cur, h', _⟩ <;> simp at h'; omega
  subst hn
  unfold OwnB
  rw [List.length_set, ← bytesV_set l j h0 h1]
  exact (World.ownsRow.stored h j _).1
theorem OwnB.cell {w : World} {B : Nat} {E : TypeId} {g n cap : Nat} {l : List UInt8} (h : OwnB w B E (.slice (some ⟨g, 0, none⟩) n cap) l) (j : Nat) (hj : j < l.length) :
    w.cell? ⟨g, j, none⟩ = some (.int .u8 (l[j].toNat : Int)) := by
  have hn : n = l.length := by
    rcases h.2 with ⟨h', _⟩ | ⟨g', cap', cur, h', _⟩ <;> simp at h'; omega
  subst hn
  rw [World.ownsRow.cellAt h j (by omega), bytesV_get l j hj]
theorem OwnB.frozen {w : World} {B : Nat} {E : TypeId} {g n cap : Nat} {l : List UInt8} (h : OwnB w B E (.slice (some ⟨g, 0, none⟩) n cap) l) (j : Nat) : w.frozen? ⟨g, j, none⟩ = false := by
  have hn : n = l.length := by
    rcases h.2 with ⟨h', _⟩ | ⟨g', cap', cur, h', _⟩ <;> simp at h'; omega
  subst hn
  exact World.ownsRow.frozenAt h j
theorem OwnB.full {w : World} {B : Nat} {E : TypeId} {v : Value} {n : Nat} (h : w.ownsRow B E 1 v n (madeCells (Value.cells (.int .u8 0)) (n * 1)).toList) : OwnB w B E v (List.replicate n 0) := by
  unfold OwnB
  have e : (madeCells (Value.cells (.int .u8 0)) (n * 1)).toList = bytesV (List.replicate n 0) := by
    rw [show Value.cells (.int .u8 0) = #[.int .u8 0] from rfl, toList_madeCells_one]; simp [bytesV]
  rw [e] at h; rw [List.length_replicate]; exact h
/-- 'string(v)' where v owns the bytes l. -/
theorem OwnB.conv {P : Program} {w : World} {B : Nat} {E S T : TypeId} {v : Value} {l : List UInt8} (hs : P.underlying S = some (.slice E)) (he : P.underlying E = some (.int .u8)) (hd : P.underlying T = some .string)
    (h : OwnB w B E v l) : (convert S T v).run P w = .ok (.string ⟨l.toArray⟩) w := by
  rcases h.2 with ⟨rfl, hn⟩ | ⟨g, cap, cur, rfl, _, hgg, hnc, hcm, hcs, htake⟩
  · have : l = [] := List.eq_nil_of_length_eq_zero hn
    subst this
    rw [run_convert_bytes_nil w S E hs he 0 0 T hd]; rfl
  · refine run_convert_bytes_back w S T E _ cap l hs he hd fun j hj => ?_
    have hadd : (⟨g, 0, none⟩ : Addr).add j = ⟨g, j, none⟩ := by unfold Addr.add; split <;> simp_all
    rw [hadd]
    have := World.ownsRow.cellAt h j (by omega)
    rw [this, bytesV_get l j hj]

/-- 'string([]byte{x})'. -/
theorem conv_one {P : Program} {E S T : TypeId} (hs : P.underlying S = some (.slice E)) (he : P.underlying E = some (.int .u8)) (hd : P.underlying T = some .string)
    (w : World) (x : Int) : (convert S T (.slice (some ⟨w.heap.size, 0, none⟩) 1 1)).run P (w.alloc (.cells #[.int .u8 x] E)) = .ok (.string (strOfNums [x])) (w.alloc (.cells #[.int .u8 x] E)) := by
  refine run_convert_bytes_arg _ S E hs he w.heap.size 0 1 1 [x] rfl (fun i hi => ?_) T hd
  have : i = 0 := by omega
  subst this
  simp [World.cell?_alloc_mark]
theorem strOfNums_one (x : Int) : strOfNums [x] = ⟨#[UInt8.ofNat x.toNat]⟩ := by simp [strOfNums]

theorem str_ext {a b : ByteArray} (h : a.data.toList = b.data.toList) : a = b := by
  cases a; cases b; simp at h; simp [h]
theorem str_add (a b : ByteArray) : (a ++ b).data.toList = a.data.toList ++ b.data.toList := by rw [ByteArray.data_append, Array.toList_append]
theorem str_size (s : ByteArray) : s.size = s.data.toList.length := by rw [Array.length_toList]; rfl
theorem ret_str {a b : ByteArray} (h : a.data.toList = b.data.toList) : Ending.returned (.string a) = .returned (.string b) := by rw [str_ext h]
theorem ret_s {a b : ByteArray} (h : b = a) : Ending.returned (.string a) = .returned (.string b) := by rw [h]
theorem ret_b {a b : Bool} (h : b = a) : Ending.returned (.bool a) = .returned (.bool b) := by rw [h]
theorem ret_int {k : IntKind} {a b : Int} (h : a = b) : Ending.returned (.int k a) = .returned (.int k b) := by rw [h]

theorem wf_i64_le {n : Int} (h : (Lit.int .i64 n).wf = true) : n ≤ 9223372036854775807 := by
  simp [Lit.wf, IntKind.max, IntKind.min, IntKind.bits, IntKind.signed] at h; omega
theorem wf_i64_ge {n : Int} (h : (Lit.int .i64 n).wf = true) : -9223372036854775808 ≤ n := by
  simp [Lit.wf, IntKind.max, IntKind.min, IntKind.bits, IntKind.signed] at h; omega

theorem one_u8 (x : Int) : ∀ u ∈ [Value.int .u8 x], u.oneCell' = true := by intro u hu; simp at hu; subst hu; rfl
theorem two_u8 (x y : Int) : ∀ u ∈ [Value.int .u8 x, Value.int .u8 y], u.oneCell' = true := by intro u hu; simp at hu; rcases hu with rfl | rfl <;> rfl
theorem le_alloc {B : Nat} {w wr : World} (hb : Below B w wr) (hB : B ≤ w.heap.size) (o : Obj) : B ≤ (wr.alloc o).heap.size := by have := hb.size; simp; omega

/-! ### Big-endian digits -/
def be : Nat → Int → List UInt8
  | 0, _ => []
  | k + 1, n => be k (n / 256) ++ [UInt8.ofNat (n % 256).toNat]
theorem be_length (k : Nat) (n : Int) : (be k n).length = k := by
  induction k generalizing n with
  | zero => rfl
  | succ k ih => simp [be, ih]
theorem div_pow_succ (n : Int) (k : Nat) : n / 256 ^ k / 256 = n / 256 ^ (k + 1) := by
  rw [Int.pow_succ, Int.ediv_ediv_of_nonneg (by exact Int.pow_nonneg (by omega))]
theorem div_pow_succ' (n : Int) (k : Nat) : n / 256 / 256 ^ k = n / 256 ^ (k + 1) := by
  rw [Int.pow_succ, Int.mul_comm, Int.ediv_ediv_of_nonneg (by omega)]
theorem be_front (k : Nat) (n : Int) : be (k + 1) n = UInt8.ofNat (n / 256 ^ k % 256).toNat :: be k n := by
  induction k generalizing n with
  | zero => simp [be]
  | succ k ih =>
    have e : be (k + 1 + 1) n = be (k + 1) (n / 256) ++ [UInt8.ofNat (n % 256).toNat] := rfl
    rw [e, ih, div_pow_succ']
    rfl
theorem pow_bytes (d : Nat) : (2 : Int) ^ (8 * d) = 256 ^ d := by
  rw [Int.pow_mul]; rfl
theorem be_set (q j : Nat) (n : Int) : (List.replicate (q + 1) 0 ++ be j n).set q (UInt8.ofNat (n / 256 ^ j % 256).toNat) = List.replicate q 0 ++ be (j + 1) n := by
  rw [List.replicate_succ', List.append_assoc, List.set_append, if_neg (by simp), be_front]; simp
end Go.Proofs.YtnbjcelfdppkcadGreat
namespace Go.Proofs.YtnbjcelfdppkcadGreat
open Go.RowKit

theorem i64_or_nat (a b : Nat) (ha : a < 9223372036854775808) (hb : b < 9223372036854775808) : bits .or .i64 (a : Int) (b : Int) = ((a ||| b : Nat) : Int) := by
  have hx : a ||| b < 2 ^ 63 := Nat.or_lt_two_pow (by omega) (by omega)
  show IntKind.i64.wrap ((BitVec.ofInt 64 (a : Int) ||| BitVec.ofInt 64 (b : Int)).toNat : Int) = _
  rw [BitVec.toNat_or, ofInt_u64 a (by omega), ofInt_u64 b (by omega), IntKind.wrap_i64]
  omega
theorem i64_and_nat (a b : Nat) (ha : a < 9223372036854775808) (hb : b < 9223372036854775808) : bits .and .i64 (a : Int) (b : Int) = ((a &&& b : Nat) : Int) := by
  have hx : a &&& b < 2 ^ 63 := Nat.and_lt_two_pow _ (by omega)
  show IntKind.i64.wrap ((BitVec.ofInt 64 (a : Int) &&& BitVec.ofInt 64 (b : Int)).toNat : Int) = _
  rw [BitVec.toNat_and, ofInt_u64 a (by omega), ofInt_u64 b (by omega), IntKind.wrap_i64]
  omega
/-- 'x | y' where x is a multiple of 2^k and y is below 2^k. -/
theorem i64_or_add (k : Nat) {x y : Int} (hx0 : 0 ≤ x) (hx1 : x ≤ 9223372036854775807) (hx2 : x % ((2 ^ k : Nat) : Int) = 0) (hy0 : 0 ≤ y) (hy1 : y ≤ 9223372036854775807) (hy2 : y < ((2 ^ k : Nat) : Int)) :
    bits .or .i64 x y = x + y := by
  obtain ⟨a, rfl⟩ := Int.eq_ofNat_of_zero_le hx0
  obtain ⟨b, rfl⟩ := Int.eq_ofNat_of_zero_le hy0
  rw [i64_or_nat a b (by omega) (by omega), nat_join k a b (by omega) (by omega)]
  omega
theorem i64_or_low (k : Nat) {x y : Int} (hx0 : 0 ≤ x) (hx1 : x ≤ 9223372036854775807) (hx2 : x < ((2 ^ k : Nat) : Int)) (hy0 : 0 ≤ y) (hy1 : y ≤ 9223372036854775807) (hy2 : y % ((2 ^ k : Nat) : Int) = 0) :
    bits .or .i64 x y = x + y := by
  obtain ⟨a, rfl⟩ := Int.eq_ofNat_of_zero_le hx0
  obtain ⟨b, rfl⟩ := Int.eq_ofNat_of_zero_le hy0
  rw [i64_or_nat a b (by omega) (by omega), Nat.or_comm, nat_join k b a (by omega) (by omega)]
  omega
theorem i64_and_127 {x : Int} (hx0 : 0 ≤ x) (hx1 : x ≤ 9223372036854775807) : bits .and .i64 x 127 = x % 128 := by
  obtain ⟨a, rfl⟩ := Int.eq_ofNat_of_zero_le hx0
  rw [show (127 : Int) = ((127 : Nat) : Int) from rfl, i64_and_nat a 127 (by omega) (by omega), nat_mask7]
  omega
theorem u8_and_127 {x : Int} (hx0 : 0 ≤ x) (hx1 : x ≤ 255) : bits .and .u8 x 127 = x % 128 := by
  obtain ⟨a, rfl⟩ := Int.eq_ofNat_of_zero_le hx0
  rw [show (127 : Int) = ((127 : Nat) : Int) from rfl, u8_and_nat a 127 (by omega) (by omega), nat_mask7]
  omega
theorem u8_and_15 {x : Int} (hx0 : 0 ≤ x) (hx1 : x ≤ 255) : bits .and .u8 x 15 = x % 16 := by
  obtain ⟨a, rfl⟩ := Int.eq_ofNat_of_zero_le hx0
  rw [show (15 : Int) = ((15 : Nat) : Int) from rfl, u8_and_nat a 15 (by omega) (by omega), nat_mask4]
  omega
theorem u8_or_add (k : Nat) {x y : Int} (hx0 : 0 ≤ x) (hx1 : x ≤ 255) (hx2 : x % ((2 ^ k : Nat) : Int) = 0) (hy0 : 0 ≤ y) (hy1 : y ≤ 255) (hy2 : y < ((2 ^ k : Nat) : Int)) :
    bits .or .u8 x y = x + y := by
  obtain ⟨a, rfl⟩ := Int.eq_ofNat_of_zero_le hx0
  obtain ⟨b, rfl⟩ := Int.eq_ofNat_of_zero_le hy0
  rw [u8_or_nat a b (by omega) (by omega), nat_join k a b (by omega) (by omega)]
  omega
end Go.Proofs.YtnbjcelfdppkcadGreat
namespace Go.Proofs.YtnbjcelfdppkcadGreat
open Go.RowKit

theorem i64_and_255 (n : Int) : bits .and .i64 n 255 = n % 256 := by
  have h : (BitVec.ofInt 64 255).toNat = 2 ^ 8 - 1 := by decide
  have key : (BitVec.ofInt 64 n &&& BitVec.ofInt 64 255).toNat = (n % ((2 ^ 64 : Nat) : Int)).toNat % 2 ^ 8 := by
    rw [BitVec.toNat_and, BitVec.toNat_ofInt, h, Nat.and_two_pow_sub_one_eq_mod]
  show IntKind.i64.wrap ((BitVec.ofInt 64 n &&& BitVec.ofInt 64 255).toNat : Nat) = n % 256
  rw [key, IntKind.wrap_i64]
  omega
theorem i64_and_255_bd (n : Int) : 0 ≤ bits .and .i64 n 255 ∧ bits .and .i64 n 255 ≤ 255 := by rw [i64_and_255]; omega

theorem grown_trans {a b c : World} {row : Option Nat} (h : a.grownBy b row) (k : b.grownBy c row) : a.grownBy c row :=
  ⟨k.os.trans h.os, k.tape.trans h.tape, k.output.trans h.output, Nat.le_trans h.size k.size, fun j hj hne => (k.block j (Nat.lt_of_lt_of_le hj h.size) hne).trans (h.block j hj hne)⟩
/-- The bytes that came in: nil, or n readable cells. -/
def CodeAt (W : World) (v : Value) (n : Nat) : Prop :=
  (v = .slice none 0 0 ∧ n = 0) ∨ ∃ x cap, v = .slice (some x) n cap ∧ n ≤ cap ∧ ∀ i, i < n → ∃ y : Int, 0 ≤ y ∧ y ≤ 255 ∧ W.cell? (x.add i) = some (.int .u8 y)
/-- A cursor over them, in block c, in the world w; W is the world in which they came in. -/
def Cur (W : World) (v : Value) (n c : Nat) (w : World) : Prop :=
  ∃ i h : Int, W.heap.size ≤ c ∧ w.heap[c]? = some (.cells #[v, .int .i64 i, .int .i64 h] 84 (0, 0)) ∧ 0 ≤ i ∧ i ≤ n ∧ Below W.heap.size W w
theorem Cur.lt {W w : World} {v : Value} {n c : Nat} (h : Cur W v n c w) : c < w.heap.size := by
  obtain ⟨i, h, _, hc, _⟩ := h; exact (Array.getElem?_eq_some_iff.1 hc).1
theorem Cur.kept {W w w' : World} {v : Value} {n c : Nat} {row : Option Nat} (h : Cur W v n c w) (hg : w.grownBy w' row) (hr : ∀ k, row = some k → W.heap.size ≤ k) (hne : row ≠ some c) : Cur W v n c w' := by
  have hlt := h.lt
  obtain ⟨i, j, a, b, d, e, f⟩ := h
  refine ⟨i, j, a, (hg.block c hlt (Ne.symm hne)).trans b, d, e, f.grown hg ?_ hr⟩
  have := f.size; exact this
def CurInt (W : World) (v : Value) (n c : Nat) (lo hi : Int) (w : World) (e : Ending) (w' : World) : Prop :=
  ∃ x : Int, lo ≤ x ∧ x ≤ hi ∧ e = .returned (.int .i64 x) ∧ w.grownBy w' (some c) ∧ Cur W v n c w'

theorem add_block' (x : Addr) (i : Nat) : (x.add i).block = x.block := by unfold Addr.add; split <;> rfl
theorem Code_cell {W w : World} {x : Addr} {i : Nat} {u : Value} (h : W.cell? (x.add i) = some u) (hb : Below W.heap.size W w) : w.cell? (x.add i) = some u := by
  have := World.block_lt_of_cell? W _ h
  rw [hb.cell this]; exact h

theorem store_h {w : World} {c : Nat} {v : Value} {i h : Int} (hb : w.heap[c]? = some (.cells #[v, .int .i64 i, .int .i64 h] 84 (0, 0))) (H : Int) (k : Nat) :
    w.grownBy ((w.setCell ⟨c, 2, none⟩ (.int .i64 H)).drewN k) (some c) ∧ ((w.setCell ⟨c, 2, none⟩ (.int .i64 H)).drewN k).heap[c]? = some (.cells #[v, .int .i64 i, .int .i64 H] 84 (0, 0)) := by
  refine ⟨⟨rfl, rfl, rfl, ?_, fun j _ hj => ?_⟩, ?_⟩
  · show w.heap.size ≤ (w.setCell ⟨c, 2, none⟩ (.int .i64 H)).heap.size
    simp
  · exact heap_setCell_other w ⟨c, 2, none⟩ j _ (fun e => hj (by rw [e]))
  · exact heap_setCell_same w c 2 _ _ _ hb
theorem store_hi {w : World} {c : Nat} {v : Value} {i h : Int} (hb : w.heap[c]? = some (.cells #[v, .int .i64 i, .int .i64 h] 84 (0, 0))) (H I : Int) (k : Nat) :
    w.grownBy (((w.setCell ⟨c, 2, none⟩ (.int .i64 H)).drewN k).setCell ⟨c, 1, none⟩ (.int .i64 I)) (some c) ∧ (((w.setCell ⟨c, 2, none⟩ (.int .i64 H)).drewN k).setCell ⟨c, 1, none⟩ (.int .i64 I)).heap[c]? = some (.cells #[v, .int .i64 I, .int .i64 H] 84 (0, 0)) := by
  obtain ⟨g1, h1⟩ := store_h hb H k
  refine ⟨⟨rfl, rfl, rfl, ?_, fun j hj hjc => ?_⟩, ?_⟩
  · have := g1.size; simp
  · exact (heap_setCell_other _ ⟨c, 1, none⟩ j _ (fun e => hjc (by rw [e]))).trans (g1.block j hj hjc)
  · exact heap_setCell_same _ c 1 _ _ _ h1
set_option maxHeartbeats 800000 in
theorem byte_any (W : World) (v : Value) (n : Nat) (hn : n ≤ 1048576) (hcode : CodeAt W v n) (c : Nat) (w : World) (hcur : Cur W v n c w) :
    Calls Tryz.prog 77 #[.pointer (some ⟨c, 0, none⟩)] w (CurInt W v n c 0 255 w) := by
  obtain ⟨i, h, hWc, hblk, hi0, hin, hb⟩ := hcur
  have c0 := cell_of_row w c 0 _ _ _ hblk
  have c1 := cell_of_row w c 1 _ _ _ hblk
  have c2 := cell_of_row w c 2 _ _ _ hblk
  have f1 := frozen_of_row w c 1 _ _ hblk
  have f2 := frozen_of_row w c 2 _ _ hblk
  by_cases hlt : i < n
  · rcases hcode with ⟨_, h0⟩ | ⟨x, cap, rfl, hcap, hcells⟩
    · omega
    · obtain ⟨y, y0, y1, hy⟩ := hcells i.toNat (by omega)
      have hy2 := Code_cell hy hb
      have hxc : x.block < W.heap.size := by have := World.block_lt_of_cell? W _ hy; rwa [add_block'] at this
      have hy3 : ∀ H : Int, (w.setCell ⟨c, 2, none⟩ (.int .i64 H)).cell? (x.add i.toNat) = some (.int .u8 y) := fun H =>
        (World.cell?_of_block (heap_setCell_other w ⟨c, 2, none⟩ _ _ (by rw [add_block']; simp; omega))).trans hy2
      have z1 : i < (n : Int) := by omega
      go_enter Tryz.func77, Tryz.ntmps77
      go_wp2_with fail
      go_quiet (fail)
      go_wp2_with fail
      have hX := i64_and_255_bd (bits BinOp.xor IntKind.i64 (wrap64 (wrap64 (h * 6364136223846793005) + 1442695040888963407) / 8589934592) (wrap64 (wrap64 (h * 6364136223846793005) + 1442695040888963407) / 35184372088832))
      generalize bits BinOp.and IntKind.i64 (bits BinOp.xor IntKind.i64 (wrap64 (wrap64 (h * 6364136223846793005) + 1442695040888963407) / 8589934592) (wrap64 (wrap64 (h * 6364136223846793005) + 1442695040888963407) / 35184372088832)) 255 = X at hX
      generalize bits BinOp.xor IntKind.i64 (wrap64 (wrap64 (h * 6364136223846793005) + 1442695040888963407) / 8589934592) (wrap64 (wrap64 (h * 6364136223846793005) + 1442695040888963407) / 35184372088832) = Y
      generalize wrap64 (wrap64 (h * 6364136223846793005) + 1442695040888963407) = H
      obtain ⟨x0, x1⟩ := hX
      go_quiet (fail)
      go_wp2_with fail
      go_quiet (fail)
      go_wp2_with fail
      go_ret
      obtain ⟨g1, g2⟩ := store_hi hblk H (i + 1) _
      exact ⟨_, (i64_and_255_bd _).1, (i64_and_255_bd _).2, rfl, g1, i + 1, H, hWc, g2, by omega, by omega, hb.grown g1 hb.size (fun k hk => by simp at hk; omega)⟩
  · go_enter Tryz.func77, Tryz.ntmps77
    have hlen : ∃ a cap, v = .slice a n cap := by
      rcases hcode with ⟨rfl, rfl⟩ | ⟨x, cap, rfl, _, _⟩
      · exact ⟨_, _, rfl⟩
      · exact ⟨_, _, rfl⟩
    obtain ⟨a, cap, rfl⟩ := hlen
    have z1 : ¬ i < (n : Int) := by omega
    go_wp2_with fail
    go_quiet (fail)
    go_wp2_with fail
    have hX := i64_and_255_bd (bits BinOp.xor IntKind.i64 (wrap64 (wrap64 (h * 6364136223846793005) + 1442695040888963407) / 8589934592) (wrap64 (wrap64 (h * 6364136223846793005) + 1442695040888963407) / 35184372088832))
    generalize bits BinOp.and IntKind.i64 (bits BinOp.xor IntKind.i64 (wrap64 (wrap64 (h * 6364136223846793005) + 1442695040888963407) / 8589934592) (wrap64 (wrap64 (h * 6364136223846793005) + 1442695040888963407) / 35184372088832)) 255 = X at hX
    generalize bits BinOp.xor IntKind.i64 (wrap64 (wrap64 (h * 6364136223846793005) + 1442695040888963407) / 8589934592) (wrap64 (wrap64 (h * 6364136223846793005) + 1442695040888963407) / 35184372088832) = Y
    generalize wrap64 (wrap64 (h * 6364136223846793005) + 1442695040888963407) = H
    obtain ⟨x0, x1⟩ := hX
    go_quiet (fail)
    go_wp2_with fail
    go_ret
    obtain ⟨g1, g2⟩ := store_h hblk H 0
    exact ⟨_, x0, x1, rfl, ⟨g1.os, g1.tape, g1.output, g1.size, g1.block⟩, i, H, hWc, g2, by omega, by omega, hb.grown (w' := ((w.setCell ⟨c, 2, none⟩ (.int .i64 H)).drewN _).drewN _) (row := some c) ⟨g1.os, g1.tape, g1.output, g1.size, g1.block⟩ hb.size (fun k hk => by simp at hk; omega)⟩

set_option maxHeartbeats 800000 in
theorem below_any (W : World) (v : Value) (n : Nat) (hn : n ≤ 1048576) (hcode : CodeAt W v n) (c : Nat) (w : World) (hcur : Cur W v n c w) (m : Int) (h1 : 1 ≤ m) (h2 : m ≤ 4294967296) :
    Calls Tryz.prog 39 #[.pointer (some ⟨c, 0, none⟩), .int .i64 m] w (CurInt W v n c 0 (m - 1) w) := by
  have HB := Lib.hid (byte_any W v n hn hcode c)
  by_cases hs : m ≤ 256
  · go_enter Tryz.func39, Tryz.ntmps39
    go_wp2_with fail
    refine (HB.out _ hcur).mono ?_
    rintro e w1 ⟨x, x0, x1, rfl, g1, hc1⟩
    go_wp2_with fail
    go_ret
    exact ⟨_, Int.emod_nonneg _ (by omega), by have := Int.emod_lt_of_pos x (show 0 < m by omega); omega, rfl, g1, hc1⟩
  · go_enter Tryz.func39, Tryz.ntmps39
    go_wp2_with fail
    refine (HB.out _ hcur).mono ?_
    rintro e w1 ⟨x, x0, x1, rfl, g1, hc1⟩
    go_wp2_with fail
    refine (HB.out _ hc1).mono ?_
    rintro e w2 ⟨y, y0, y1, rfl, g2, hc2⟩
    go_wp2_with fail
    refine (HB.out _ hc2).mono ?_
    rintro e w3 ⟨z, z0, z1, rfl, g3, hc3⟩
    go_wp2_with fail
    refine (HB.out _ hc3).mono ?_
    rintro e w4 ⟨u, u0, u1, rfl, g4, hc4⟩
    go_wp2_with fail
    go_ret
    exact ⟨_, Int.emod_nonneg _ (by omega), by have := Int.emod_lt_of_pos (x * 16777216 + y * 65536 + z * 256 + u) (show 0 < m by omega); omega, rfl, grown_trans (grown_trans (grown_trans g1 g2) g3) g4, hc4⟩

def NewCur (W : World) (v : Value) (n : Nat) (w : World) (e : Ending) (w' : World) : Prop :=
  ∃ c : Nat, w.heap.size ≤ c ∧ e = .returned (.pointer (some ⟨c, 0, none⟩)) ∧ w.grownBy w' none ∧ Cur W v n c w'
set_option maxHeartbeats 800000 in
theorem new_any (W : World) (v : Value) (n : Nat) (hn : n ≤ 1048576) (hcode : CodeAt W v n) (w : World) (hb : Below W.heap.size W w) :
    Calls Tryz.prog 21 #[v] w (NewCur W v n w) := by
  have hlen : ∃ a cap, v = .slice a n cap := by
    rcases hcode with ⟨rfl, rfl⟩ | ⟨x, cap, rfl, _, _⟩
    · exact ⟨_, _, rfl⟩
    · exact ⟨_, _, rfl⟩
  obtain ⟨a, cap, rfl⟩ := hlen
  have hcells : ∀ i, i < n → ∃ (x : Addr) (y : Int), a = some x ∧ 0 ≤ y ∧ y ≤ 255 ∧ w.cell? (x.add i) = some (.int .u8 y) := by
    intro i hi
    rcases hcode with ⟨h1, rfl⟩ | ⟨x, cap', h1, _, hc⟩
    · omega
    · obtain ⟨y, y0, y1, hy⟩ := hc i hi
      simp at h1
      exact ⟨x, y, h1.1, y0, y1, Code_cell hy hb⟩
  have HC := Lib.hid hcells
  have HCODE := Lib.hid hcode
  clear hcells hcode
  go_enter Tryz.func21, Tryz.ntmps21
  go_wp2_with fail
  go_loop [3, 4] (fun hv iv => ∃ (h : Int) (i : Nat), i ≤ n ∧ hv = .int .i64 h ∧ iv = .int .i64 (i : Int)) (fun _ iv => n - (intOf iv).toNat)
  case atStart => exact ⟨_, 0, by omega, rfl, rfl⟩
  case round =>
    obtain ⟨h, i, hi, rfl, rfl⟩ := hrel
    by_cases hlt : i < n
    · by_cases h4 : (i : Int) < 4000
      · obtain ⟨x, y, rfl, y0, y1, hy⟩ := HC.out i hlt
        have z0 : (0 : Int) ≤ (i : Int) := by omega
        have z1 : (i : Int) < (n : Int) := by omega
        go_wp2_with fail
        go_round
        case rel => exact ⟨_, i + 1, by omega, rfl, by go_num⟩
        case measure => simp [intOf]; omega
      · go_wp2_with fail
        go_ret
        exact ⟨_, Nat.le_refl _, rfl, World.grownBy_alloc w _ none, 0, _, hb.size, heap_alloc_new w _, by omega, by omega, hb.alloc hb.size _⟩
    · go_wp2_with fail
      go_ret
      exact ⟨_, Nat.le_refl _, rfl, World.grownBy_alloc w _ none, 0, _, hb.size, heap_alloc_new w _, by omega, by omega, hb.alloc hb.size _⟩

set_option maxHeartbeats 800000 in
theorem pick_any (W : World) (v : Value) (n : Nat) (hn : n ≤ 1048576) (hcode : CodeAt W v n) (c : Nat) (w : World) (hcur : Cur W v n c w) (L m : Nat) (lo hi : Int) (hm : 1 ≤ m) (hm2 : m ≤ 1000) (hLc : L ≠ c) (hL : L < w.heap.size)
    (hcells : ∀ i, i < m → ∃ y : Int, lo ≤ y ∧ y ≤ hi ∧ w.cell? ⟨L, i, none⟩ = some (.int .i64 y)) :
    Calls Tryz.prog 58 #[.pointer (some ⟨c, 0, none⟩), .slice (some ⟨L, 0, none⟩) m m] w (CurInt W v n c lo hi w) := by
  have HC := Lib.hid hcells
  have HB := Lib.hid (below_any W v n hn hcode c w hcur (m : Int) (by omega) (by omega))
  clear hcells
  go_enter Tryz.func58, Tryz.ntmps58
  go_wp2_with fail
  refine HB.out.mono ?_
  rintro e w1 ⟨x, x0, x1, rfl, g1, hc1⟩
  obtain ⟨j, rfl⟩ : ∃ j : Nat, x = (j : Int) := ⟨x.toNat, by omega⟩
  obtain ⟨y, y0, y1, hy⟩ := HC.out j (by omega)
  have hy1 : w1.cell? ⟨L, j, none⟩ = some (.int .i64 y) := (World.cell?_of_block (g1.block L hL (by simp [hLc]))).trans hy
  have z1 : (j : Int) < (m : Int) := by omega
  go_wp2_with fail
  go_ret
  exact ⟨y, y0, y1, rfl, g1, hc1⟩
end Go.Proofs.YtnbjcelfdppkcadGreat
namespace Go.Proofs.YtnbjcelfdppkcadGreat
open Go.RowKit

theorem pick17 (w : World) (C : Array Value) (hC : C = #[.int .i64 (-1), .int .i64 0, .int .i64 127, .int .i64 128, .int .i64 255, .int .i64 256, .int .i64 16383, .int .i64 16384, .int .i64 65535, .int .i64 65536, .int .i64 562949953421311, .int .i64 562949953421312, .int .i64 999999999, .int .i64 1000000000, .int .i64 (-999999999), .int .i64 9223372036854775807, .int .i64 (-9223372036854775808)]) (t : TypeId) :
    ∀ i, i < 17 → ∃ y : Int, -9223372036854775808 ≤ y ∧ y ≤ 9223372036854775807 ∧ (w.alloc (.cells C t)).cell? ⟨w.heap.size, i, none⟩ = some (.int .i64 y) := by
  intro i hi
  have e : (w.alloc (.cells C t)).cell? ⟨w.heap.size, i, none⟩ = C[i]? := World.cell?_alloc_mark w C t (0, 0) i
  rw [e, hC]
  rcases (show i = 0 ∨ i = 1 ∨ i = 2 ∨ i = 3 ∨ i = 4 ∨ i = 5 ∨ i = 6 ∨ i = 7 ∨ i = 8 ∨ i = 9 ∨ i = 10 ∨ i = 11 ∨ i = 12 ∨ i = 13 ∨ i = 14 ∨ i = 15 ∨ i = 16 by omega) with rfl | rfl | rfl | rfl | rfl | rfl | rfl | rfl | rfl | rfl | rfl | rfl | rfl | rfl | rfl | rfl | rfl
  all_goals (refine ⟨_, ?_, ?_, rfl⟩ <;> decide)

def CurStr (W : World) (v : Value) (n c : Nat) (most : Int) (w : World) (e : Ending) (w' : World) : Prop :=
  ∃ s : ByteArray, (s.size : Int) ≤ most ∧ e = .returned (.string s) ∧ w.grownBy w' (some c) ∧ Cur W v n c w'
theorem grown_above {a b d : World} {row row' : Option Nat} (h : a.grownBy b row) (k : b.grownBy d row') (hr : ∀ g, row' = some g → a.heap.size ≤ g) : a.grownBy d row :=
  ⟨k.os.trans h.os, k.tape.trans h.tape, k.output.trans h.output, Nat.le_trans h.size k.size, fun j hj hne => (k.block j (Nat.lt_of_lt_of_le hj h.size) (fun e => by have := hr j e.symm; omega)).trans (h.block j hj hne)⟩
theorem le_of_grown {w wr : World} {row : Option Nat} (h : w.grownBy wr row) (o : Obj) : w.heap.size ≤ (wr.alloc o).heap.size := by have := h.size; simp; omega
theorem info8d : (Tryz.prog.info? 5).map (fun i => (i.zero, i.size, i.bytes)) = some (some (.int .u8 0), 1, 1) := by kernel_rfl
theorem OwnB.keptBy {w w' : World} {B : Nat} {E : TypeId} {v : Value} {l : List UInt8} {row : Option Nat} (h : OwnB w B E v l) (hg : w.grownBy w' row) (hr : ∀ g, row = some g → g < B) : OwnB w' B E v l := by
  refine World.ownsRow.kept h hg ?_
  cases hv : v.ownBlock with
  | none => exact .inl rfl
  | some g => right; intro e; have h1 := hr g e.symm; have h2 := (OwnB.lt h g hv).1; omega

end Go.Proofs.YtnbjcelfdppkcadGreat
namespace Go.Proofs.YtnbjcelfdppkcadGreat
open Go.RowKit

theorem wf_u8_bd {n : Int} (h : (Lit.int .u8 n).wf = true) : 0 ≤ n ∧ n ≤ 255 := by
  simp [Lit.wf, IntKind.max, IntKind.min, IntKind.bits, IntKind.signed] at h; omega
theorem big_any (v : Value) (n : Nat) (hv : ∃ a cap, v = .slice a n cap) (w : World) :
    Calls Tryz.prog 4 #[v] w fun e w' => e = .returned (.bool (decide (1048576 < (n : Int)))) ∧ w = w' := by
  obtain ⟨a, cap, rfl⟩ := hv
  go_enter Tryz.func4, Tryz.ntmps4
  go_wp2_with fail
  go_ret
  exact ⟨rfl, rfl⟩
theorem code_slice {W : World} {v : Value} {n : Nat} (h : CodeAt W v n) : ∃ a cap, v = .slice a n cap := by
  rcases h with ⟨rfl, rfl⟩ | ⟨x, cap, rfl, _, _⟩
  · exact ⟨_, _, rfl⟩
  · exact ⟨_, _, rfl⟩
theorem below_of_grown {w w1 w2 : World} {c : Nat} (h1 : w.grownBy w1 none) (h2 : w1.grownBy w2 (some c)) (hc : w.heap.size ≤ c) : Below w.heap.size w w2 :=
  ((Below.refl _ w).grown h1 (Nat.le_refl _) (by simp)).grown h2 h1.size (fun k hk => by simp at hk; omega)

def IntIn (lo hi : Int) (w : World) (e : Ending) (w' : World) : Prop := ∃ x : Int, lo ≤ x ∧ x ≤ hi ∧ e = .returned (.int .i64 x) ∧ Below w.heap.size w w'
def TwoIn (lo hi lo' hi' : Int) (w : World) (e : Ending) (w' : World) : Prop := ∃ x y : Int, lo ≤ x ∧ x ≤ hi ∧ lo' ≤ y ∧ y ≤ hi' ∧ e = .returned (.tuple #[.int .i64 x, .int .i64 y]) ∧ Below w.heap.size w w'
def StrIn (most : Int) (w : World) (e : Ending) (w' : World) : Prop := ∃ s : ByteArray, (s.size : Int) ≤ most ∧ e = .returned (.string s) ∧ Below w.heap.size w w'

end Go.Proofs.YtnbjcelfdppkcadGreat
namespace Go.Proofs.YtnbjcelfdppkcadGreat
open Go.RowKit

theorem in_any (x lo hi : Int) (w : World) :
    Calls Tryz.prog 29 #[.int .i64 x, .int .i64 lo, .int .i64 hi] w fun e w' => e = .returned (.bool (decide (lo ≤ x ∧ x ≤ hi))) ∧ w = w' := by
  by_cases h1 : lo ≤ x <;> by_cases h2 : x ≤ hi
  all_goals
    go_enter Tryz.func29, Tryz.ntmps29
    go_wp2
    go_ret
    exact ⟨by simp [h1, h2], rfl⟩
end Go.Proofs.YtnbjcelfdppkcadGreat
namespace Go.Proofs.YtnbjcelfdppkcadGreat
open Go.RowKit

def intsV (l : List Int) : List Value := l.map (Value.int .i64)
theorem intsV_length (l : List Int) : (intsV l).length = l.length := by simp [intsV]
theorem intsV_get (l : List Int) (j : Nat) (hj : j < l.length) : (intsV l)[j]? = some (.int .i64 l[j]) := by simp [intsV, List.getElem?_eq_getElem hj]
/-- The slice value v owns the ints l, among blocks from B on. -/
def OwnI (w : World) (B : Nat) (v : Value) (l : List Int) : Prop := w.ownsRow B 3 1 v l.length (intsV l)
theorem OwnI.made {w : World} {B : Nat} {v : Value} (h : w.ownsRow B 3 1 v 0 []) : OwnI w B v [] := h
theorem OwnI.lt {w : World} {B : Nat} {v : Value} {l : List Int} (h : OwnI w B v l) : ∀ k, v.ownBlock = some k → B ≤ k ∧ k < w.heap.size := World.ownsRow.lt h
theorem OwnI.snoc {w : World} {B : Nat} {v : Value} {l : List Int} {x : Int} (h : w.ownsRow B 3 1 v (l.length + 1) (intsV l ++ [.int .i64 x])) : OwnI w B v (l ++ [x]) := by
  unfold OwnI; rw [show intsV (l ++ [x]) = intsV l ++ [.int .i64 x] by simp [intsV], List.length_append]; exact h
theorem OwnI.kept {w w' : World} {B C : Nat} {v : Value} {l : List Int} (h : OwnI w B v l) (hb : Below C w w') (hC : ∀ k, v.ownBlock = some k → k < C) : OwnI w' B v l := by
  refine ⟨h.1, ?_⟩
  rcases h.2 with hn | ⟨g, cap, cur, rfl, hB, hgg, rest⟩
  · exact .inl hn
  · exact .inr ⟨g, cap, cur, rfl, hB, (hb.block g (hC g rfl)).trans hgg, rest⟩
theorem OwnI.keptBy {w w' : World} {B : Nat} {v : Value} {l : List Int} {row : Option Nat} (h : OwnI w B v l) (hg : w.grownBy w' row) (hr : ∀ g, row = some g → v.ownBlock ≠ some g) : OwnI w' B v l := by
  refine World.ownsRow.kept h hg ?_
  cases hv : v.ownBlock with
  | none => exact .inl rfl
  | some g => right; intro e; exact hr g e.symm hv
theorem OwnI.base {w : World} {B B' : Nat} {v : Value} {l : List Int} (h : OwnI w B v l) (hB : B' ≤ B) : OwnI w B' v l := by
  refine ⟨h.1, ?_⟩
  rcases h.2 with hn | ⟨g, cap, cur, rfl, hb, rest⟩
  · exact .inl hn
  · exact .inr ⟨g, cap, cur, rfl, by omega, rest⟩
/-- The shape of an owned row's value. -/
theorem OwnI.shape {w : World} {B : Nat} {v : Value} {l : List Int} (h : OwnI w B v l) : (v = .slice none 0 0 ∧ l = []) ∨ ∃ g cap, v = .slice (some ⟨g, 0, none⟩) l.length cap ∧ v.ownBlock = some g ∧ B ≤ g ∧ g < w.heap.size := by
  rcases h.2 with ⟨rfl, hn⟩ | ⟨g, cap, cur, rfl, hB, hgg, rest⟩
  · exact .inl ⟨rfl, List.eq_nil_of_length_eq_zero hn⟩
  · exact .inr ⟨g, cap, rfl, rfl, hB, (Array.getElem?_eq_some_iff.1 hgg).1⟩
theorem OwnI.cell {w : World} {B g n cap : Nat} {l : List Int} (h : OwnI w B (.slice (some ⟨g, 0, none⟩) n cap) l) (j : Nat) (hj : j < l.length) : w.cell? ⟨g, j, none⟩ = some (.int .i64 l[j]) := by
  have hn : n = l.length := by
    rcases h.2 with ⟨h', _⟩ | ⟨g', cap', cur, h', _⟩ <;> simp at h'; omega
  subst hn
  rw [World.ownsRow.cellAt h j (by omega), intsV_get l j hj]
theorem OwnI.frozen {w : World} {B g n cap : Nat} {l : List Int} (h : OwnI w B (.slice (some ⟨g, 0, none⟩) n cap) l) (j : Nat) : w.frozen? ⟨g, j, none⟩ = false := by
  have hn : n = l.length := by
    rcases h.2 with ⟨h', _⟩ | ⟨g', cap', cur, h', _⟩ <;> simp at h'; omega
  subst hn
  exact World.ownsRow.frozenAt h j
theorem OwnI.store {w : World} {B g n cap : Nat} {l : List Int} (h : OwnI w B (.slice (some ⟨g, 0, none⟩) n cap) l) (j : Nat) (x : Int) :
    OwnI (w.setCell ⟨g, j, none⟩ (.int .i64 x)) B (.slice (some ⟨g, 0, none⟩) n cap) (l.set j x) ∧ w.grownBy (w.setCell ⟨g, j, none⟩ (.int .i64 x)) (some g) := by
  have hn : n = l.length := by
    rcases h.2 with ⟨h', _⟩ | ⟨g', cap', cur, h', _⟩ <;> simp at h'; omega
  subst hn
  obtain ⟨h1, h2⟩ := World.ownsRow.stored h j (.int .i64 x)
  refine ⟨?_, h2⟩
  unfold OwnI
  rw [List.length_set, show intsV (l.set j x) = (intsV l).set j (.int .i64 x) by simp [intsV, List.map_set]]
  exact h1
theorem one_i64 (x : Int) : ∀ u ∈ [Value.int .i64 x], u.oneCell' = true := by intro u hu; simp at hu; subst hu; rfl

/-- The slice value v can be read: it holds the ints l. -/
def ReadI (w : World) (v : Value) (l : List Int) : Prop :=
  ∃ a cap, v = .slice a l.length cap ∧ ∀ i (h : i < l.length), ∃ x, a = some x ∧ w.cell? (x.add i) = some (.int .i64 l[i])
theorem OwnI.read {w : World} {B : Nat} {v : Value} {l : List Int} (h : OwnI w B v l) : ReadI w v l := by
  rcases h.shape with ⟨rfl, rfl⟩ | ⟨g, cap, rfl, _⟩
  · exact ⟨none, 0, rfl, fun i h => by simp at h⟩
  · exact ⟨_, cap, rfl, fun i hi => ⟨_, rfl, by
      have hadd : (⟨g, 0, none⟩ : Addr).add i = ⟨g, i, none⟩ := by unfold Addr.add; split <;> simp_all
      rw [hadd]; exact h.cell i hi⟩⟩

/-- eqIntS at two lists of one length that part first at place d, or nowhere. -/
def eqB (l l' : List Int) : Bool := decide (l = l')
/-- k, k + 1, and so on, n of them. -/
def upFrom (k : Int) (n : Nat) : List Int := (List.range n).map fun (j : Nat) => k + (j : Int)
theorem upFrom_length (k : Int) (n : Nat) : (upFrom k n).length = n := by simp [upFrom]
theorem upFrom_get (k : Int) (n j : Nat) (h : j < (upFrom k n).length) : (upFrom k n)[j] = k + (j : Int) := by simp [upFrom]
theorem mark_start (k : Int) (l : List Int) : upFrom k 0 ++ l.drop 0 = l := by simp [upFrom]
theorem mark_step (k : Int) (l : List Int) (j : Nat) (h : j < l.length) : (upFrom k j ++ l.drop j).set j (k + (j : Int)) = upFrom k (j + 1) ++ l.drop (j + 1) := by
  have e : upFrom k (j + 1) = upFrom k j ++ [k + (j : Int)] := by simp [upFrom, List.range_succ]
  rw [List.set_append, if_neg (by rw [upFrom_length]; omega), upFrom_length, Nat.sub_self, List.drop_eq_getElem_cons h, e, List.append_assoc]
  rfl
end Go.Proofs.YtnbjcelfdppkcadGreat
