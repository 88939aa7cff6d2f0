/- Small general lemmas: rows of bytes that a call owns, strings made of bytes, big-endian digits. Conditions: none beyond those stated. -/
import Derived.WalkKit
import Derived.ProofKit
import Derived.OpenShut
import Derived.ShutString
import Derived.OwnWalk
import Derived.Lib.Hide
import Derived.Laws.BytesArg
import Derived.Laws.IdiomStrings
import Derived.Laws.OwnMore
namespace Go.Proofs.Ytficnbeciohpfaa
open Go.RowKit

/-! ### Bytes as values -/
def bytesV (l : List UInt8) : List Value := l.map fun b => Value.int .u8 (b.toNat : Int)
theorem bytesV_length (l : List UInt8) : (bytesV l).length = l.length := by simp [bytesV]
theorem bytesV_append (l m : List UInt8) : bytesV (l ++ m) = bytesV l ++ bytesV m := by simp [bytesV]
theorem bytesV_one {x : Int} (h0 : 0 ≤ x) (h1 : x < 256) : [Value.int .u8 x] = bytesV [UInt8.ofNat x.toNat] := by
  have : x.toNat % 256 = x.toNat := Nat.mod_eq_of_lt (by omega)
  simp [bytesV, this]; omega
theorem bytesV_two {x y : Int} (h0 : 0 ≤ x) (h1 : x < 256) (k0 : 0 ≤ y) (k1 : y < 256) : [Value.int .u8 x, Value.int .u8 y] = bytesV [UInt8.ofNat x.toNat, UInt8.ofNat y.toNat] := by
  have e1 : x.toNat % 256 = x.toNat := Nat.mod_eq_of_lt (by omega)
  have e2 : y.toNat % 256 = y.toNat := Nat.mod_eq_of_lt (by omega)
  simp [bytesV, e1, e2]; omega
theorem bytesV_get (l : List UInt8) (j : Nat) (hj : j < l.length) : (bytesV l)[j]? = some (.int .u8 (l[j].toNat : Int)) := by
  simp [bytesV, List.getElem?_eq_getElem hj]

/-- The slice value v owns the bytes l, among blocks from B on. -/
def OwnB (w : World) (B : Nat) (E : TypeId) (v : Value) (l : List UInt8) : Prop := w.ownsRow B E 1 v l.length (bytesV l)
theorem OwnB.nil (w : World) (B : Nat) (E : TypeId) : OwnB w B E (.slice none 0 0) [] := World.ownsRow_nil _ _ _ _
theorem OwnB.made {w : World} {B : Nat} {E : TypeId} {v : Value} (h : w.ownsRow B E 1 v 0 []) : OwnB w B E v [] := h
theorem OwnB.alloc {w : World} {B : Nat} {E : TypeId} {v : Value} {l : List UInt8} (h : OwnB w B E v l) (o : Obj) : OwnB (w.alloc o) B E v l := World.ownsRow.alloc h o
theorem OwnB.drew {w : World} {B : Nat} {E : TypeId} {v : Value} {l : List UInt8} (h : OwnB w B E v l) : OwnB w.drew B E v l := h
theorem OwnB.kept {w w' : World} {B C : Nat} {E : TypeId} {v : Value} {l : List UInt8} (h : OwnB w B E v l) (hb : Below C w w') (hC : ∀ k, v.ownBlock = some k → k < C) : OwnB w' B E v l := by
  refine ⟨h.1, ?_⟩
  rcases h.2 with hn | ⟨g, cap, cur, rfl, hB, hgg, rest⟩
  · exact .inl hn
  · exact .inr ⟨g, cap, cur, rfl, hB, (hb.block g (hC g rfl)).trans hgg, rest⟩
theorem OwnB.snoc {w : World} {B : Nat} {E : TypeId} {v : Value} {l : List UInt8} {x : Int} (h0 : 0 ≤ x) (h1 : x < 256)
    (h : w.ownsRow B E 1 v (l.length + 1) (bytesV l ++ [.int .u8 x])) : OwnB w B E v (l ++ [UInt8.ofNat x.toNat]) := by
  unfold OwnB
  rw [bytesV_append, ← bytesV_one h0 h1, List.length_append]; exact h
theorem OwnB.snoc2 {w : World} {B : Nat} {E : TypeId} {v : Value} {l : List UInt8} {x y : Int} (h0 : 0 ≤ x) (h1 : x < 256) (k0 : 0 ≤ y) (k1 : y < 256)
    (h : w.ownsRow B E 1 v (l.length + 2) (bytesV l ++ [.int .u8 x, .int .u8 y])) : OwnB w B E v (l ++ [UInt8.ofNat x.toNat, UInt8.ofNat y.toNat]) := by
  unfold OwnB
  rw [bytesV_append, ← bytesV_two h0 h1 k0 k1, List.length_append]; exact h
theorem OwnB.lt {w : World} {B : Nat} {E : TypeId} {v : Value} {l : List UInt8} (h : OwnB w B E v l) : ∀ k, v.ownBlock = some k → B ≤ k ∧ k < w.heap.size := World.ownsRow.lt h

theorem bytesV_set (l : List UInt8) (j : Nat) {x : Int} (h0 : 0 ≤ x) (h1 : x < 256) : (bytesV l).set j (.int .u8 x) = bytesV (l.set j (UInt8.ofNat x.toNat)) := by
  have e := bytesV_one h0 h1
  have e2 : Value.int .u8 x = Value.int .u8 ((UInt8.ofNat x.toNat).toNat : Int) := by simpa [bytesV] using e
  rw [e2]; unfold bytesV; rw [List.map_set]
theorem OwnB.store {w : World} {B : Nat} {E : TypeId} {g n cap : Nat} {l : List UInt8} (h : OwnB w B E (.slice (some ⟨g, 0, none⟩) n cap) l) (j : Nat) {x : Int} (h0 : 0 ≤ x) (h1 : x < 256) :
    OwnB (w.setCell ⟨g, j, none⟩ (.int .u8 x)) B E (.slice (some ⟨g, 0, none⟩) n cap) (l.set j (UInt8.ofNat x.toNat)) := by
  have hn : n = l.length := by
    rcases h.2 with ⟨h', _⟩ | ⟨g', cap', cur, h', _⟩ <;> simp at h'; omega
  subst hn
  unfold OwnB
  rw [List.length_set, ← bytesV_set l j h0 h1]
  exact (World.ownsRow.stored h j _).1
theorem OwnB.cell {w : World} {B : Nat} {E : TypeId} {g n cap : Nat} {l : List UInt8} (h : OwnB w B E (.slice (some ⟨g, 0, none⟩) n cap) l) (j : Nat) (hj : j < l.length) :
    w.cell? ⟨g, j, none⟩ = some (.int .u8 (l[j].toNat : Int)) := by
  have hn : n = l.length := by
    rcases h.2 with ⟨h', _⟩ | ⟨g', cap', cur, h', _⟩ <;> simp at h'; omega
  subst hn
  rw [World.ownsRow.cellAt h j (by omega), bytesV_get l j hj]
theorem OwnB.frozen {w : World} {B : Nat} {E : TypeId} {g n cap : Nat} {l : List UInt8} (h : OwnB w B E (.slice (some ⟨g, 0, none⟩) n cap) l) (j : Nat) : w.frozen? ⟨g, j, none⟩ = false := by
  have hn : n = l.length := by
    rcases h.2 with ⟨h', _⟩ | ⟨g', cap', cur, h', _⟩ <;> simp at h'; omega
  subst hn
  exact World.ownsRow.frozenAt h j
theorem OwnB.full {w : World} {B : Nat} {E : TypeId} {v : Value} {n : Nat} (h : w.ownsRow B E 1 v n (madeCells (Value.cells (.int .u8 0)) (n * 1)).toList) : OwnB w B E v (List.replicate n 0) := by
  unfold OwnB
  have e : (madeCells (Value.cells (.int .u8 0)) (n * 1)).toList = bytesV (List.replicate n 0) := by
    rw [show Value.cells (.int .u8 0) = #[.int .u8 0] from rfl, toList_madeCells_one]; simp [bytesV]
  rw [e] at h; rw [List.length_replicate]; exact h
/-- 'string(v)' where v owns the bytes l. -/
theorem OwnB.conv {P : Program} {w : World} {B : Nat} {E S T : TypeId} {v : Value} {l : List UInt8} (hs : P.underlying S = some (.slice E)) (he : P.underlying E = some (.int .u8)) (hd : P.underlying T = some .string)
    (h : OwnB w B E v l) : (convert S T v).run P w = .ok (.string ⟨l.toArray⟩) w := by
  rcases h.2 with ⟨rfl, hn⟩ | ⟨g, cap, cur, rfl, _, hgg, hnc, hcm, hcs, htake⟩
  · have : l = [] := List.eq_nil_of_length_eq_zero hn
    subst this
    rw [run_convert_bytes_nil w S E hs he 0 0 T hd]; rfl
  · refine run_convert_bytes_back w S T E _ cap l hs he hd fun j hj => ?_
    have hadd : (⟨g, 0, none⟩ : Addr).add j = ⟨g, j, none⟩ := by unfold Addr.add; split <;> simp_all
    rw [hadd]
    have := World.ownsRow.cellAt h j (by omega)
    rw [this, bytesV_get l j hj]

/-- 'string([]byte{x})'. -/
theorem conv_one {P : Program} {E S T : TypeId} (hs : P.underlying S = some (.slice E)) (he : P.underlying E = some (.int .u8)) (hd : P.underlying T = some .string)
    (w : World) (x : Int) : (convert S T (.slice (some ⟨w.heap.size, 0, none⟩) 1 1)).run P (w.alloc (.cells #[.int .u8 x] E)) = .ok (.string (strOfNums [x])) (w.alloc (.cells #[.int .u8 x] E)) := by
  refine run_convert_bytes_arg _ S E hs he w.heap.size 0 1 1 [x] rfl (fun i hi => ?_) T hd
  have : i = 0 := by omega
  subst this
  simp [World.cell?_alloc_mark]
theorem strOfNums_one (x : Int) : strOfNums [x] = ⟨#[UInt8.ofNat x.toNat]⟩ := by simp [strOfNums]

theorem str_ext {a b : ByteArray} (h : a.data.toList = b.data.toList) : a = b := by
  cases a; cases b; simp at h; simp [h]
theorem str_add (a b : ByteArray) : (a ++ b).data.toList = a.data.toList ++ b.data.toList := by rw [ByteArray.data_append, Array.toList_append]
theorem str_size (s : ByteArray) : s.size = s.data.toList.length := by rw [Array.length_toList]; rfl
theorem ret_str {a b : ByteArray} (h : a.data.toList = b.data.toList) : Ending.returned (.string a) = .returned (.string b) := by rw [str_ext h]
theorem ret_s {a b : ByteArray} (h : b = a) : Ending.returned (.string a) = .returned (.string b) := by rw [h]
theorem ret_b {a b : Bool} (h : b = a) : Ending.returned (.bool a) = .returned (.bool b) := by rw [h]
theorem ret_int {k : IntKind} {a b : Int} (h : a = b) : Ending.returned (.int k a) = .returned (.int k b) := by rw [h]

theorem wf_i64_le {n : Int} (h : (Lit.int .i64 n).wf = true) : n ≤ 9223372036854775807 := by
  simp [Lit.wf, IntKind.max, IntKind.min, IntKind.bits, IntKind.signed] at h; omega
theorem wf_i64_ge {n : Int} (h : (Lit.int .i64 n).wf = true) : -9223372036854775808 ≤ n := by
  simp [Lit.wf, IntKind.max, IntKind.min, IntKind.bits, IntKind.signed] at h; omega

theorem one_u8 (x : Int) : ∀ u ∈ [Value.int .u8 x], u.oneCell' = true := by intro u hu; simp at hu; subst hu; rfl
theorem two_u8 (x y : Int) : ∀ u ∈ [Value.int .u8 x, Value.int .u8 y], u.oneCell' = true := by intro u hu; simp at hu; rcases hu with rfl | rfl <;> rfl
theorem le_alloc {B : Nat} {w wr : World} (hb : Below B w wr) (hB : B ≤ w.heap.size) (o : Obj) : B ≤ (wr.alloc o).heap.size := by have := hb.size; simp; omega

/-! ### Big-endian digits -/
def be : Nat → Int → List UInt8
  | 0, _ => []
  | k + 1, n => be k (n / 256) ++ [UInt8.ofNat (n % 256).toNat]
theorem be_length (k : Nat) (n : Int) : (be k n).length = k := by
  induction k generalizing n with
  | zero => rfl
  | succ k ih => simp [be, ih]
theorem div_pow_succ (n : Int) (k : Nat) : n / 256 ^ k / 256 = n / 256 ^ (k + 1) := by
  rw [Int.pow_succ, Int.ediv_ediv_of_nonneg (by exact Int.pow_nonneg (by omega))]
theorem div_pow_succ' (n : Int) (k : Nat) : n / 256 / 256 ^ k = n / 256 ^ (k + 1) := by
  rw [Int.pow_succ, Int.mul_comm, Int.ediv_ediv_of_nonneg (by omega)]
theorem be_front (k : Nat) (n : Int) : be (k + 1) n = UInt8.ofNat (n / 256 ^ k % 256).toNat :: be k n := by
  induction k generalizing n with
  | zero => simp [be]
  | succ k ih =>
    have e : be (k + 1 + 1) n = be (k + 1) (n / 256) ++ [UInt8.ofNat (n % 256).toNat] := rfl
    rw [e, ih, div_pow_succ']
    rfl
theorem pow_bytes (d : Nat) : (2 : Int) ^ (8 * d) = 256 ^ d := by
  rw [Int.pow_mul]; rfl
theorem be_set (q j : Nat) (n : Int) : (List.replicate (q + 1) 0 ++ be j n).set q (UInt8.ofNat (n / 256 ^ j % 256).toNat) = List.replicate q 0 ++ be (j + 1) n := by
  rw [List.replicate_succ', List.append_assoc, List.set_append, if_neg (by simp), be_front]; simp
end Go.Proofs.Ytficnbeciohpfaa
