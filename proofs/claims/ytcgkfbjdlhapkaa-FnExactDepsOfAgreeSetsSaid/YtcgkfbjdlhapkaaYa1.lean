/- Texts of this claim, merged: Kit, Ints, Tabs, Tabs2. Conditions: as stated. -/
import Derived.WalkKit
import Derived.ProofKit
import Derived.OpenShut
import Derived.ShutString
import Derived.OwnWalk
import Derived.Lib.Hide
import Derived.Laws.BytesArg
import Derived.Laws.IdiomStrings
import Derived.Laws.OwnMore
import Derived.Test.YtcgkfbjdlhapkaaRows
import Derived.Maps.AppendAt
import Derived.Deep.QuietTactic
import Derived.BigQuiet
import Derived.LoopN
import Derived.WalkSmall
namespace Go.Proofs.Ytcgkfbjdlhapkaa
open Go.RowKit

/-! ### Bytes as values -/
def bytesV (l : List UInt8) : List Value := l.map fun b => Value.int .u8 (b.toNat : Int)
theorem bytesV_length (l : List UInt8) : (bytesV l).length = l.length := by simp [bytesV]
theorem bytesV_append (l m : List UInt8) : bytesV (l ++ m) = bytesV l ++ bytesV m := by simp [bytesV]
theorem bytesV_one {x : Int} (h0 : 0 ≤ x) (h1 : x < 256) : [Value.int .u8 x] = bytesV [UInt8.ofNat x.toNat] := by
  have : x.toNat % 256 = x.toNat := Nat.mod_eq_of_lt (by omega)
  simp [bytesV, this]; omega
theorem bytesV_two {x y : Int} (h0 : 0 ≤ x) (h1 : x < 256) (k0 : 0 ≤ y) (k1 : y < 256) : [Value.int .u8 x, Value.int .u8 y] = bytesV [UInt8.ofNat x.toNat, UInt8.ofNat y.toNat] := by
  have e1 : x.toNat % 256 = x.toNat := Nat.mod_eq_of_lt (by omega)
  have e2 : y.toNat % 256 = y.toNat := Nat.mod_eq_of_lt (by omega)
  simp [bytesV, e1, e2]; omega
theorem bytesV_get (l : List UInt8) (j : Nat) (hj : j < l.length) : (bytesV l)[j]? = some (.int .u8 (l[j].toNat : Int)) := by
  simp [bytesV, List.getElem?_eq_getElem hj]

/-- The slice value v owns the bytes l, among blocks from B on. -/
def OwnB (w : World) (B : Nat) (E : TypeId) (v : Value) (l : List UInt8) : Prop := w.ownsRow B E 1 v l.length (bytesV l)
theorem OwnB.nil (w : World) (B : Nat) (E : TypeId) : OwnB w B E (.slice none 0 0) [] := World.ownsRow_nil _ _ _ _
theorem OwnB.made {w : World} {B : Nat} {E : TypeId} {v : Value} (h : w.ownsRow B E 1 v 0 []) : OwnB w B E v [] := h
theorem OwnB.alloc {w : World} {B : Nat} {E : TypeId} {v : Value} {l : List UInt8} (h : OwnB w B E v l) (o : Obj) : OwnB (w.alloc o) B E v l := World.ownsRow.alloc h o
theorem OwnB.drew {w : World} {B : Nat} {E : TypeId} {v : Value} {l : List UInt8} (h : OwnB w B E v l) : OwnB w.drew B E v l := h
theorem OwnB.kept {w w' : World} {B C : Nat} {E : TypeId} {v : Value} {l : List UInt8} (h : OwnB w B E v l) (hb : Below C w w') (hC : ∀ k, v.ownBlock = some k → k < C) : OwnB w' B E v l := by
  refine ⟨h.1, ?_⟩
  rcases h.2 with hn | ⟨g, cap, cur, rfl, hB, hgg, rest⟩
  · exact .inl hn
  · exact .inr ⟨g, cap, cur, rfl, hB, (hb.block g (hC g rfl)).trans hgg, rest⟩
theorem OwnB.snoc {w : World} {B : Nat} {E : TypeId} {v : Value} {l : List UInt8} {x : Int} (h0 : 0 ≤ x) (h1 : x < 256)
    (h : w.ownsRow B E 1 v (l.length + 1) (bytesV l ++ [.int .u8 x])) : OwnB w B E v (l ++ [UInt8.ofNat x.toNat]) := by
  unfold OwnB
  rw [bytesV_append, ← bytesV_one h0 h1, List.length_append]; exact h
theorem OwnB.snoc2 {w : World} {B : Nat} {E : TypeId} {v : Value} {l : List UInt8} {x y : Int} (h0 : 0 ≤ x) (h1 : x < 256) (k0 : 0 ≤ y) (k1 : y < 256)
    (h : w.ownsRow B E 1 v (l.length + 2) (bytesV l ++ [.int .u8 x, .int .u8 y])) : OwnB w B E v (l ++ [UInt8.ofNat x.toNat, UInt8.ofNat y.toNat]) := by
  unfold OwnB
  rw [bytesV_append, ← bytesV_two h0 h1 k0 k1, List.length_append]; exact h
theorem OwnB.lt {w : World} {B : Nat} {E : TypeId} {v : Value} {l : List UInt8} (h : OwnB w B E v l) : ∀ k, v.ownBlock = some k → B ≤ k ∧ k < w.heap.size := World.ownsRow.lt h

theorem bytesV_set (l : List UInt8) (j : Nat) {x : Int} (h0 : 0 ≤ x) (h1 : x < 256) : (bytesV l).set j (.int .u8 x) = bytesV (l.set j (UInt8.ofNat x.toNat)) := by
  have e := bytesV_one h0 h1
  have e2 : Value.int .u8 x = Value.int .u8 ((UInt8.ofNat x.toNat).toNat : Int) := by simpa [bytesV] using e
  rw [e2]; unfold bytesV; rw [List.map_set]
theorem OwnB.store {w : World} {B : Nat} {E : TypeId} {g n cap : Nat} {l : List UInt8} (h : OwnB w B E (.slice (some ⟨g, 0, none⟩) n cap) l) (j : Nat) {x : Int} (h0 : 0 ≤ x) (h1 : x < 256) :
    OwnB (w.setCell ⟨g, j, none⟩ (.int .u8 x)) B E (.slice (some ⟨g, 0, none⟩) n cap) (l.set j (UInt8.ofNat x.toNat)) := by
  have hn : n = l.length := by
    rcases h.2 with ⟨h', _⟩ | ⟨g', cap', cur, h', _⟩ <;> simp at h'; omega
  subst hn
  unfold OwnB
  rw [List.length_set, ← bytesV_set l j h0 h1]
  exact (World.ownsRow.stored h j _).1
theorem OwnB.cell {w : World} {B : Nat} {E : TypeId} {g n cap : Nat} {l : List UInt8} (h : OwnB w B E (.slice (some ⟨g, 0, none⟩) n cap) l) (j : Nat) (hj : j < l.length) :
    w.cell? ⟨g, j, none⟩ = some (.int .u8 (l[j].toNat : Int)) := by
  have hn : n = l.length := by
    rcases h.2 with ⟨h', _⟩ | ⟨g', cap', cur, h', _⟩ <;> simp at h'; omega
  subst hn
  rw [World.ownsRow.cellAt h j (by omega), bytesV_get l j hj]
theorem OwnB.frozen {w : World} {B : Nat} {E : TypeId} {g n cap : Nat} {l : List UInt8} (h : OwnB w B E (.slice (some ⟨g, 0, none⟩) n cap) l) (j : Nat) : w.frozen? ⟨g, j, none⟩ = false := by
  have hn : n = l.length := by
    rcases h.2 with ⟨h', _⟩ | ⟨g', cap', cur, h', _⟩ <;> simp at h'; omega
  subst hn
  exact World.ownsRow.frozenAt h j
theorem OwnB.full {w : World} {B : Nat} {E : TypeId} {v : Value} {n : Nat} (h : w.ownsRow B E 1 v n (madeCells (Value.cells (.int .u8 0)) (n * 1)).toList) : OwnB w B E v (List.replicate n 0) := by
  unfold OwnB
  have e : (madeCells (Value.cells (.int .u8 0)) (n * 1)).toList = bytesV (List.replicate n 0) := by
    rw [show Value.cells (.int .u8 0) = #[.int .u8 0] from rfl, toList_madeCells_one]; simp [bytesV]
  rw [e] at h; rw [List.length_replicate]; exact h
/-- 'string(v)' where v owns the bytes l. -/
theorem OwnB.conv {P : Program} {w : World} {B : Nat} {E S T : TypeId} {v : Value} {l : List UInt8} (hs : P.underlying S = some (.slice E)) (he : P.underlying E = some (.int .u8)) (hd : P.underlying T = some .string)
    (h : OwnB w B E v l) : (convert S T v).run P w = .ok (.string ⟨l.toArray⟩) w := by
  rcases h.2 with ⟨rfl, hn⟩ | ⟨g, cap, cur, rfl, _, hgg, hnc, hcm, hcs, htake⟩
  · have : l = [] := List.eq_nil_of_length_eq_zero hn
    subst this
    rw [run_convert_bytes_nil w S E hs he 0 0 T hd]; rfl
  · refine run_convert_bytes_back w S T E _ cap l hs he hd fun j hj => ?_
    have hadd : (⟨g, 0, none⟩ : Addr).add j = ⟨g, j, none⟩ := by unfold Addr.add; split <;> simp_all
    rw [hadd]
    have := World.ownsRow.cellAt h j (by omega)
    rw [this, bytesV_get l j hj]

/-- 'string([]byte{x})'. -/
theorem conv_one {P : Program} {E S T : TypeId} (hs : P.underlying S = some (.slice E)) (he : P.underlying E = some (.int .u8)) (hd : P.underlying T = some .string)
    (w : World) (x : Int) : (convert S T (.slice (some ⟨w.heap.size, 0, none⟩) 1 1)).run P (w.alloc (.cells #[.int .u8 x] E)) = .ok (.string (strOfNums [x])) (w.alloc (.cells #[.int .u8 x] E)) := by
  refine run_convert_bytes_arg _ S E hs he w.heap.size 0 1 1 [x] rfl (fun i hi => ?_) T hd
  have : i = 0 := by omega
  subst this
  simp [World.cell?_alloc_mark]
theorem strOfNums_one (x : Int) : strOfNums [x] = ⟨#[UInt8.ofNat x.toNat]⟩ := by simp [strOfNums]

theorem str_ext {a b : ByteArray} (h : a.data.toList = b.data.toList) : a = b := by
  cases a; cases b; simp at h; simp [h]
theorem str_add (a b : ByteArray) : (a ++ b).data.toList = a.data.toList ++ b.data.toList := by rw [ByteArray.data_append, Array.toList_append]
theorem str_size (s : ByteArray) : s.size = s.data.toList.length := by rw [Array.length_toList]; rfl
theorem ret_str {a b : ByteArray} (h : a.data.toList = b.data.toList) : Ending.returned (.string a) = .returned (.string b) := by rw [str_ext h]
theorem ret_s {a b : ByteArray} (h : b = a) : Ending.returned (.string a) = .returned (.string b) := by rw [h]
theorem ret_b {a b : Bool} (h : b = a) : Ending.returned (.bool a) = .returned (.bool b) := by rw [h]
theorem ret_int {k : IntKind} {a b : Int} (h : a = b) : Ending.returned (.int k a) = .returned (.int k b) := by rw [h]

theorem wf_i64_le {n : Int} (h : (Lit.int .i64 n).wf = true) : n ≤ 9223372036854775807 := by
  simp [Lit.wf, IntKind.max, IntKind.min, IntKind.bits, IntKind.signed] at h; omega
theorem wf_i64_ge {n : Int} (h : (Lit.int .i64 n).wf = true) : -9223372036854775808 ≤ n := by
  simp [Lit.wf, IntKind.max, IntKind.min, IntKind.bits, IntKind.signed] at h; omega

theorem one_u8 (x : Int) : ∀ u ∈ [Value.int .u8 x], u.oneCell' = true := by intro u hu; simp at hu; subst hu; rfl
theorem two_u8 (x y : Int) : ∀ u ∈ [Value.int .u8 x, Value.int .u8 y], u.oneCell' = true := by intro u hu; simp at hu; rcases hu with rfl | rfl <;> rfl
theorem le_alloc {B : Nat} {w wr : World} (hb : Below B w wr) (hB : B ≤ w.heap.size) (o : Obj) : B ≤ (wr.alloc o).heap.size := by have := hb.size; simp; omega

/-! ### Big-endian digits -/
def be : Nat → Int → List UInt8
  | 0, _ => []
  | k + 1, n => be k (n / 256) ++ [UInt8.ofNat (n % 256).toNat]
theorem be_length (k : Nat) (n : Int) : (be k n).length = k := by
  induction k generalizing n with
  | zero => rfl
  | succ k ih => simp [be, ih]
theorem div_pow_succ (n : Int) (k : Nat) : n / 256 ^ k / 256 = n / 256 ^ (k + 1) := by
  rw [Int.pow_succ, Int.ediv_ediv_of_nonneg (by exact Int.pow_nonneg (by omega))]
theorem div_pow_succ' (n : Int) (k : Nat) : n / 256 / 256 ^ k = n / 256 ^ (k + 1) := by
  rw [Int.pow_succ, Int.mul_comm, Int.ediv_ediv_of_nonneg (by omega)]
theorem be_front (k : Nat) (n : Int) : be (k + 1) n = UInt8.ofNat (n / 256 ^ k % 256).toNat :: be k n := by
  induction k generalizing n with
  | zero => simp [be]
  | succ k ih =>
    have e : be (k + 1 + 1) n = be (k + 1) (n / 256) ++ [UInt8.ofNat (n % 256).toNat] := rfl
    rw [e, ih, div_pow_succ']
    rfl
theorem pow_bytes (d : Nat) : (2 : Int) ^ (8 * d) = 256 ^ d := by
  rw [Int.pow_mul]; rfl
theorem be_set (q j : Nat) (n : Int) : (List.replicate (q + 1) 0 ++ be j n).set q (UInt8.ofNat (n / 256 ^ j % 256).toNat) = List.replicate q 0 ++ be (j + 1) n := by
  rw [List.replicate_succ', List.append_assoc, List.set_append, if_neg (by simp), be_front]; simp
end Go.Proofs.Ytcgkfbjdlhapkaa
namespace Go.Proofs.Ytcgkfbjdlhapkaa
open Go.RowKit

def intsV (l : List Int) : List Value := l.map (Value.int .i64)
theorem intsV_length (l : List Int) : (intsV l).length = l.length := by simp [intsV]
theorem intsV_get (l : List Int) (j : Nat) (hj : j < l.length) : (intsV l)[j]? = some (.int .i64 l[j]) := by simp [intsV, List.getElem?_eq_getElem hj]
/-- The slice value v owns the ints l, among blocks from B on. -/
def OwnI (w : World) (B : Nat) (v : Value) (l : List Int) : Prop := w.ownsRow B 3 1 v l.length (intsV l)
theorem OwnI.made {w : World} {B : Nat} {v : Value} (h : w.ownsRow B 3 1 v 0 []) : OwnI w B v [] := h
theorem OwnI.lt {w : World} {B : Nat} {v : Value} {l : List Int} (h : OwnI w B v l) : ∀ k, v.ownBlock = some k → B ≤ k ∧ k < w.heap.size := World.ownsRow.lt h
theorem OwnI.snoc {w : World} {B : Nat} {v : Value} {l : List Int} {x : Int} (h : w.ownsRow B 3 1 v (l.length + 1) (intsV l ++ [.int .i64 x])) : OwnI w B v (l ++ [x]) := by
  unfold OwnI; rw [show intsV (l ++ [x]) = intsV l ++ [.int .i64 x] by simp [intsV], List.length_append]; exact h
theorem OwnI.kept {w w' : World} {B C : Nat} {v : Value} {l : List Int} (h : OwnI w B v l) (hb : Below C w w') (hC : ∀ k, v.ownBlock = some k → k < C) : OwnI w' B v l := by
  refine ⟨h.1, ?_⟩
  rcases h.2 with hn | ⟨g, cap, cur, rfl, hB, hgg, rest⟩
  · exact .inl hn
  · exact .inr ⟨g, cap, cur, rfl, hB, (hb.block g (hC g rfl)).trans hgg, rest⟩
theorem OwnI.keptBy {w w' : World} {B : Nat} {v : Value} {l : List Int} {row : Option Nat} (h : OwnI w B v l) (hg : w.grownBy w' row) (hr : ∀ g, row = some g → v.ownBlock ≠ some g) : OwnI w' B v l := by
  refine World.ownsRow.kept h hg ?_
  cases hv : v.ownBlock with
  | none => exact .inl rfl
  | some g => right; intro e; exact hr g e.symm hv
theorem OwnI.base {w : World} {B B' : Nat} {v : Value} {l : List Int} (h : OwnI w B v l) (hB : B' ≤ B) : OwnI w B' v l := by
  refine ⟨h.1, ?_⟩
  rcases h.2 with hn | ⟨g, cap, cur, rfl, hb, rest⟩
  · exact .inl hn
  · exact .inr ⟨g, cap, cur, rfl, by omega, rest⟩
/-- The shape of an owned row's value. -/
theorem OwnI.shape {w : World} {B : Nat} {v : Value} {l : List Int} (h : OwnI w B v l) : (v = .slice none 0 0 ∧ l = []) ∨ ∃ g cap, v = .slice (some ⟨g, 0, none⟩) l.length cap ∧ v.ownBlock = some g ∧ B ≤ g ∧ g < w.heap.size := by
  rcases h.2 with ⟨rfl, hn⟩ | ⟨g, cap, cur, rfl, hB, hgg, rest⟩
  · exact .inl ⟨rfl, List.eq_nil_of_length_eq_zero hn⟩
  · exact .inr ⟨g, cap, rfl, rfl, hB, (Array.getElem?_eq_some_iff.1 hgg).1⟩
theorem OwnI.cell {w : World} {B g n cap : Nat} {l : List Int} (h : OwnI w B (.slice (some ⟨g, 0, none⟩) n cap) l) (j : Nat) (hj : j < l.length) : w.cell? ⟨g, j, none⟩ = some (.int .i64 l[j]) := by
  have hn : n = l.length := by
    rcases h.2 with ⟨h', _⟩ | ⟨g', cap', cur, h', _⟩ <;> simp at h'; omega
  subst hn
  rw [World.ownsRow.cellAt h j (by omega), intsV_get l j hj]
theorem OwnI.frozen {w : World} {B g n cap : Nat} {l : List Int} (h : OwnI w B (.slice (some ⟨g, 0, none⟩) n cap) l) (j : Nat) : w.frozen? ⟨g, j, none⟩ = false := by
  have hn : n = l.length := by
    rcases h.2 with ⟨h', _⟩ | ⟨g', cap', cur, h', _⟩ <;> simp at h'; omega
  subst hn
  exact World.ownsRow.frozenAt h j
theorem OwnI.store {w : World} {B g n cap : Nat} {l : List Int} (h : OwnI w B (.slice (some ⟨g, 0, none⟩) n cap) l) (j : Nat) (x : Int) :
    OwnI (w.setCell ⟨g, j, none⟩ (.int .i64 x)) B (.slice (some ⟨g, 0, none⟩) n cap) (l.set j x) ∧ w.grownBy (w.setCell ⟨g, j, none⟩ (.int .i64 x)) (some g) := by
  have hn : n = l.length := by
    rcases h.2 with ⟨h', _⟩ | ⟨g', cap', cur, h', _⟩ <;> simp at h'; omega
  subst hn
  obtain ⟨h1, h2⟩ := World.ownsRow.stored h j (.int .i64 x)
  refine ⟨?_, h2⟩
  unfold OwnI
  rw [List.length_set, show intsV (l.set j x) = (intsV l).set j (.int .i64 x) by simp [intsV, List.map_set]]
  exact h1
theorem one_i64 (x : Int) : ∀ u ∈ [Value.int .i64 x], u.oneCell' = true := by intro u hu; simp at hu; subst hu; rfl

/-- The slice value v can be read: it holds the ints l. -/
def ReadI (w : World) (v : Value) (l : List Int) : Prop :=
  ∃ a cap, v = .slice a l.length cap ∧ ∀ i (h : i < l.length), ∃ x, a = some x ∧ w.cell? (x.add i) = some (.int .i64 l[i])
theorem OwnI.read {w : World} {B : Nat} {v : Value} {l : List Int} (h : OwnI w B v l) : ReadI w v l := by
  rcases h.shape with ⟨rfl, rfl⟩ | ⟨g, cap, rfl, _⟩
  · exact ⟨none, 0, rfl, fun i h => by simp at h⟩
  · exact ⟨_, cap, rfl, fun i hi => ⟨_, rfl, by
      have hadd : (⟨g, 0, none⟩ : Addr).add i = ⟨g, i, none⟩ := by unfold Addr.add; split <;> simp_all
      rw [hadd]; exact h.cell i hi⟩⟩

/-- eqIntS at two lists of one length that part first at place d, or nowhere. -/
def eqB (l l' : List Int) : Bool := decide (l = l')
set_option maxHeartbeats 800000 in
theorem eqIntQ_any (v v' : Value) (l l' : List Int) (w : World) (hr : ReadI w v l) (hr' : ReadI w v' l') (hl : l.length ≤ 1000000000) :
    Calls Try.prog 15 #[v, v'] w fun e w' => e = .returned (.bool (eqB l l')) ∧ ∃ m, w' = w.drewN m := by
  obtain ⟨a, cap, rfl, ha⟩ := hr
  obtain ⟨a', cap', rfl, ha'⟩ := hr'
  have HA := Lib.hid ha
  have HA' := Lib.hid ha'
  clear ha ha'
  by_cases hlen : l.length = l'.length
  · have hne : ((l.length : Int) != (l'.length : Int)) = false := by simp [hlen]
    have HL := Lib.hid hlen
    clear hlen
    go_enter Try.func15, Try.ntmps15
    go_wp2_with fail
    go_loopw [5] (fun iv wr => ∃ (k n : Nat), k ≤ l.length ∧ iv = .int .i64 (k : Int) ∧ Hid (l.take k = l'.take k) ∧ wr = w.drewN n) (fun iv _ => l.length - (intOf iv).toNat)
    case atStart => exact ⟨0, 0, by omega, rfl, Lib.hid rfl, rfl⟩
    case round =>
      obtain ⟨k, n, hk, rfl, hsame, rfl⟩ := hrel
      by_cases hlt : k < l.length
      · have hlt' : k < l'.length := by have := HL.out; omega
        obtain ⟨x, rfl, hx⟩ := HA.out k hlt
        obtain ⟨x', rfl, hx'⟩ := HA'.out k hlt'
        have z0 : (0 : Int) ≤ (k : Int) := by omega
        have z1 : (k : Int) < (l.length : Int) := by omega
        have z2 : (k : Int) < (l'.length : Int) := by omega
        by_cases he : l[k] = l'[k]
        · have hb : (l[k] != l'[k]) = false := by simp [he]
          have HE := Lib.hid he
          clear he
          go_wp2_with fail
          go_quiet (fail)
          go_wp2_with fail
          go_roundw
          case rel => exact ⟨k + 1, _, by omega, by go_num, Lib.hid (by rw [List.take_succ_eq_append_getElem hlt, List.take_succ_eq_append_getElem hlt', hsame.out, HE.out]), rfl⟩
          case measure => simp [intOf]; omega
        · have hb : (l[k] != l'[k]) = true := by simpa using he
          have HE := Lib.hid he
          clear he
          go_wp2_with fail
          go_quiet (fail)
          go_wp2_with fail
          go_ret
          exact ⟨ret_b (by unfold eqB; rw [decide_eq_false]; intro e; apply HE.out; simp only [e]), _, World.drewN_drewN _ _ _⟩
      · go_wp2_with fail
        go_ret
        exact ⟨ret_b (by
          unfold eqB
          rw [decide_eq_true]
          have := hsame.out
          rwa [List.take_of_length_le (by omega), List.take_of_length_le (by have := HL.out; omega)] at this), _, rfl⟩
  · have hne : ((l.length : Int) != (l'.length : Int)) = true := by simp; omega
    have HL := Lib.hid hlen
    clear hlen
    go_enter Try.func15, Try.ntmps15
    go_wp2_with fail
    go_ret
    exact ⟨ret_b (by unfold eqB; rw [decide_eq_false]; intro e; exact HL.out (by rw [e])), 0, rfl⟩
theorem eqInt_any (v v' : Value) (l l' : List Int) (w : World) (hr : ReadI w v l) (hr' : ReadI w v' l') (hl : l.length ≤ 1000000000) :
    Calls Try.prog 15 #[v, v'] w fun e w' => e = .returned (.bool (eqB l l')) ∧ Below w.heap.size w w' :=
  (eqIntQ_any v v' l l' w hr hr' hl).mono fun _ _ ⟨a, m, b⟩ => ⟨a, by rw [b]; exact ⟨rfl, rfl, rfl, Nat.le_refl _, fun _ _ => rfl⟩⟩

/-- k, k + 1, and so on, n of them. -/
def upFrom (k : Int) (n : Nat) : List Int := (List.range n).map fun (j : Nat) => k + (j : Int)
theorem upFrom_length (k : Int) (n : Nat) : (upFrom k n).length = n := by simp [upFrom]
theorem upFrom_get (k : Int) (n j : Nat) (h : j < (upFrom k n).length) : (upFrom k n)[j] = k + (j : Int) := by simp [upFrom]
theorem mark_start (k : Int) (l : List Int) : upFrom k 0 ++ l.drop 0 = l := by simp [upFrom]
theorem mark_step (k : Int) (l : List Int) (j : Nat) (h : j < l.length) : (upFrom k j ++ l.drop j).set j (k + (j : Int)) = upFrom k (j + 1) ++ l.drop (j + 1) := by
  have e : upFrom k (j + 1) = upFrom k j ++ [k + (j : Int)] := by simp [upFrom, List.range_succ]
  rw [List.set_append, if_neg (by rw [upFrom_length]; omega), upFrom_length, Nat.sub_self, List.drop_eq_getElem_cons h, e, List.append_assoc]
  rfl
set_option maxHeartbeats 800000 in
theorem markInt_any (v : Value) (l : List Int) (k : Int) (B : Nat) (w : World) (ho : OwnI w B v l) (hl : l.length ≤ 1000000000) (hk0 : -1000000000 ≤ k) (hk1 : k ≤ 1000000000) :
    Calls Try.prog 18 #[v, .int .i64 k] w fun e w' => e = .returned (.int .i64 (k + (l.length : Int))) ∧ OwnI w' B v (upFrom k l.length) ∧ w.grownBy w' v.ownBlock := by
  rcases ho.shape with ⟨rfl, rfl⟩ | ⟨g, cap, rfl, _, hBg, hgs⟩
  · go_enter Try.func18, Try.ntmps18
    go_wp2_with fail
    refine wp_loop_rounds 1 ?_
    rw [rounds_succ]
    go_wp2_with fail
    go_ret
    exact ⟨ret_int (by simp), by simpa [upFrom] using ho, World.grownBy.refl _ _⟩
  · go_enter Try.func18, Try.ntmps18
    go_wp2_with fail
    go_loopw [1, 5] (fun kv iv wr => ∃ j : Nat, j ≤ l.length ∧ kv = .int .i64 (k + (j : Int)) ∧ iv = .int .i64 (j : Int) ∧ OwnI wr B (.slice (some ⟨g, 0, none⟩) l.length cap) (upFrom k j ++ l.drop j) ∧ w.grownBy wr (some g)) (fun _ iv _ => l.length - (intOf iv).toNat)
    case atStart => exact ⟨0, by omega, by simp, rfl, by rw [mark_start]; exact ho, World.grownBy.refl _ _⟩
    case round =>
      obtain ⟨j, hj, rfl, rfl, ho', hg⟩ := hrel
      by_cases hlt : j < l.length
      · have hcell := ho'.cell j (by rw [List.length_append, upFrom_length, List.length_drop]; omega)
        have hfz := ho'.frozen j
        have z0 : (0 : Int) ≤ (j : Int) := by omega
        have z1 : (j : Int) < (l.length : Int) := by omega
        go_wp2_with fail
        obtain ⟨s1, s2⟩ := ho'.store j (k + (j : Int))
        rw [mark_step k l j hlt] at s1
        go_roundw
        case rel => exact ⟨j + 1, by omega, by go_num, by go_num, s1, ⟨s2.os.trans hg.os, s2.tape.trans hg.tape, s2.output.trans hg.output, Nat.le_trans hg.size s2.size, fun q hq hne => (s2.block q (Nat.lt_of_lt_of_le hq hg.size) hne).trans (hg.block q hq hne)⟩⟩
        case measure => simp [intOf]; omega
      · obtain rfl : j = l.length := by omega
        go_wp2_with fail
        go_ret
        rw [List.drop_eq_nil_of_le (Nat.le_refl _), List.append_nil] at ho'
        exact ⟨rfl, ho', hg⟩
set_option maxHeartbeats 800000 in
theorem heldInt_any (v : Value) (n : Nat) (k : Int) (w : World) (hr : ReadI w v (upFrom k n)) (hl : n ≤ 1000000000) (hk0 : -1000000000 ≤ k) (hk1 : k ≤ 1000000000) :
    Calls Try.prog 19 #[v, .int .i64 k] w fun e w' => e = .returned (.int .i64 (k + (n : Int))) ∧ w = w' := by
  obtain ⟨a, cap, rfl, ha⟩ := hr
  rw [upFrom_length]
  have HA : Hid (∀ i, i < n → ∃ x, a = some x ∧ w.cell? (x.add i) = some (.int .i64 (k + (i : Int)))) := Lib.hid fun i hi => by
    obtain ⟨x, e1, e2⟩ := ha i (by rw [upFrom_length]; exact hi)
    rw [upFrom_get] at e2
    exact ⟨x, e1, e2⟩
  clear ha
  go_enter Try.func19, Try.ntmps19
  go_wp2_with fail
  go_loop [1, 5] (fun kv iv => ∃ j : Nat, j ≤ n ∧ kv = .int .i64 (k + (j : Int)) ∧ iv = .int .i64 (j : Int)) (fun _ iv => n - (intOf iv).toNat)
  case atStart => exact ⟨0, by omega, by simp, rfl⟩
  case round =>
    obtain ⟨j, hj, rfl, rfl⟩ := hrel
    by_cases hlt : j < n
    · obtain ⟨x, rfl, hx⟩ := HA.out j hlt
      have z0 : (0 : Int) ≤ (j : Int) := by omega
      have z1 : (j : Int) < (n : Int) := by omega
      have hb : (k + (j : Int) != k + (j : Int)) = false := by simp
      go_wp2_with fail
      go_round
      case rel => exact ⟨j + 1, by omega, by go_num, by go_num⟩
      case measure => simp [intOf]; omega
    · obtain rfl : j = n := by omega
      go_wp2_with fail
      go_ret
      exact ⟨rfl, rfl⟩
end Go.Proofs.Ytcgkfbjdlhapkaa
namespace Go.Proofs.Ytcgkfbjdlhapkaa
open Go.RowKit

/-- The blocks from B on and below C hold what they held. -/
def Same (B C : Nat) (w w' : World) : Prop := ∀ k, B ≤ k → k < C → w'.heap[k]? = w.heap[k]?
theorem Same.refl (B C : Nat) (w : World) : Same B C w w := fun _ _ _ => rfl
theorem Same.trans {B C : Nat} {a b c : World} (h : Same B C a b) (k : Same B C b c) : Same B C a c := fun i x y => (k i x y).trans (h i x y)
theorem Same.sub {B C B' C' : Nat} {w w' : World} (h : Same B C w w') (hB : B ≤ B') (hC : C' ≤ C) : Same B' C' w w' := fun i x y => h i (by omega) (by omega)
theorem Below.keeps {D B C : Nat} {w w' : World} (h : Below D w w') (hC : C ≤ D) : Same B C w w' := fun i _ y => h.block i (by omega)
theorem Same.setCell {B C : Nat} {a w : World} (h : Same B C a w) {p : Addr} (hp : p.block < B ∨ C ≤ p.block) (u : Value) : Same B C a (w.setCell p u) := h.trans fun k x y => Below.heap_setCell _ _ _ _ (by omega)
/-- Only the blocks from B on and below C may have been written; new ones may have come. -/
structure Mid (B C : Nat) (w w' : World) : Prop where
  os : w'.os = w.os
  tape : w'.tape = w.tape
  output : w'.output = w.output
  size : w.heap.size ≤ w'.heap.size
  block : ∀ k, k < w.heap.size → (k < B ∨ C ≤ k) → w'.heap[k]? = w.heap[k]?
theorem Mid.refl (B C : Nat) (w : World) : Mid B C w w := ⟨rfl, rfl, rfl, Nat.le_refl _, fun _ _ _ => rfl⟩
theorem Mid.trans {B C : Nat} {a b c : World} (h : Mid B C a b) (k : Mid B C b c) : Mid B C a c :=
  ⟨k.os.trans h.os, k.tape.trans h.tape, k.output.trans h.output, Nat.le_trans h.size k.size, fun i x y => (k.block i (Nat.lt_of_lt_of_le x h.size) y).trans (h.block i x y)⟩
theorem Mid.sub {B C B' C' : Nat} {w w' : World} (h : Mid B C w w') (hB : B' ≤ B) (hC : C ≤ C') : Mid B' C' w w' := ⟨h.os, h.tape, h.output, h.size, fun k x y => h.block k x (by omega)⟩
theorem Mid.below {B C D : Nat} {w w' : World} (h : Mid B C w w') (hD : D ≤ B) (hw : D ≤ w.heap.size) : Below D w w' := ⟨h.os, h.tape, h.output, h.size, fun k x => h.block k (by omega) (.inl (by omega))⟩
theorem Mid.same {B C B' C' : Nat} {w w' : World} (h : Mid B C w w') (hC : C' ≤ w.heap.size) (hd : C' ≤ B ∨ C ≤ B') : Same B' C' w w' := fun k x y => h.block k (by omega) (by omega)
theorem Mid.ofGrown {B C : Nat} {w w' : World} {row : Option Nat} (h : w.grownBy w' row) (hr : ∀ g, row = some g → B ≤ g ∧ g < C) : Mid B C w w' :=
  ⟨h.os, h.tape, h.output, h.size, fun k x y => h.block k x (fun e => by have := hr k e.symm; omega)⟩
theorem Mid.ofBelow {B C : Nat} {w w' : World} (h : Below w.heap.size w w') : Mid B C w w' := ⟨h.os, h.tape, h.output, h.size, fun k x _ => h.block k x⟩

theorem ReadI.kept {w w' : World} {v : Value} {l : List Int} (h : ReadI w v l) (hb : Below w.heap.size w w') : ReadI w' v l := by
  obtain ⟨a, cap, hv, hc⟩ := h
  refine ⟨a, cap, hv, fun i hi => ?_⟩
  obtain ⟨x, hx, hcell⟩ := hc i hi
  exact ⟨x, hx, (hb.cell (World.block_lt_of_cell? w _ hcell)).trans hcell⟩
theorem ReadI.nil (w : World) : ReadI w (.slice none 0 0) [] := ⟨none, 0, rfl, fun i h => by simp at h⟩
theorem OwnI.same {w w' : World} {B : Nat} {v : Value} {l : List Int} (h : OwnI w B v l) (hs : ∀ g, v.ownBlock = some g → w'.heap[g]? = w.heap[g]?) : OwnI w' B v l := by
  refine ⟨h.1, ?_⟩
  rcases h.2 with hn | ⟨g, cap, cur, rfl, hB, hgg, rest⟩
  · exact .inl hn
  · exact .inr ⟨g, cap, cur, rfl, hB, (hs g rfl).trans hgg, rest⟩

/-- The slice value v can be read: it holds rows that can be read. -/
def ReadSS (w : World) (v : Value) (ll : List (List Int)) : Prop :=
  ∃ a cap, v = .slice a ll.length cap ∧ ∀ i, i < ll.length → ∃ x u, a = some x ∧ w.cell? (x.add i) = some u ∧ ReadI w u (ll.getD i [])
theorem ReadSS.kept {w w' : World} {v : Value} {ll : List (List Int)} (h : ReadSS w v ll) (hb : Below w.heap.size w w') : ReadSS w' v ll := by
  obtain ⟨a, cap, hv, hc⟩ := h
  refine ⟨a, cap, hv, fun i hi => ?_⟩
  obtain ⟨x, u, hx, hcell, hr⟩ := hc i hi
  exact ⟨x, u, hx, (hb.cell (World.block_lt_of_cell? w _ hcell)).trans hcell, hr.kept hb⟩
theorem ReadSS.nil (w : World) : ReadSS w (.slice none 0 0) [] := ⟨none, 0, rfl, fun i h => by simp at h⟩

/-- The slice value v owns rows of its own, all of them blocks from B on and below C, no two of them one block. -/
def OwnSS (w : World) (B C : Nat) (v : Value) (ll : List (List Int)) : Prop :=
  ∃ V : Nat → Value, w.ownsRow B 24 1 v ll.length ((List.range ll.length).map V) ∧ (∀ g, v.ownBlock = some g → g < C) ∧
    (∀ i, i < ll.length → OwnI w B (V i) (ll.getD i []) ∧ ∀ g, (V i).ownBlock = some g → g < C) ∧
    (∀ i j, i < j → j < ll.length → ∀ g, (V i).ownBlock = some g → (V j).ownBlock ≠ some g)
theorem OwnSS.nil (w : World) (B C : Nat) : OwnSS w B C (.slice none 0 0) [] :=
  ⟨fun _ => .slice none 0 0, World.ownsRow_nil _ _ _ _, (fun g h => by cases h), (fun i h => absurd h (Nat.not_lt_zero _)), (fun i j _ h => absurd h (Nat.not_lt_zero _))⟩
theorem OwnSS.same {w w' : World} {B C : Nat} {v : Value} {ll : List (List Int)} (h : OwnSS w B C v ll) (hs : Same B C w w') : OwnSS w' B C v ll := by
  obtain ⟨V, h1, h2, h3, h4⟩ := h
  refine ⟨V, ⟨h1.1, ?_⟩, h2, fun i hi => ⟨(h3 i hi).1.same fun g hg => hs g ((h3 i hi).1.lt g hg).1 ((h3 i hi).2 g hg), (h3 i hi).2⟩, h4⟩
  rcases h1.2 with hn | ⟨g, cap, cur, rfl, hB, hgg, rest⟩
  · exact .inl hn
  · exact .inr ⟨g, cap, cur, rfl, hB, (hs g hB (h2 g rfl)).trans hgg, rest⟩
theorem OwnSS.base {w : World} {B B' C C' : Nat} {v : Value} {ll : List (List Int)} (h : OwnSS w B C v ll) (hB : B' ≤ B) (hC : C ≤ C') : OwnSS w B' C' v ll := by
  obtain ⟨V, h1, h2, h3, h4⟩ := h
  refine ⟨V, ⟨h1.1, ?_⟩, fun g hg => Nat.lt_of_lt_of_le (h2 g hg) hC, fun i hi => ⟨(h3 i hi).1.base hB, fun g hg => Nat.lt_of_lt_of_le ((h3 i hi).2 g hg) hC⟩, h4⟩
  rcases h1.2 with hn | ⟨g, cap, cur, rfl, hb, rest⟩
  · exact .inl hn
  · exact .inr ⟨g, cap, cur, rfl, by omega, rest⟩
/-- The shape of an owned value, and the cells of the outer row. -/
theorem ownsRow_shape {w : World} {B : Nat} {e : TypeId} {v : Value} {n : Nat} {xs : List Value} (h : w.ownsRow B e 1 v n xs) : (v = .slice none 0 0 ∧ n = 0) ∨ ∃ g cap, v = .slice (some ⟨g, 0, none⟩) n cap ∧ v.ownBlock = some g ∧ B ≤ g ∧ g < w.heap.size := by
  rcases h.2 with ⟨rfl, hn⟩ | ⟨g, cap, cur, rfl, hB, hgg, rest⟩
  · exact .inl ⟨rfl, hn⟩
  · exact .inr ⟨g, cap, rfl, rfl, hB, (Array.getElem?_eq_some_iff.1 hgg).1⟩
theorem add_zero_off (g i : Nat) : (⟨g, 0, none⟩ : Addr).add i = ⟨g, i, none⟩ := by unfold Addr.add; split <;> simp_all
theorem OwnSS.read {w : World} {B C : Nat} {v : Value} {ll : List (List Int)} (h : OwnSS w B C v ll) : ReadSS w v ll := by
  obtain ⟨V, h1, h2, h3, h4⟩ := h
  rcases ownsRow_shape h1 with ⟨rfl, hn⟩ | ⟨g, cap, rfl, -, -, -⟩
  · exact ⟨none, 0, by rw [hn], fun i hi => by omega⟩
  · refine ⟨_, cap, rfl, fun i hi => ⟨_, V i, rfl, ?_, (h3 i hi).1.read⟩⟩
    rw [add_zero_off, World.ownsRow.cellAt h1 i (by omega)]
    simp [hi]
/-- Blocks of rows of ints and blocks of rows of slices differ. -/
theorem row_apart {w : World} {B B' : Nat} {v v' : Value} {n : Nat} {xs : List Value} {l : List Int} (h : w.ownsRow B 24 1 v n xs) (h' : OwnI w B' v' l) : ∀ g, v.ownBlock = some g → v'.ownBlock ≠ some g := by
  intro g hg hg'
  rcases h.2 with ⟨rfl, _⟩ | ⟨g1, cap, cur, rfl, hB, hgg, rest⟩
  · cases hg
  · rcases h'.2 with ⟨rfl, _⟩ | ⟨g2, cap2, cur2, rfl, hB2, hgg2, rest2⟩
    · cases hg'
    · simp [Value.ownBlock] at hg hg'
      subst hg hg'
      rw [hgg] at hgg2
      simp at hgg2
theorem getD_snoc {α : Type} (l : List α) (x d : α) (i : Nat) (hi : i < l.length + 1) : (l ++ [x]).getD i d = if i < l.length then l.getD i d else x := by
  split
  · next h => simp [List.getD_eq_getElem?_getD, List.getElem?_append_left h]
  · next h =>
    obtain rfl : i = l.length := by omega
    simp [List.getD_eq_getElem?_getD]
/-- The outer row after one more row u was appended to it (the law of append gives h1, hg); u is a row of its own in a block of its own. -/
theorem OwnSS.snocV {w w' : World} {B C C' : Nat} {v v' u : Value} {ll : List (List Int)} {l : List Int} {V : Nat → Value} (o1 : w.ownsRow B 24 1 v ll.length ((List.range ll.length).map V)) (_o2 : ∀ g, v.ownBlock = some g → g < C)
    (o3 : ∀ i, i < ll.length → OwnI w B (V i) (ll.getD i []) ∧ ∀ g, (V i).ownBlock = some g → g < C) (o4 : ∀ i j, i < j → j < ll.length → ∀ g, (V i).ownBlock = some g → (V j).ownBlock ≠ some g)
    (hu : OwnI w B u l) (huC : ∀ g, u.ownBlock = some g → C ≤ g ∧ g < C')
    (h1 : w'.ownsRow B 24 1 v' (ll.length + 1) ((List.range ll.length).map V ++ [u])) (hg : w.grownBy w' v.ownBlock) (hC : C ≤ C') (hv' : ∀ g, v'.ownBlock = some g → g < C') : OwnSS w' B C' v' (ll ++ [l]) := by
  have hap : ∀ i, i < ll.length → ∀ g, v.ownBlock = some g → (V i).ownBlock ≠ some g := fun i hi => row_apart o1 (o3 i hi).1
  have hapu : ∀ g, v.ownBlock = some g → u.ownBlock ≠ some g := row_apart o1 hu
  refine ⟨fun i => if i < ll.length then V i else u, ?_, hv', fun i hi => ?_, fun i j hij hj g => ?_⟩
  · have e : (List.range (ll ++ [l]).length).map (fun i => if i < ll.length then V i else u) = (List.range ll.length).map V ++ [u] := by
      rw [List.length_append, List.length_singleton, List.range_succ, List.map_append]
      congr 1
      · apply List.map_congr_left; intro i hi; rw [List.mem_range] at hi; simp [hi]
      · simp
    rw [e, List.length_append]; exact h1
  · rw [List.length_append, List.length_singleton] at hi
    rw [getD_snoc _ _ _ _ hi]
    by_cases hlt : i < ll.length
    · simp only [hlt, if_true]
      exact ⟨(o3 i hlt).1.keptBy hg (fun g hg => hap i hlt g hg), fun g hgg => Nat.lt_of_lt_of_le ((o3 i hlt).2 g hgg) hC⟩
    · simp only [hlt, if_false]
      exact ⟨hu.keptBy hg hapu, fun g hgg => (huC g hgg).2⟩
  · rw [List.length_append, List.length_singleton] at hj
    have hi : i < ll.length := by omega
    simp only [hi, if_true]
    by_cases hlt : j < ll.length
    · simp only [hlt, if_true]; exact o4 i j hij hlt g
    · simp only [hlt, if_false]
      intro a b
      have := (o3 i hi).2 g a
      have := (huC g b).1
      omega
theorem OwnSS.full {w : World} {B C : Nat} {v : Value} {n : Nat} (h : w.ownsRow B 24 1 v n (madeCells (Value.cells (.slice none 0 0)) (n * 1)).toList) (hC : ∀ g, v.ownBlock = some g → g < C) : OwnSS w B C v (List.replicate n []) := by
  have e : (madeCells (Value.cells (.slice none 0 0)) (n * 1)).toList = (List.range n).map (fun _ => Value.slice none 0 0) := by
    rw [show Value.cells (.slice none 0 0) = #[.slice none 0 0] from rfl, toList_madeCells_one, Nat.mul_one]
    apply List.ext_getElem
    · simp
    · intro i h1 h2; simp
  rw [e] at h
  refine ⟨fun _ => .slice none 0 0, by rw [List.length_replicate]; exact h, hC, fun i hi => ⟨?_, fun g hg => by cases hg⟩, fun i j _ _ g hg => by cases hg⟩
  rw [List.length_replicate] at hi
  rw [show (List.replicate n ([] : List Int)).getD i [] = [] by rw [List.getD_eq_getElem?_getD, List.getElem?_eq_getElem (by simpa using hi)]; simp]
  exact World.ownsRow_nil _ _ _ _
theorem OwnSS.outer {w : World} {B C g n cap : Nat} {ll : List (List Int)} (h : OwnSS w B C (.slice (some ⟨g, 0, none⟩) n cap) ll) (k : Nat) (hk : k < ll.length) : (∃ u, w.cell? ⟨g, k, none⟩ = some u ∧ ReadI w u (ll.getD k [])) ∧ w.frozen? ⟨g, k, none⟩ = false := by
  obtain ⟨V, h1, h2, h3, h4⟩ := h
  have hn : n = ll.length := by
    rcases h1.2 with ⟨h', _⟩ | ⟨g', cap', cur, h', _⟩ <;> simp at h'; omega
  subst hn
  refine ⟨⟨V k, ?_, (h3 k hk).1.read⟩, World.ownsRow.frozenAt h1 k⟩
  rw [World.ownsRow.cellAt h1 k (by omega)]
  simp [hk]
theorem getD_set {α : Type} (l : List α) (k i : Nat) (x d : α) (hk : k < l.length) : (l.set k x).getD i d = if i = k then x else l.getD i d := by
  rw [List.getD_eq_getElem?_getD, List.getElem?_set]
  by_cases h : k = i
  · subst h; simp [hk]
  · rw [if_neg h, if_neg (fun e => h e.symm), List.getD_eq_getElem?_getD]
theorem OwnSS.store {w : World} {B C C' g n cap k : Nat} {u : Value} {ll : List (List Int)} {l : List Int} (h : OwnSS w B C (.slice (some ⟨g, 0, none⟩) n cap) ll) (hk : k < ll.length) (hu : OwnI w B u l) (huC : ∀ q, u.ownBlock = some q → C ≤ q ∧ q < C') (hC : C ≤ C') :
    OwnSS (w.setCell ⟨g, k, none⟩ u) B C' (.slice (some ⟨g, 0, none⟩) n cap) (ll.set k l) := by
  obtain ⟨V, o1, o2, o3, o4⟩ := h
  have hn : n = ll.length := by
    rcases o1.2 with ⟨h', _⟩ | ⟨g', cap', cur, h', _⟩ <;> simp at h'; omega
  subst hn
  have hap : ∀ i, i < ll.length → (V i).ownBlock ≠ some g := fun i hi => row_apart o1 (o3 i hi).1 g rfl
  have hapu : u.ownBlock ≠ some g := row_apart o1 hu g rfl
  obtain ⟨s1, s2⟩ := World.ownsRow.stored o1 k u
  have hblk : ∀ q, q ≠ g → (w.setCell ⟨g, k, none⟩ u).heap[q]? = w.heap[q]? := fun q hq => Below.heap_setCell _ _ _ _ hq
  refine ⟨fun i => if i = k then u else V i, ?_, fun q hq => Nat.lt_of_lt_of_le (o2 q hq) hC, fun i hi => ?_, fun i j hij hj q => ?_⟩
  · have e : (List.range (ll.set k l).length).map (fun i => if i = k then u else V i) = ((List.range ll.length).map V).set k u := by
      rw [List.length_set]
      apply List.ext_getElem
      · simp
      · intro i h1 h2
        simp only [List.length_map, List.length_range] at h1
        rw [List.getElem_set]
        simp only [List.getElem_map, List.getElem_range]
        by_cases h : i = k
        · simp [h]
        · rw [if_neg h, if_neg (fun e => h e.symm)]
    rw [e, List.length_set]; exact s1
  · rw [List.length_set] at hi
    rw [getD_set _ _ _ _ _ hk]
    by_cases hik : i = k
    · simp only [hik, if_true]
      exact ⟨hu.same (fun q hq => hblk q (fun e => hapu (by rw [← e]; exact hq))), fun q hq => (huC q hq).2⟩
    · simp only [hik, if_false]
      exact ⟨(o3 i hi).1.same (fun q hq => hblk q (fun e => hap i hi (by rw [← e]; exact hq))), fun q hq => Nat.lt_of_lt_of_le ((o3 i hi).2 q hq) hC⟩
  · rw [List.length_set] at hj
    by_cases hik : i = k
    · have hjk : ¬ j = k := by omega
      simp only [hik, hjk, if_true, if_false]
      intro a b
      have := (huC q a).1
      have := (o3 j hj).2 q b
      omega
    · by_cases hjk : j = k
      · simp only [hik, hjk, if_true, if_false]
        intro a b
        have := (huC q b).1
        have := (o3 i (by omega)).2 q a
        omega
      · simp only [hik, hjk, if_false]; exact o4 i j hij hj q
theorem OwnSS.cap {w : World} {B C : Nat} {v : Value} {ll : List (List Int)} (h : OwnSS w B C v ll) : ∃ a cap, v = .slice a ll.length cap ∧ ll.length ≤ cap := by
  obtain ⟨V, h1, -⟩ := h
  rcases h1.2 with ⟨rfl, hn⟩ | ⟨g, cap, cur, rfl, hB, hgg, hc, rest⟩
  · exact ⟨none, 0, by rw [hn], by omega⟩
  · exact ⟨_, cap, rfl, hc⟩
/-- A slice of rows in memory of the call's own. -/
def RetSS (ll : List (List Int)) (w : World) (e : Ending) (w' : World) : Prop := ∃ v, e = .returned v ∧ OwnSS w' w.heap.size w'.heap.size v ll ∧ Below w.heap.size w w'
/-- A table in memory of the call's own. -/
def RetT (c : Int) (ll : List (List Int)) (w : World) (e : Ending) (w' : World) : Prop := ∃ v, e = .returned (.agg #[.int .i64 c, v]) ∧ OwnSS w' w.heap.size w'.heap.size v ll ∧ Below w.heap.size w w'
end Go.Proofs.Ytcgkfbjdlhapkaa
namespace Go.Proofs.Ytcgkfbjdlhapkaa
open Go.RowKit

/-- The number of cells of all rows. -/
def tot (ll : List (List Int)) : Nat := (ll.map List.length).sum
theorem take_succ_getD {α : Type} (l : List α) (d : α) (k : Nat) (h : k < l.length) : l.take (k + 1) = l.take k ++ [l.getD k d] := by
  rw [List.take_succ_eq_append_getElem h, List.getD_eq_getElem?_getD, List.getElem?_eq_getElem h]; rfl
theorem tot_succ {ll : List (List Int)} {k : Nat} (h : k < ll.length) : tot (ll.take (k + 1)) = tot (ll.take k) + (ll.getD k []).length := by
  rw [take_succ_getD ll [] k h]; simp [tot]
theorem tot_take (ll : List (List Int)) (k : Nat) : tot (ll.take k) ≤ tot ll := by
  have h : tot ll = tot (ll.take k) + tot (ll.drop k) := by
    unfold tot; rw [← List.sum_append, ← List.map_append, List.take_append_drop]
  omega
theorem tot_get {ll : List (List Int)} {k : Nat} (h : k < ll.length) : (ll.getD k []).length ≤ tot ll := by
  have h1 := tot_succ h
  have h2 := tot_take ll (k + 1)
  omega
/-- What is left of a budget. -/
def szD (left : Int) (n : Nat) : Int := if (n : Int) ≤ left then left - n else -1
/-- No row is longer than a slice may be. -/
def Short (ll : List (List Int)) : Prop := ll.length ≤ 9223372036854775807 ∧ ∀ i, i < ll.length → (ll.getD i []).length ≤ 9223372036854775807
theorem bcell {W w1 : World} (hb : Below W.heap.size W w1) : (∀ b o, b < W.heap.size → w1.cell? ⟨b, o, none⟩ = W.cell? ⟨b, o, none⟩) ∧ (∀ b o, b < W.heap.size → w1.frozen? ⟨b, o, none⟩ = W.frozen? ⟨b, o, none⟩) :=
  ⟨fun b o h => hb.cell (p := ⟨b, o, none⟩) h, fun b o h => hb.frozen (p := ⟨b, o, none⟩) h⟩
/-- The cells of a table. -/
def szOf (ll : List (List Int)) : Nat := ll.length + tot ll
/-! ### Equality -/
theorem take_eq_all {ll ll' : List (List Int)} {n : Nat} (h : ll.take n = ll'.take n) (h1 : ll.length ≤ n) (h2 : ll'.length ≤ n) : ll = ll' := by
  rwa [List.take_of_length_le h1, List.take_of_length_le h2] at h
/-- Two tables are equal. -/
def eqTb (c c' : Int) (ll ll' : List (List Int)) : Bool := decide (c = c') && decide (ll = ll')
theorem eqTb_self (c : Int) (ll : List (List Int)) : eqTb c c ll ll = true := by unfold eqTb; simp
theorem szD_ok {left : Int} {n : Nat} (h : (n : Int) ≤ left) : szD left n = left - n := by unfold szD; rw [if_pos h]
theorem szD_no {left : Int} {n : Nat} (h : ¬ (n : Int) ≤ left) : szD left n = -1 := by unfold szD; rw [if_neg h]
theorem szOf_bd {ll : List (List Int)} {m : Nat} (h : szOf ll ≤ m) : ll.length ≤ m ∧ ∀ i, i < ll.length → (ll.getD i []).length ≤ m := by
  unfold szOf at h
  exact ⟨by omega, fun i hi => by have := tot_get hi; omega⟩
end Go.Proofs.Ytcgkfbjdlhapkaa
