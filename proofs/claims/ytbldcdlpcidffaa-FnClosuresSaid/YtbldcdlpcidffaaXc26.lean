/- Texts of this claim, merged: DvA. Conditions: as stated. -/
import Derived.Test.YtbldcdlpcidffaaXc5
import Derived.Test.YtbldcdlpcidffaaXc3
import Derived.Lib.SmallJoins
import Derived.Deep.SlicePairs
namespace Go.Proofs.Ytbldcdlpcidffaa
open Go.RowKit

/-- The cells of a list of triples. -/
def trpV : List (Int × Int × Int) → List Value
  | [] => []
  | t :: r => .int .i64 t.1 :: .int .i64 t.2.1 :: .int .i64 t.2.2 :: trpV r
theorem trpV_len : ∀ ts : List (Int × Int × Int), (trpV ts).length = ts.length * 3
  | [] => rfl
  | t :: r => by simp only [trpV, List.length_cons, trpV_len r]; omega
theorem trpV_get : ∀ (ts : List (Int × Int × Int)) (i : Nat), i < ts.length → (trpV ts)[i * 3]? = some (.int .i64 (ts.getD i (0, 0, 0)).1) ∧ (trpV ts)[i * 3 + 1]? = some (.int .i64 (ts.getD i (0, 0, 0)).2.1) ∧ (trpV ts)[i * 3 + 2]? = some (.int .i64 (ts.getD i (0, 0, 0)).2.2)
  | [], i, h => absurd h (Nat.not_lt_zero _)
  | t :: r, 0, _ => ⟨rfl, rfl, rfl⟩
  | t :: r, i + 1, h => by
    have ih := trpV_get r i (by simpa using h)
    rw [show (i + 1) * 3 = i * 3 + 1 + 1 + 1 by omega]
    simpa [trpV] using ih
theorem trpV_set : ∀ (ts : List (Int × Int × Int)) (i : Nat) (a b c : Int), (((trpV ts).set (i * 3) (.int .i64 a)).set (i * 3 + 1) (.int .i64 b)).set (i * 3 + 2) (.int .i64 c) = trpV (ts.set i (a, b, c))
  | [], i, a, b, c => by simp [trpV]
  | t :: r, 0, a, b, c => rfl
  | t :: r, i + 1, a, b, c => by
    have ih := trpV_set r i a b c
    rw [show (i + 1) * 3 = i * 3 + 1 + 1 + 1 by omega]
    simp only [trpV, List.set_cons_succ]
    rw [ih]
theorem trpV_append (a b : List (Int × Int × Int)) : trpV (a ++ b) = trpV a ++ trpV b := by
  induction a with
  | nil => rfl
  | cons x t ih => simp [trpV, ih]
/-- The slice value v can be read: it holds these triples. -/
def ReadT (w : World) (v : Value) (ts : List (Int × Int × Int)) : Prop :=
  ∃ (a : Option Addr) (cap : Nat), v = .slice a ts.length cap ∧ ∀ i, i < ts.length → ∃ b o, a = some ⟨b, o, none⟩ ∧ w.cell? ⟨b, o + i * 3, none⟩ = some (.int .i64 (ts.getD i (0, 0, 0)).1) ∧ w.cell? ⟨b, o + i * 3 + 1, none⟩ = some (.int .i64 (ts.getD i (0, 0, 0)).2.1) ∧ w.cell? ⟨b, o + i * 3 + 2, none⟩ = some (.int .i64 (ts.getD i (0, 0, 0)).2.2)
/-- A slice of triples that the call owns. -/
def OwnT3 (w : World) (B : Nat) (v : Value) (ts : List (Int × Int × Int)) : Prop := w.ownsRow B 60 3 v ts.length (trpV ts)
theorem infoT3 : (Try.prog.info? 60).map (fun i => (i.zero, i.size, i.bytes)) = some (some (.agg #[.int .i64 0, .int .i64 0, .int .i64 0]), 3, 24) := by kernel_rfl
theorem OwnT3.read {w : World} {B : Nat} {v : Value} {ts : List (Int × Int × Int)} (h : OwnT3 w B v ts) : ReadT w v ts := by
  rcases h.2 with ⟨rfl, h0⟩ | ⟨g, cap, cur, rfl, hB, hgg, rest⟩
  · exact ⟨none, 0, by rw [h0], fun i hi => by omega⟩
  · refine ⟨_, cap, rfl, fun i hi => ⟨g, 0, rfl, ?_, ?_, ?_⟩⟩
    · rw [Nat.zero_add, World.ownsRow.cellAt h (i * 3) (by omega), (trpV_get ts i hi).1]
    · rw [Nat.zero_add, World.ownsRow.cellAt h (i * 3 + 1) (by omega), (trpV_get ts i hi).2.1]
    · rw [Nat.zero_add, World.ownsRow.cellAt h (i * 3 + 2) (by omega), (trpV_get ts i hi).2.2]
theorem ReadT.kept {w w' : World} {v : Value} {ts : List (Int × Int × Int)} (h : ReadT w v ts) (hb : Below w.heap.size w w') : ReadT w' v ts := by
  obtain ⟨a, cap, hv, hc⟩ := h
  refine ⟨a, cap, hv, fun i hi => ?_⟩
  obtain ⟨b, o, ha, h0, h1, h2⟩ := hc i hi
  exact ⟨b, o, ha, (hb.cell (World.block_lt_of_cell? w _ h0)).trans h0, (hb.cell (World.block_lt_of_cell? w _ h1)).trans h1, (hb.cell (World.block_lt_of_cell? w _ h2)).trans h2⟩
theorem OwnT3.lt {w : World} {B : Nat} {v : Value} {ts : List (Int × Int × Int)} (h : OwnT3 w B v ts) : ∀ k, v.ownBlock = some k → B ≤ k ∧ k < w.heap.size := World.ownsRow.lt h
theorem OwnT3.below {w w' : World} {B C : Nat} {v : Value} {ts : List (Int × Int × Int)} (h : OwnT3 w B v ts) (hb : Below C w w') (hC : ∀ k, v.ownBlock = some k → k < C) : OwnT3 w' B v ts := by
  refine ⟨h.1, ?_⟩
  rcases h.2 with hn | ⟨g, cap, cur, rfl, hB, hgg, rest⟩
  · exact .inl hn
  · exact .inr ⟨g, cap, cur, rfl, hB, (hb.block g (hC g rfl)).trans hgg, rest⟩
theorem OwnT3.nil (w : World) (B : Nat) : OwnT3 w B (.slice .none 0 0) [] := World.ownsRow_nil _ _ _ _
theorem OwnT3.snoc {w : World} {B : Nat} {v : Value} {ts : List (Int × Int × Int)} {x y z : Int} (h : w.ownsRow B 60 3 v (ts.length + 1) (trpV ts ++ [.int .i64 x, .int .i64 y, .int .i64 z])) : OwnT3 w B v (ts ++ [(x, y, z)]) := by
  unfold OwnT3
  rw [List.length_append, List.length_singleton, trpV_append]; exact h
theorem OwnT3.base {w : World} {B B' : Nat} {v : Value} {ts : List (Int × Int × Int)} (h : OwnT3 w B v ts) (hB : B' ≤ B) : OwnT3 w B' v ts := by
  refine ⟨h.1, ?_⟩
  rcases h.2 with hn | ⟨g, cap, cur, rfl, hb, rest⟩
  · exact .inl hn
  · exact .inr ⟨g, cap, cur, rfl, by omega, rest⟩
theorem cell_three_new (w : World) (x y z : Value) (t : TypeId) : ∀ j u, [x, y, z][j]? = some u → (w.alloc (.cells #[x, y, z] t)).cell? ((⟨w.heap.size, 0, none⟩ : Addr).add j) = some u := by
  intro j u hj
  match j, hj with
  | 0, hj => simp at hj; subst hj; simp [Addr.add]
  | 1, hj => simp at hj; subst hj; simp [Addr.add]
  | 2, hj => simp at hj; subst hj; simp [Addr.add]
theorem three_i64 (x y z : Int) : ∀ u ∈ [Value.int .i64 x, Value.int .i64 y, Value.int .i64 z], u.oneCell' = true := by
  intro u hu
  simp at hu
  rcases hu with rfl | rfl | rfl <;> rfl
theorem zero3 (w : World) (T : TypeId) (a b c : Value) : (w.alloc (.cells #[a, b, c] T)).cell? ⟨w.heap.size, 0, none⟩ = some a ∧ (w.alloc (.cells #[a, b, c] T)).cell? ⟨w.heap.size, 1, none⟩ = some b ∧ (w.alloc (.cells #[a, b, c] T)).cell? ⟨w.heap.size, 2, none⟩ = some c :=
  ⟨World.cell?_alloc_mark w #[a, b, c] T (0, 0) 0, World.cell?_alloc_mark w #[a, b, c] T (0, 0) 1, World.cell?_alloc_mark w #[a, b, c] T (0, 0) 2⟩
/-- A slice of triples of the call's own. -/
def RetT3 (ts : List (Int × Int × Int)) (w : World) (e : Ending) (w' : World) : Prop := ∃ v, e = .returned v ∧ OwnT3 w' w.heap.size v ts ∧ Below w.heap.size w w'
/-- k, k + 1, k + 2; k + 3, ..; and so on. -/
def upT (k : Int) (n : Nat) : List (Int × Int × Int) := (List.range n).map fun (j : Nat) => (k + 3 * (j : Int), k + 3 * (j : Int) + 1, k + 3 * (j : Int) + 2)
theorem upT_length (k : Int) (n : Nat) : (upT k n).length = n := by simp [upT]
theorem upT_get (k : Int) (n j : Nat) (h : j < n) : (upT k n).getD j (0, 0, 0) = (k + 3 * (j : Int), k + 3 * (j : Int) + 1, k + 3 * (j : Int) + 2) := by
  rw [List.getD_eq_getElem?_getD, List.getElem?_eq_getElem (by rw [upT_length]; exact h)]
  simp [upT]
theorem upT_start (k : Int) (l : List (Int × Int × Int)) : upT k 0 ++ l.drop 0 = l := by simp [upT]
theorem upT_step (k : Int) (l : List (Int × Int × Int)) (j : Nat) (h : j < l.length) : (upT k j ++ l.drop j).set j (k + 3 * (j : Int), k + 3 * (j : Int) + 1, k + 3 * (j : Int) + 2) = upT k (j + 1) ++ l.drop (j + 1) := by
  have e : upT k (j + 1) = upT k j ++ [(k + 3 * (j : Int), k + 3 * (j : Int) + 1, k + 3 * (j : Int) + 2)] := by simp [upT, List.range_succ]
  rw [List.set_append, if_neg (by rw [upT_length]; omega), upT_length, Nat.sub_self, List.drop_eq_getElem_cons h, e, List.append_assoc]
  rfl
theorem OwnT3.num {w : World} {B g n cap : Nat} {ts : List (Int × Int × Int)} (h : OwnT3 w B (.slice (some ⟨g, 0, none⟩) n cap) ts) : n = ts.length := by
  rcases h.2 with ⟨h', _⟩ | ⟨g', cap', cur, h', _⟩ <;> simp at h'; omega
theorem OwnT3.cells3 {w : World} {B g n cap : Nat} {ts : List (Int × Int × Int)} (h : OwnT3 w B (.slice (some ⟨g, 0, none⟩) n cap) ts) (j : Nat) (hj : j < ts.length) :
    (w.cell? ⟨g, j * 3, none⟩ = some (.int .i64 (ts.getD j (0, 0, 0)).1) ∧ w.cell? ⟨g, j * 3 + 1, none⟩ = some (.int .i64 (ts.getD j (0, 0, 0)).2.1) ∧ w.cell? ⟨g, j * 3 + 2, none⟩ = some (.int .i64 (ts.getD j (0, 0, 0)).2.2)) ∧ w.frozen? ⟨g, j * 3, none⟩ = false ∧ w.frozen? ⟨g, j * 3 + 1, none⟩ = false ∧ w.frozen? ⟨g, j * 3 + 2, none⟩ = false := by
  have hn := h.num
  subst hn
  obtain ⟨g0, g1, g2⟩ := trpV_get ts j hj
  exact ⟨⟨by rw [World.ownsRow.cellAt h (j * 3) (by omega), g0], by rw [World.ownsRow.cellAt h (j * 3 + 1) (by omega), g1], by rw [World.ownsRow.cellAt h (j * 3 + 2) (by omega), g2]⟩, World.ownsRow.frozenAt h _, World.ownsRow.frozenAt h _, World.ownsRow.frozenAt h _⟩
theorem grown_row {w w' w'' : World} {row : Option Nat} (h2 : w.grownBy w' row) (h4 : w'.grownBy w'' row) : w.grownBy w'' row :=
  ⟨h4.os.trans h2.os, h4.tape.trans h2.tape, h4.output.trans h2.output, Nat.le_trans h2.size h4.size, fun q hq hne => (h4.block q (Nat.lt_of_lt_of_le hq h2.size) hne).trans (h2.block q hq hne)⟩
theorem OwnT3.store3 {w : World} {B g n cap : Nat} {ts : List (Int × Int × Int)} (h : OwnT3 w B (.slice (some ⟨g, 0, none⟩) n cap) ts) (j : Nat) (a b c : Int) :
    OwnT3 (((w.setCell ⟨g, j * 3, none⟩ (.int .i64 a)).setCell ⟨g, j * 3 + 1, none⟩ (.int .i64 b)).setCell ⟨g, j * 3 + 2, none⟩ (.int .i64 c)) B (.slice (some ⟨g, 0, none⟩) n cap) (ts.set j (a, b, c)) ∧ w.grownBy (((w.setCell ⟨g, j * 3, none⟩ (.int .i64 a)).setCell ⟨g, j * 3 + 1, none⟩ (.int .i64 b)).setCell ⟨g, j * 3 + 2, none⟩ (.int .i64 c)) (some g) := by
  have hn := h.num
  subst hn
  obtain ⟨h1, h2⟩ := World.ownsRow.stored h (j * 3) (.int .i64 a)
  obtain ⟨h3, h4⟩ := World.ownsRow.stored h1 (j * 3 + 1) (.int .i64 b)
  obtain ⟨h5, h6⟩ := World.ownsRow.stored h3 (j * 3 + 2) (.int .i64 c)
  rw [trpV_set] at h5
  refine ⟨?_, grown_row (grown_row h2 h4) h6⟩
  unfold OwnT3
  rw [List.length_set]; exact h5
theorem trpV_zero : ∀ n : Nat, trpV (List.replicate n (0, 0, 0)) = List.replicate (n * 3) (.int .i64 0)
  | 0 => rfl
  | n + 1 => by
    rw [show (n + 1) * 3 = n * 3 + 1 + 1 + 1 by omega, List.replicate_succ, List.replicate_succ, List.replicate_succ, List.replicate_succ, trpV, trpV_zero n]
theorem made_trps (n : Nat) : (madeCells (Value.cells (.agg #[.int .i64 0, .int .i64 0, .int .i64 0])) (n * 3)).toList = trpV (List.replicate n (0, 0, 0)) := by
  rw [trpV_zero]
  unfold madeCells
  apply List.ext_getElem
  · simp
  · intro i h1 h2
    simp only [Array.toList_map, List.getElem_map, List.getElem_replicate, Array.getElem_toList, Array.getElem_range]
    show (#[Value.int .i64 0, Value.int .i64 0, Value.int .i64 0])[i % 3]! = _
    rcases (show i % 3 = 0 ∨ i % 3 = 1 ∨ i % 3 = 2 by omega) with h | h | h <;> rw [h] <;> rfl
theorem OwnT3.full {w : World} {B : Nat} {v : Value} {n : Nat} (h : w.ownsRow B 60 3 v n (madeCells (Value.cells (.agg #[.int .i64 0, .int .i64 0, .int .i64 0])) (n * 3)).toList) : OwnT3 w B v (List.replicate n (0, 0, 0)) := by
  unfold OwnT3
  rw [List.length_replicate, ← made_trps]; exact h
/-! ### With their bounds -/
def OwnTR (w : World) (B C : Nat) (v : Value) (l : List (Int × Int × Int)) : Prop := OwnT3 w B v l ∧ ∀ g, v.ownBlock = some g → g < C
theorem OwnT3.range {w : World} {B : Nat} {v : Value} {l : List (Int × Int × Int)} (h : OwnT3 w B v l) : OwnTR w B w.heap.size v l := ⟨h, fun g hg => (h.lt g hg).2⟩
theorem OwnTR.same {w w' : World} {B C : Nat} {v : Value} {l : List (Int × Int × Int)} (h : OwnTR w B C v l) (hs : Same B C w w') : OwnTR w' B C v l := by
  refine ⟨⟨h.1.1, ?_⟩, h.2⟩
  rcases h.1.2 with hn | ⟨g, cap, cur, rfl, hB, hgg, rest⟩
  · exact .inl hn
  · exact .inr ⟨g, cap, cur, rfl, hB, (hs g hB (h.2 g rfl)).trans hgg, rest⟩
theorem OwnTR.read {w : World} {B C : Nat} {v : Value} {l : List (Int × Int × Int)} (h : OwnTR w B C v l) : ReadT w v l := h.1.read
end Go.Proofs.Ytbldcdlpcidffaa
