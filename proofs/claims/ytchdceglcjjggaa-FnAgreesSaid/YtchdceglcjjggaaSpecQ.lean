/- The model's l2Cut and l3Value, by contract. Conditions: as stated. -/
import Derived.Test.YtchdceglcjjggaaCut
namespace Go.Proofs.Ytchdceglcjjggaa
open Go.RowKit

theorem infoZ : (Try.prog.info? 9).map (fun i => (i.zero, i.size, i.bytes)) = some (some (.string ⟨#[]⟩), 1, 16) := by kernel_rfl
def strV (l : List UInt8) : Value := .string ⟨l.toArray⟩
/-- The slice value v owns these strings. -/
def OwnZ (w : World) (B : Nat) (v : Value) (ls : List (List UInt8)) : Prop := w.ownsRow B 9 1 v ls.length (ls.map strV)
theorem OwnZ.snoc {w : World} {B : Nat} {v : Value} {ls : List (List UInt8)} {p : List UInt8} (h : w.ownsRow B 9 1 v (ls.length + 1) (ls.map strV ++ [strV p])) : OwnZ w B v (ls ++ [p]) := by
  unfold OwnZ; rw [List.length_append, List.map_append]; exact h
theorem one_str (p : List UInt8) : ∀ u ∈ [strV p], u.oneCell' = true := by intro u hu; simp at hu; subst hu; rfl
/-- The slice value v can be read: it holds these strings. -/
def ReadZ (w : World) (v : Value) (ls : List (List UInt8)) : Prop :=
  ∃ a cap, v = .slice a ls.length cap ∧ ∀ i, i < ls.length → ∃ x, a = some x ∧ w.cell? (x.add i) = some (strV (ls.getD i []))
theorem OwnZ.read {w : World} {B : Nat} {v : Value} {ls : List (List UInt8)} (h : OwnZ w B v ls) : ReadZ w v ls := by
  rcases ownsRow_shape h with ⟨rfl, hn⟩ | ⟨g, cap, rfl, -, -, -⟩
  · exact ⟨none, 0, by rw [hn], fun i hi => by omega⟩
  · refine ⟨_, cap, rfl, fun i hi => ⟨_, rfl, ?_⟩⟩
    rw [add_zero_off, World.ownsRow.cellAt h i (by omega)]
    simp [hi]
theorem ReadZ.kept {w w' : World} {v : Value} {ls : List (List UInt8)} (h : ReadZ w v ls) (hb : Below w.heap.size w w') : ReadZ w' v ls := by
  obtain ⟨a, cap, hv, hc⟩ := h
  refine ⟨a, cap, hv, fun i hi => ?_⟩
  obtain ⟨x, hx, hcell⟩ := hc i hi
  exact ⟨x, hx, (hb.cell (World.block_lt_of_cell? w _ hcell)).trans hcell⟩
def RetZ (ls : List (List UInt8)) (w : World) (e : Ending) (w' : World) : Prop := ∃ v, e = .returned v ∧ OwnZ w' w.heap.size v ls ∧ Below w.heap.size w w'
theorem sub_one (s : ByteArray) (i : Nat) (h : i < s.size) : (s.extract i (i + 1)).data.toList = [s[i]'h] := by
  rw [ByteArray.data_extract, Array.toList_extract, List.extract_eq_take_drop, show i + 1 - i = 1 by omega]
  have hl : i < s.data.toList.length := by simpa using h
  rw [List.drop_eq_getElem_cons hl]
  rfl
theorem strV_eq (s : ByteArray) : Value.string s = strV s.data.toList := rfl
end Go.Proofs.Ytchdceglcjjggaa
