/- A family of sets in memory: a new one, a whole one read and written, one mark set. Conditions: as stated. -/
import Derived.Test.YtchdceglcjjggaaImJ
import Derived.Laws.CopyOwn
import Derived.Laws.ResultCell
namespace Go.Proofs.Ytchdceglcjjggaa
open Go.RowKit

def noF : Nat → Bool := fun _ => false
/-- The family lies whole at block b. -/
def FamAt (w : World) (b : Nat) (f : Nat → Bool) : Prop := w.heap[b]? = some (.cells (famC f) 57 (0, 0))
theorem FamAt.new (w : World) (f : Nat → Bool) : FamAt (w.alloc (.cells (famC f) 57)) w.heap.size f := heap_alloc_new w _
theorem FamAt.kept {w w' : World} {b B : Nat} {f : Nat → Bool} (h : FamAt w b f) (hb : Below B w w') (hB : b < B) : FamAt w' b f := (hb.block b hB).trans h
theorem FamAt.lt {w : World} {b : Nat} {f : Nat → Bool} (h : FamAt w b f) : b < w.heap.size := by
  by_cases hlt : b < w.heap.size
  · exact hlt
  · have hn : w.heap[b]? = none := by simp; omega
    unfold FamAt at h; rw [hn] at h; cases h
theorem FamAt.cell {w : World} {b : Nat} {f : Nat → Bool} (h : FamAt w b f) (i : Nat) (hi : i < 32) : w.cell? ⟨b, i, none⟩ = some (.bool (f i)) := by
  rw [cell_of_row w b i _ _ _ h]; exact famC_get f i hi
theorem FamAt.frozen {w : World} {b : Nat} {f : Nat → Bool} (h : FamAt w b f) (i : Nat) : w.frozen? ⟨b, i, none⟩ = false := frozen_of_row w b i _ _ h
theorem FamAt.set {w : World} {b : Nat} {f : Nat → Bool} (h : FamAt w b f) (i : Nat) (x : Bool) : FamAt (w.setCell ⟨b, i, none⟩ (.bool x)) b (fun j => if j = i then x else f j) := by
  unfold FamAt
  rw [heap_setCell_same w b i _ _ _ h, famC_set]
theorem FamAt.other {w : World} {b : Nat} {f : Nat → Bool} (h : FamAt w b f) (a : Addr) (v : Value) (hb : b ≠ a.block) : FamAt (w.setCell a v) b f := (heap_setCell_other w a b v hb).trans h
theorem FamAt.row {w : World} {b : Nat} {f : Nat → Bool} (h : FamAt w b f) (g : Nat → Bool) : FamAt (w.setRow b (famC g)) b g := setRow_heap w b _ _ _ _ h
theorem wpList_alloc_fam {ops : Array Oper} {rest : List Oper} {o : Oper} {a : Act} {w : World} {Q : Exit → Act → World → Prop} (hg : o.guard = none) (ho : o.op = .alloc 57)
    (h : wpList Try.prog ops Q rest (a.put o.dst (.pointer (some ⟨w.heap.size, 0, none⟩))) (w.alloc (.cells (famC noF) 57))) : wpList Try.prog ops Q (o :: rest) a w :=
  wpList_plain hg fun _ hK => by
    have hr : (Instr.alloc 57 true (.tuple #[])).run Try.prog w = .ok (.pointer (some ⟨w.heap.size, 0, none⟩)) (w.alloc (.cells (famC noF) 57)) := by
      simp [Instr.alloc, newVar, newRow, Value.cells]
      rfl
    unfold Oper.wp execOp
    simp only [ho, Sem.run_bind, hr, Result.andThen_ok]
    exact hK _ _ h
theorem wpList_build_fam {ops : Array Oper} {rest : List Oper} {o : Oper} {a : Act} {w : World} {Q : Exit → Act → World → Prop} (hg : o.guard = none) (ho : o.op = .build 57 #[])
    (h : wpList Try.prog ops Q rest (a.put o.dst (.agg (famC noF))) w) : wpList Try.prog ops Q (o :: rest) a w := by
  have hb : Try.prog.built 57 [] = some (famC noF) := by kernel_rfl
  refine wpList_build hg 57 #[] ho (by simp [hb]) ?_
  simpa [hb] using h
theorem wpList_load_fam {ops : Array Oper} {rest : List Oper} {o : Oper} {a : Act} {w : World} {Q : Exit → Act → World → Prop} {x : Operand} {b : Nat} {f : Nat → Bool} (hg : o.guard = none) (ho : o.op = .load 57 x)
    (hx : a.eval x = .pointer (some ⟨b, 0, none⟩)) (hf : FamAt w b f)
    (h : wpList Try.prog ops Q rest (a.put o.dst (.agg (famC f))) w) : wpList Try.prog ops Q (o :: rest) a w :=
  wpList_load_row hg 57 x ho b hx 57 (famC f) (0, 0) (.array 32 4) hf Try.underlying57 rfl (famSize f) h
theorem wpList_store_fam {ops : Array Oper} {rest : List Oper} {o : Oper} {a : Act} {w : World} {Q : Exit → Act → World → Prop} {x y : Operand} {b : Nat} {f g : Nat → Bool} (hg : o.guard = none) (ho : o.op = .store 57 x y)
    (hx : a.eval x = .pointer (some ⟨b, 0, none⟩)) (hy : a.eval y = .agg (famC g)) (hf : FamAt w b f)
    (h : wpList Try.prog ops Q rest (a.put o.dst undef) (w.setRow b (famC g))) : wpList Try.prog ops Q (o :: rest) a w :=
  wpList_store_row hg 57 x y ho b (famC g) hx hy 57 (famC f) hf (famSize g) (by rw [famC_size, famC_size]) (famC_one g) h
theorem FamAt.load {w : World} {b : Nat} {f : Nat → Bool} (h : FamAt w b f) : (loadVar 57 ⟨b, 0, none⟩).run Try.prog w = .ok (.agg (famC f)) w :=
  run_loadVar_row w b 57 57 (famC f) (0, 0) (.array 32 4) h Try.underlying57 rfl (famSize f)
end Go.Proofs.Ytchdceglcjjggaa
