/- Texts of this claim, merged: ImT, ImJ, Fam, ImG, ImH, ImI, ImK. Conditions: as stated. -/
import Derived.Test.YtnbjcelfdppkcacGreatWd13
import Derived.Test.YtnbjcelfdppkcacGreatWd11
import Derived.Test.YtnbjcelfdppkcacGreatWd4
import Derived.Laws.CopyOwn
import Derived.Laws.ResultCell
import Derived.Test.YtnbjcelfdppkcacGreatWd8
namespace Go.Proofs.YtnbjcelfdppkcacGreat
open Go.RowKit

end Go.Proofs.YtnbjcelfdppkcacGreat
namespace Go.Proofs.YtnbjcelfdppkcacGreat
open Go.RowKit

/-- The marks of a family. -/
def famC (f : Nat → Bool) : Array Value := ((List.range 32).map (fun i => Value.bool (f i))).toArray
theorem famC_size (f : Nat → Bool) : (famC f).size = 32 := by simp [famC]
theorem famC_get (f : Nat → Bool) (i : Nat) (h : i < 32) : (famC f)[i]? = some (.bool (f i)) := by
  simp [famC, h]
theorem famC_none : famC (fun _ => false) = Array.replicate 32 (.bool false) := by rfl
theorem famC_set (f : Nat → Bool) (i : Nat) (b : Bool) : (famC f).setIfInBounds i (.bool b) = famC (fun j => if j = i then b else f j) := by
  apply Array.ext_getElem?
  intro k
  rw [Array.getElem?_setIfInBounds]
  by_cases hk : k < 32
  · rw [famC_get _ k hk, famC_get _ k hk, famC_size]
    by_cases h : i = k
    · subst h; simp [hk]
    · have h' : ¬ k = i := fun e => h e.symm
      simp [h, h']
  · have e1 : (famC f)[k]? = none := by rw [Array.getElem?_eq_none]; rw [famC_size]; omega
    have e2 : (famC fun j => if j = i then b else f j)[k]? = none := by rw [Array.getElem?_eq_none]; rw [famC_size]; omega
    rw [e1, e2, famC_size]
    by_cases h : i = k
    · subst h; simp [hk]
    · simp [h]
theorem famC_congr {f g : Nat → Bool} (h : ∀ i, i < 32 → f i = g i) : famC f = famC g := by
  unfold famC
  congr 1
  apply List.map_congr_left
  intro i hi
  rw [h i (List.mem_range.mp hi)]
theorem famC_one (f : Nat → Bool) : (famC f).all (·.oneCell') = true := by
  simp [famC, Value.oneCell']
/-- The sets of a family in ascending order, those below n. -/
def lstTo (f : Nat → Bool) : Nat → List Int
  | 0 => []
  | n + 1 => if f n = true then lstTo f n ++ [(n : Int)] else lstTo f n
def lstF (f : Nat → Bool) : List Int := lstTo f 32
theorem lstTo_len (f : Nat → Bool) (n : Nat) : (lstTo f n).length ≤ n := by
  induction n with
  | zero => simp [lstTo]
  | succ n ih =>
    unfold lstTo
    split
    · simp; omega
    · omega
theorem famSize (f : Nat → Bool) : (Tryz.prog.info? 113).map (·.size) = some (famC f).size := by rw [famC_size]; kernel_rfl

theorem boolOne (w : World) : (sizeOf 4).run Tryz.prog w = .ok 1 w := by
  have h : (Tryz.prog.info? 4).map (·.size) = some 1 := by kernel_rfl
  cases hq : Tryz.prog.info? 4 with
  | none => simp [hq] at h
  | some i => simp only [hq, Option.map_some, Option.some.injEq] at h; simp [sizeOf, typeInfo, hq, h]
theorem run_index_fam (cs : Array Value) (f : Nat → Bool) (hcs : cs = famC f) (k : Nat) (hk : k < 32) (w : World) :
    (Instr.index 113 (.agg cs) (.int .i64 (k : Int))).run Tryz.prog w = .ok (.bool (f k)) w := by
  have h0 : 0 ≤ (k : Int) ∧ (k : Int) < 32 := by omega
  subst hcs
  have hp := run_part_plain (P := Tryz.prog) (e := 4) (by kernel_rfl) (w := w) (famC_get f k hk)
  simp [Instr.index, run_underlying Tryz.underlying113, asIntOf, Result.andThen, hp]
  intro h
  omega
set_option maxHeartbeats 1600000 in
theorem famList_any (f : Nat → Bool) (w : World) :
    Calls Tryz.prog 115 #[.agg (famC f)] w (RetI (lstF f) w) := by
  obtain ⟨i0, hi, hz0, hz1, hz2⟩ := info_parts info3j
  have HI : Hid (_ ∧ _ ∧ _ ∧ _) := Lib.hid ⟨hi, hz0, hz1, hz2⟩
  clear hi hz0 hz1 hz2
  obtain ⟨cs, hcs⟩ : ∃ cs, cs = famC f := ⟨_, rfl⟩
  rw [← hcs]
  have HC := Lib.hid hcs
  have HSZ := Lib.hid (famSize f)
  rw [← hcs] at HSZ
  clear hcs
  have HB1 := Lib.hid ((Below.refl w.heap.size w).alloc (Nat.le_refl _) (.cells cs 113))
  go_enter Tryz.func115, Tryz.ntmps115
  go_wp2_with (refine wpList_load_row rfl 113 _ rfl w.heap.size rfl 113 cs (0, 0) (.array 32 4) (heap_alloc_new w _) Tryz.underlying113 rfl HSZ.out ?_)
  go_loopw [3, 7] (fun ov iv wr => ∃ (k : Nat), k ≤ 32 ∧ iv = .int .i64 (k : Int) ∧ OwnI wr (w.heap.size + 1) ov (lstTo f k) ∧ Below (w.alloc (.cells cs 113)).heap.size (w.alloc (.cells cs 113)) wr) (fun _ iv _ => 32 - (intOf iv).toNat)
  case atStart => exact ⟨0, by omega, rfl, World.ownsRow_nil _ _ _ _, Below.refl _ _⟩
  case round =>
    obtain ⟨k, hk, rfl, ho, hb⟩ := hrel
    by_cases hlt : k < 32
    · have z0 : (0 : Int) ≤ (k : Int) := by omega
      have z1 : (k : Int) < 32 := by omega
      have HLL := Lib.hid (lstTo_len f k)
      have hidx := run_index_fam cs f HC.out k hlt
      have HS : Hid (lstTo f (k + 1) = if f k = true then lstTo f k ++ [(k : Int)] else lstTo f k) := Lib.hid rfl
      obtain ⟨l, hl⟩ : ∃ l, l = lstTo f k := ⟨_, rfl⟩
      rw [← hl] at ho HLL HS
      have HB := Lib.hid hb
      clear hl hb
      cases hf : f k with
      | true =>
        rw [hf] at hidx HS
        clear hf
        go_wp2_with (at_builtin; refine wpList_append_own _ rfl _ _ 31 rfl (w.heap.size + 1) 3 i0 (.int .i64 0) 1 8 Tryz.underlying31 HI.out.1 HI.out.2.1 HI.out.2.2.1 HI.out.2.2.2 rfl (by decide) _ _ _ rfl (World.ownsRow.alloc ho _) ⟨wr.heap.size, 0, none⟩ 1 1 [.int .i64 (k : Int)] rfl rfl (cell_one_new _ _ _) (one_i64 _) (by unfold maxLen; have := HLL.out; omega) (by have := HLL.out; omega) (by have := HB.out.size; simp at this; simp; omega) ?_; intro v' w1 hown' hgrow _; have ho' := OwnI.snoc hown'; have hb' := (HB.out.alloc HB.out.size (.cells #[.int .i64 (k : Int)] 3)).grown hgrow (by have := HB.out.size; simp at this; simp; omega) (fun k hk => by have := (OwnI.lt ho k hk).1; simp; omega); clear hown' hgrow)
        go_roundw
        case rel => exact ⟨k + 1, by omega, by go_num, by rw [HS.out]; exact ho', hb'⟩
        case measure => simp [intOf]; omega
      | false =>
        rw [hf] at hidx HS
        clear hf
        go_wp2_with fail
        go_roundw
        case rel => exact ⟨k + 1, by omega, by go_num, by rw [HS.out]; exact ho, HB.out⟩
        case measure => simp [intOf]; omega
    · obtain rfl : k = 32 := by omega
      have hbw := HB1.out.trans (hb.mono HB1.out.size)
      go_wp2_with fail
      go_ret
      exact ⟨_, rfl, ho.base (by omega), hbw⟩
end Go.Proofs.YtnbjcelfdppkcacGreat
namespace Go.Proofs.YtnbjcelfdppkcacGreat
open Go.RowKit

def noF : Nat → Bool := fun _ => false
/-- The family lies whole at block b. -/
def FamAt (w : World) (b : Nat) (f : Nat → Bool) : Prop := w.heap[b]? = some (.cells (famC f) 113 (0, 0))
theorem FamAt.new (w : World) (f : Nat → Bool) : FamAt (w.alloc (.cells (famC f) 113)) w.heap.size f := heap_alloc_new w _
theorem FamAt.kept {w w' : World} {b B : Nat} {f : Nat → Bool} (h : FamAt w b f) (hb : Below B w w') (hB : b < B) : FamAt w' b f := (hb.block b hB).trans h
theorem FamAt.lt {w : World} {b : Nat} {f : Nat → Bool} (h : FamAt w b f) : b < w.heap.size := by
  by_cases hlt : b < w.heap.size
  · exact hlt
  · have hn : w.heap[b]? = none := by simp; omega
    unfold FamAt at h; rw [hn] at h; cases h
theorem FamAt.cell {w : World} {b : Nat} {f : Nat → Bool} (h : FamAt w b f) (i : Nat) (hi : i < 32) : w.cell? ⟨b, i, none⟩ = some (.bool (f i)) := by
  rw [cell_of_row w b i _ _ _ h]; exact famC_get f i hi
theorem FamAt.frozen {w : World} {b : Nat} {f : Nat → Bool} (h : FamAt w b f) (i : Nat) : w.frozen? ⟨b, i, none⟩ = false := frozen_of_row w b i _ _ h
theorem FamAt.set {w : World} {b : Nat} {f : Nat → Bool} (h : FamAt w b f) (i : Nat) (x : Bool) : FamAt (w.setCell ⟨b, i, none⟩ (.bool x)) b (fun j => if j = i then x else f j) := by
  unfold FamAt
  rw [heap_setCell_same w b i _ _ _ h, famC_set]
theorem FamAt.other {w : World} {b : Nat} {f : Nat → Bool} (h : FamAt w b f) (a : Addr) (v : Value) (hb : b ≠ a.block) : FamAt (w.setCell a v) b f := (heap_setCell_other w a b v hb).trans h
theorem FamAt.row {w : World} {b : Nat} {f : Nat → Bool} (h : FamAt w b f) (g : Nat → Bool) : FamAt (w.setRow b (famC g)) b g := setRow_heap w b _ _ _ _ h
theorem wpList_alloc_fam {ops : Array Oper} {rest : List Oper} {o : Oper} {a : Act} {w : World} {Q : Exit → Act → World → Prop} (hg : o.guard = none) (ho : o.op = .alloc 113)
    (h : wpList Tryz.prog ops Q rest (a.put o.dst (.pointer (some ⟨w.heap.size, 0, none⟩))) (w.alloc (.cells (famC noF) 113))) : wpList Tryz.prog ops Q (o :: rest) a w :=
  wpList_plain hg fun _ hK => by
    have hr : (Instr.alloc 113 true (.tuple #[])).run Tryz.prog w = .ok (.pointer (some ⟨w.heap.size, 0, none⟩)) (w.alloc (.cells (famC noF) 113)) := by
      simp [Instr.alloc, newVar, newRow, Value.cells]
      rfl
    unfold Oper.wp execOp
    simp only [ho, Sem.run_bind, hr, Result.andThen_ok]
    exact hK _ _ h
theorem wpList_build_fam {ops : Array Oper} {rest : List Oper} {o : Oper} {a : Act} {w : World} {Q : Exit → Act → World → Prop} (hg : o.guard = none) (ho : o.op = .build 113 #[])
    (h : wpList Tryz.prog ops Q rest (a.put o.dst (.agg (famC noF))) w) : wpList Tryz.prog ops Q (o :: rest) a w := by
  have hb : Tryz.prog.built 113 [] = some (famC noF) := by kernel_rfl
  refine wpList_build hg 113 #[] ho (by simp [hb]) ?_
  simpa [hb] using h
theorem wpList_load_fam {ops : Array Oper} {rest : List Oper} {o : Oper} {a : Act} {w : World} {Q : Exit → Act → World → Prop} {x : Operand} {b : Nat} {f : Nat → Bool} (hg : o.guard = none) (ho : o.op = .load 113 x)
    (hx : a.eval x = .pointer (some ⟨b, 0, none⟩)) (hf : FamAt w b f)
    (h : wpList Tryz.prog ops Q rest (a.put o.dst (.agg (famC f))) w) : wpList Tryz.prog ops Q (o :: rest) a w :=
  wpList_load_row hg 113 x ho b hx 113 (famC f) (0, 0) (.array 32 4) hf Tryz.underlying113 rfl (famSize f) h
theorem wpList_store_fam {ops : Array Oper} {rest : List Oper} {o : Oper} {a : Act} {w : World} {Q : Exit → Act → World → Prop} {x y : Operand} {b : Nat} {f g : Nat → Bool} (hg : o.guard = none) (ho : o.op = .store 113 x y)
    (hx : a.eval x = .pointer (some ⟨b, 0, none⟩)) (hy : a.eval y = .agg (famC g)) (hf : FamAt w b f)
    (h : wpList Tryz.prog ops Q rest (a.put o.dst undef) (w.setRow b (famC g))) : wpList Tryz.prog ops Q (o :: rest) a w :=
  wpList_store_row hg 113 x y ho b (famC g) hx hy 113 (famC f) hf (famSize g) (by rw [famC_size, famC_size]) (famC_one g) h
theorem FamAt.load {w : World} {b : Nat} {f : Nat → Bool} (h : FamAt w b f) : (loadVar 113 ⟨b, 0, none⟩).run Tryz.prog w = .ok (.agg (famC f)) w :=
  run_loadVar_row w b 113 113 (famC f) (0, 0) (.array 32 4) h Tryz.underlying113 rfl (famSize f)
end Go.Proofs.YtnbjcelfdppkcacGreat
namespace Go.Proofs.YtnbjcelfdppkcacGreat
open Go.RowKit

end Go.Proofs.YtnbjcelfdppkcacGreat
namespace Go.Proofs.YtnbjcelfdppkcacGreat
open Go.RowKit

/-- A valid table that has this column; that has this row. -/
def colB (c : Int) (ll : List (List Int)) (q : Int) : Bool := isT c ll && decide (0 ≤ q ∧ q ≤ c - 1)
def atRowB (c : Int) (ll : List (List Int)) (i : Int) : Bool := isT c ll && decide (0 ≤ i ∧ i ≤ (ll.length : Int) - 1)
end Go.Proofs.YtnbjcelfdppkcacGreat
namespace Go.Proofs.YtnbjcelfdppkcacGreat
open Go.RowKit

theorem modeOk_or {m : Int} (h : modeOk m = true) : m = 0 ∨ m = 1 := by simpa [modeOk] using h
theorem atRowB_iff {c i : Int} {ll : List (List Int)} : atRowB c ll i = true ↔ isT c ll = true ∧ 0 ≤ i ∧ i ≤ (ll.length : Int) - 1 := by simp [atRowB]
end Go.Proofs.YtnbjcelfdppkcacGreat
namespace Go.Proofs.YtnbjcelfdppkcacGreat
open Go.RowKit

/-- The family of a list's elements. -/
def memF (l : List Int) : Nat → Bool := fun j => decide ((j : Int) ∈ l)
theorem memF_nil : memF [] = noF := by funext j; simp [memF, noF]
theorem memF_snoc (l : List Int) (X : Nat) : memF (l ++ [(X : Int)]) = fun j => if j = X then true else memF l j := by
  funext j
  unfold memF
  by_cases h : j = X
  · subst h; simp
  · have h' : ¬ (j : Int) = (X : Int) := by omega
    simp [h, h']
/-- Every element is an integer that a slice of int may hold. -/
def I64s (l : List Int) : Prop := ∀ x ∈ l, -9223372036854775808 ≤ x ∧ x ≤ 9223372036854775807
def famOf (l : List Int) : Nat → Bool := if setsOk l = true then memF l else noF
theorem valB_nat {x : Int} (h : valB x = true) : ∃ X : Nat, x = (X : Int) ∧ X < 32 := by
  have : 0 ≤ x ∧ x ≤ 31 := by simpa [valB] using h
  exact ⟨x.toNat, by omega, by omega⟩

set_option maxHeartbeats 1600000 in
theorem famOf_any (v : Value) (l : List Int) (w : World) (hr : ReadI w v l) (hl : l.length ≤ 1048576) (hbd : I64s l) :
    Calls Tryz.prog 114 #[v] w fun e w' => e = .returned (.tuple #[.agg (famC (famOf l)), .bool (setsOk l)]) ∧ Below w.heap.size w w' := by
  obtain ⟨a, cap, rfl, ha⟩ := hr
  have HA := Lib.hid ha
  have HBD := Lib.hid hbd
  clear ha hbd
  have HB1 := Lib.hid ((Below.refl w.heap.size w).alloc (Nat.le_refl _) (.cells (famC noF) 113))
  have HB2 := Lib.hid (HB1.out.alloc HB1.out.size (.cells (famC noF) 113))
  by_cases h100 : l.length ≤ 100
  · have g1 : ¬ (100 : Int) < (l.length : Int) := by omega
    have HH := Lib.hid h100
    have HA1 := Lib.hid (FamAt.new w noF)
    have HA2 : Hid (FamAt _ (w.heap.size + 1) noF) := Lib.hid (by have := FamAt.new (w.alloc (.cells (famC noF) 113)) noF; simpa using this)
    have HA3 := Lib.hid (HA1.out.kept ((Below.refl (w.alloc (.cells (famC noF) 113)).heap.size _).alloc (Nat.le_refl _) (.cells (famC noF) 113)) (by simp))
    clear h100
    go_enter Tryz.func114, Tryz.ntmps114
    go_wp2_with (refine wpList_alloc_fam rfl rfl ?_)
    go_loopw [13] (fun iv wr => ∃ (k : Nat), k ≤ l.length ∧ iv = .int .i64 (k : Int) ∧ Hid ((l.take k).all valB = true) ∧ FamAt wr (w.heap.size + 1) (memF (l.take k)) ∧ FamAt wr w.heap.size noF ∧ Below w.heap.size w wr) (fun iv _ => l.length - (intOf iv).toNat)
    case atStart => exact ⟨0, by omega, rfl, Lib.hid rfl, by rw [List.take_zero, memF_nil]; exact HA2.out, HA3.out, HB2.out⟩
    case round =>
      obtain ⟨k, hk, rfl, hall, hf1, hf0, hb⟩ := hrel
      clear HA1 HA2 HA3
      have HF1 := Lib.hid hf1
      have HF0 := Lib.hid hf0
      have HB := Lib.hid hb
      clear hf1 hf0 hb
      by_cases hlt : k < l.length
      · have z0 : (0 : Int) ≤ (k : Int) := by omega
        have z1 : (k : Int) < (l.length : Int) := by omega
        obtain ⟨x, rfl, hx⟩ := HA.out k hlt
        have hy := (HB.out.cell (World.block_lt_of_cell? w _ hx)).trans hx
        have hmem : l[k] ∈ l := List.getElem_mem hlt
        have hbx := HBD.out _ hmem
        have HV := Lib.hid (isValid_any l[k] hbx.1 hbx.2 wr)
        have HOK := Lib.hid (fun h => all_snoc (p := valB) hlt hall.out h)
        have HNO := Lib.hid (fun h => all_not (p := valB) hlt h)
        have HT := Lib.hid (List.take_succ_eq_append_getElem hlt)
        obtain ⟨y, hyy⟩ : ∃ y, y = l[k] := ⟨_, rfl⟩
        rw [← hyy] at hy HV HOK HNO HT
        clear hx hmem hbx hyy
        cases hv : valB y with
        | true =>
          rw [hv] at HV
          have HX := Lib.hid (HOK.out hv)
          obtain ⟨Y, rfl, hY⟩ := valB_nat hv
          have y0 : (0 : Int) ≤ (Y : Int) := by omega
          have y1 : (Y : Int) < 32 := by omega
          have hcy := HF1.out.cell Y hY
          have hfy := HF1.out.frozen Y
          clear hv HOK HNO
          go_wp2_with fail
          refine HV.out.mono ?_
          rintro e w' ⟨rfl, rfl⟩
          go_wp2_with fail
          go_roundw
          case rel => exact ⟨k + 1, by omega, by go_num, HX, by rw [HT.out, memF_snoc]; exact HF1.out.set Y true, HF0.out.other _ _ (by show w.heap.size ≠ w.heap.size + 1; omega), HB.out.setCell (by show w.heap.size ≤ w.heap.size + 1; omega) _⟩
          case measure => simp [intOf]; omega
        | false =>
          rw [hv] at HV
          have HX := Lib.hid (HNO.out hv)
          clear hv HOK HNO
          go_wp2_with fail
          refine HV.out.mono ?_
          rintro e w' ⟨rfl, rfl⟩
          go_wp2_with (first | refine wpList_build_fam rfl rfl ?_ | refine wpList_store_fam rfl rfl rfl rfl HF0.out ?_)
          have hld := FamAt.load (HF0.out.row noF)
          refine bodyPost_ret (v := .tuple #[.agg (famC noF), .bool false]) ?_ rfl ⟨?_, below_setRow HB.out (Nat.le_refl _) _⟩
          · rw [results_cell_tmp rfl]; simp [asAddr, Result.andThen, hld]
          · unfold famOf setsOk; rw [HX.out]; rfl
      · obtain rfl : k = l.length := by omega
        rw [List.take_length] at HF1 hall
        go_wp2_with (first | refine wpList_load_fam rfl rfl rfl HF1.out ?_ | refine wpList_store_fam rfl rfl rfl rfl HF0.out ?_)
        have hld := FamAt.load (HF0.out.row (memF l))
        refine bodyPost_ret (v := .tuple #[.agg (famC (memF l)), .bool true]) ?_ rfl ⟨?_, below_setRow HB.out (Nat.le_refl _) _⟩
        · rw [results_cell_tmp rfl]; simp [asAddr, Result.andThen, hld]
        · have := hall.out
          have hs : setsOk l = true := by unfold setsOk; rw [this, decide_eq_true HH.out]; rfl
          unfold famOf; rw [hs]; rfl
  · have g1 : (100 : Int) < (l.length : Int) := by omega
    have HE : Hid (setsOk l = false) := Lib.hid (by unfold setsOk; rw [decide_eq_false h100]; simp)
    go_enter Tryz.func114, Tryz.ntmps114
    go_wp2_with (first | refine wpList_alloc_fam rfl rfl ?_ | refine wpList_build_fam rfl rfl ?_ | refine wpList_store_fam rfl rfl rfl rfl (FamAt.new w noF) ?_)
    have hld := FamAt.load ((FamAt.new w noF).row noF)
    refine bodyPost_ret (v := .tuple #[.agg (famC noF), .bool false]) ?_ rfl ⟨?_, below_setRow HB1.out (Nat.le_refl _) _⟩
    · rw [results_cell_tmp rfl]; simp [asAddr, Result.andThen, hld]
    · unfold famOf; rw [HE.out]; rfl
end Go.Proofs.YtnbjcelfdppkcacGreat
