/- The program's familyOf, by contract. Conditions: as stated. -/
import Derived.Test.YtchdceglcjjggaaFam
import Derived.Test.YtchdceglcjjggaaAgrE
namespace Go.Proofs.Ytchdceglcjjggaa
open Go.RowKit

/-- The family of a list's elements. -/
def memF (l : List Int) : Nat → Bool := fun j => decide ((j : Int) ∈ l)
theorem memF_nil : memF [] = noF := by funext j; simp [memF, noF]
theorem memF_snoc (l : List Int) (X : Nat) : memF (l ++ [(X : Int)]) = fun j => if j = X then true else memF l j := by
  funext j
  unfold memF
  by_cases h : j = X
  · subst h; simp
  · have h' : ¬ (j : Int) = (X : Int) := by omega
    simp [h, h']
/-- Every element is an integer that a slice of int may hold. -/
def I64s (l : List Int) : Prop := ∀ x ∈ l, -9223372036854775808 ≤ x ∧ x ≤ 9223372036854775807
def famOf (l : List Int) : Nat → Bool := if setsOk l = true then memF l else noF
theorem valB_nat {x : Int} (h : valB x = true) : ∃ X : Nat, x = (X : Int) ∧ X < 32 := by
  have : 0 ≤ x ∧ x ≤ 31 := by simpa [valB] using h
  exact ⟨x.toNat, by omega, by omega⟩

set_option maxHeartbeats 1600000 in
theorem famOf_any (v : Value) (l : List Int) (w : World) (hr : ReadI w v l) (hl : l.length ≤ 1048576) (hbd : I64s l) :
    Calls Try.prog 78 #[v] w fun e w' => e = .returned (.tuple #[.agg (famC (famOf l)), .bool (setsOk l)]) ∧ Below w.heap.size w w' := by
  obtain ⟨a, cap, rfl, ha⟩ := hr
  have HA := Lib.hid ha
  have HBD := Lib.hid hbd
  clear ha hbd
  have HB1 := Lib.hid ((Below.refl w.heap.size w).alloc (Nat.le_refl _) (.cells (famC noF) 57))
  have HB2 := Lib.hid (HB1.out.alloc HB1.out.size (.cells (famC noF) 57))
  by_cases h100 : l.length ≤ 100
  · have g1 : ¬ (100 : Int) < (l.length : Int) := by omega
    have HH := Lib.hid h100
    have HA1 := Lib.hid (FamAt.new w noF)
    have HA2 : Hid (FamAt _ (w.heap.size + 1) noF) := Lib.hid (by have := FamAt.new (w.alloc (.cells (famC noF) 57)) noF; simpa using this)
    have HA3 := Lib.hid (HA1.out.kept ((Below.refl (w.alloc (.cells (famC noF) 57)).heap.size _).alloc (Nat.le_refl _) (.cells (famC noF) 57)) (by simp))
    clear h100
    go_enter Try.func78, Try.ntmps78
    go_wp2_with (refine wpList_alloc_fam rfl rfl ?_)
    go_loopw [13] (fun iv wr => ∃ (k : Nat), k ≤ l.length ∧ iv = .int .i64 (k : Int) ∧ Hid ((l.take k).all valB = true) ∧ FamAt wr (w.heap.size + 1) (memF (l.take k)) ∧ FamAt wr w.heap.size noF ∧ Below w.heap.size w wr) (fun iv _ => l.length - (intOf iv).toNat)
    case atStart => exact ⟨0, by omega, rfl, Lib.hid rfl, by rw [List.take_zero, memF_nil]; exact HA2.out, HA3.out, HB2.out⟩
    case round =>
      obtain ⟨k, hk, rfl, hall, hf1, hf0, hb⟩ := hrel
      clear HA1 HA2 HA3
      have HF1 := Lib.hid hf1
      have HF0 := Lib.hid hf0
      have HB := Lib.hid hb
      clear hf1 hf0 hb
      by_cases hlt : k < l.length
      · have z0 : (0 : Int) ≤ (k : Int) := by omega
        have z1 : (k : Int) < (l.length : Int) := by omega
        obtain ⟨x, rfl, hx⟩ := HA.out k hlt
        have hy := (HB.out.cell (World.block_lt_of_cell? w _ hx)).trans hx
        have hmem : l[k] ∈ l := List.getElem_mem hlt
        have hbx := HBD.out _ hmem
        have HV := Lib.hid (isValid_any l[k] hbx.1 hbx.2 wr)
        have HOK := Lib.hid (fun h => all_snoc (p := valB) hlt hall.out h)
        have HNO := Lib.hid (fun h => all_not (p := valB) hlt h)
        have HT := Lib.hid (List.take_succ_eq_append_getElem hlt)
        obtain ⟨y, hyy⟩ : ∃ y, y = l[k] := ⟨_, rfl⟩
        rw [← hyy] at hy HV HOK HNO HT
        clear hx hmem hbx hyy
        cases hv : valB y with
        | true =>
          rw [hv] at HV
          have HX := Lib.hid (HOK.out hv)
          obtain ⟨Y, rfl, hY⟩ := valB_nat hv
          have y0 : (0 : Int) ≤ (Y : Int) := by omega
          have y1 : (Y : Int) < 32 := by omega
          have hcy := HF1.out.cell Y hY
          have hfy := HF1.out.frozen Y
          clear hv HOK HNO
          go_wp2_with fail
          refine HV.out.mono ?_
          rintro e w' ⟨rfl, rfl⟩
          go_wp2_with fail
          go_roundw
          case rel => exact ⟨k + 1, by omega, by go_num, HX, by rw [HT.out, memF_snoc]; exact HF1.out.set Y true, HF0.out.other _ _ (by show w.heap.size ≠ w.heap.size + 1; omega), HB.out.setCell (by show w.heap.size ≤ w.heap.size + 1; omega) _⟩
          case measure => simp [intOf]; omega
        | false =>
          rw [hv] at HV
          have HX := Lib.hid (HNO.out hv)
          clear hv HOK HNO
          go_wp2_with fail
          refine HV.out.mono ?_
          rintro e w' ⟨rfl, rfl⟩
          go_wp2_with (first | refine wpList_build_fam rfl rfl ?_ | refine wpList_store_fam rfl rfl rfl rfl HF0.out ?_)
          have hld := FamAt.load (HF0.out.row noF)
          refine bodyPost_ret (v := .tuple #[.agg (famC noF), .bool false]) ?_ rfl ⟨?_, below_setRow HB.out (Nat.le_refl _) _⟩
          · rw [results_cell_tmp rfl]; simp [asAddr, Result.andThen, hld]
          · unfold famOf setsOk; rw [HX.out]; rfl
      · obtain rfl : k = l.length := by omega
        rw [List.take_length] at HF1 hall
        go_wp2_with (first | refine wpList_load_fam rfl rfl rfl HF1.out ?_ | refine wpList_store_fam rfl rfl rfl rfl HF0.out ?_)
        have hld := FamAt.load (HF0.out.row (memF l))
        refine bodyPost_ret (v := .tuple #[.agg (famC (memF l)), .bool true]) ?_ rfl ⟨?_, below_setRow HB.out (Nat.le_refl _) _⟩
        · rw [results_cell_tmp rfl]; simp [asAddr, Result.andThen, hld]
        · have := hall.out
          have hs : setsOk l = true := by unfold setsOk; rw [this, decide_eq_true HH.out]; rfl
          unfold famOf; rw [hs]; rfl
  · have g1 : (100 : Int) < (l.length : Int) := by omega
    have HE : Hid (setsOk l = false) := Lib.hid (by unfold setsOk; rw [decide_eq_false h100]; simp)
    go_enter Try.func78, Try.ntmps78
    go_wp2_with (first | refine wpList_alloc_fam rfl rfl ?_ | refine wpList_build_fam rfl rfl ?_ | refine wpList_store_fam rfl rfl rfl rfl (FamAt.new w noF) ?_)
    have hld := FamAt.load ((FamAt.new w noF).row noF)
    refine bodyPost_ret (v := .tuple #[.agg (famC noF), .bool false]) ?_ rfl ⟨?_, below_setRow HB1.out (Nat.le_refl _) _⟩
    · rw [results_cell_tmp rfl]; simp [asAddr, Result.andThen, hld]
    · unfold famOf; rw [HE.out]; rfl
end Go.Proofs.Ytchdceglcjjggaa
