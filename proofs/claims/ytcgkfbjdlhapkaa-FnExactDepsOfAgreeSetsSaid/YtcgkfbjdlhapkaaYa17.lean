/- Texts of this claim, merged: ImG, ImH, ImI, ImK, ImL. Conditions: as stated. -/
import Derived.Test.YtcgkfbjdlhapkaaYa3
import Derived.Test.YtcgkfbjdlhapkaaYa16
import Derived.Test.YtcgkfbjdlhapkaaYa8
import Derived.Test.YtcgkfbjdlhapkaaYa12
namespace Go.Proofs.Ytcgkfbjdlhapkaa
open Go.RowKit

end Go.Proofs.Ytcgkfbjdlhapkaa
namespace Go.Proofs.Ytcgkfbjdlhapkaa
open Go.RowKit

/-- A valid table that has this column; that has this row. -/
def colB (c : Int) (ll : List (List Int)) (q : Int) : Bool := isT c ll && decide (0 ≤ q ∧ q ≤ c - 1)
def atRowB (c : Int) (ll : List (List Int)) (i : Int) : Bool := isT c ll && decide (0 ≤ i ∧ i ≤ (ll.length : Int) - 1)
end Go.Proofs.Ytcgkfbjdlhapkaa
namespace Go.Proofs.Ytcgkfbjdlhapkaa
open Go.RowKit

theorem modeOk_or {m : Int} (h : modeOk m = true) : m = 0 ∨ m = 1 := by simpa [modeOk] using h
theorem atRowB_iff {c i : Int} {ll : List (List Int)} : atRowB c ll i = true ↔ isT c ll = true ∧ 0 ≤ i ∧ i ≤ (ll.length : Int) - 1 := by simp [atRowB]
end Go.Proofs.Ytcgkfbjdlhapkaa
namespace Go.Proofs.Ytcgkfbjdlhapkaa
open Go.RowKit

/-- The family of a list's elements. -/
def memF (l : List Int) : Nat → Bool := fun j => decide ((j : Int) ∈ l)
theorem memF_nil : memF [] = noF := by funext j; simp [memF, noF]
theorem memF_snoc (l : List Int) (X : Nat) : memF (l ++ [(X : Int)]) = fun j => if j = X then true else memF l j := by
  funext j
  unfold memF
  by_cases h : j = X
  · subst h; simp
  · have h' : ¬ (j : Int) = (X : Int) := by omega
    simp [h, h']
/-- Every element is an integer that a slice of int may hold. -/
def I64s (l : List Int) : Prop := ∀ x ∈ l, -9223372036854775808 ≤ x ∧ x ≤ 9223372036854775807
def famOf (l : List Int) : Nat → Bool := if setsOk l = true then memF l else noF
theorem valB_nat {x : Int} (h : valB x = true) : ∃ X : Nat, x = (X : Int) ∧ X < 32 := by
  have : 0 ≤ x ∧ x ≤ 31 := by simpa [valB] using h
  exact ⟨x.toNat, by omega, by omega⟩

set_option maxHeartbeats 1600000 in
theorem famOf_any (v : Value) (l : List Int) (w : World) (hr : ReadI w v l) (hl : l.length ≤ 1048576) (hbd : I64s l) :
    Calls Try.prog 129 #[v] w fun e w' => e = .returned (.tuple #[.agg (famC (famOf l)), .bool (setsOk l)]) ∧ Below w.heap.size w w' := by
  obtain ⟨a, cap, rfl, ha⟩ := hr
  have HA := Lib.hid ha
  have HBD := Lib.hid hbd
  clear ha hbd
  have HB1 := Lib.hid ((Below.refl w.heap.size w).alloc (Nat.le_refl _) (.cells (famC noF) 103))
  have HB2 := Lib.hid (HB1.out.alloc HB1.out.size (.cells (famC noF) 103))
  by_cases h100 : l.length ≤ 100
  · have g1 : ¬ (100 : Int) < (l.length : Int) := by omega
    have HH := Lib.hid h100
    have HA1 := Lib.hid (FamAt.new w noF)
    have HA2 : Hid (FamAt _ (w.heap.size + 1) noF) := Lib.hid (by have := FamAt.new (w.alloc (.cells (famC noF) 103)) noF; simpa using this)
    have HA3 := Lib.hid (HA1.out.kept ((Below.refl (w.alloc (.cells (famC noF) 103)).heap.size _).alloc (Nat.le_refl _) (.cells (famC noF) 103)) (by simp))
    clear h100
    go_enter Try.func129, Try.ntmps129
    go_wp2_with (refine wpList_alloc_fam rfl rfl ?_)
    go_loopw [13] (fun iv wr => ∃ (k : Nat), k ≤ l.length ∧ iv = .int .i64 (k : Int) ∧ Hid ((l.take k).all valB = true) ∧ FamAt wr (w.heap.size + 1) (memF (l.take k)) ∧ FamAt wr w.heap.size noF ∧ Below w.heap.size w wr) (fun iv _ => l.length - (intOf iv).toNat)
    case atStart => exact ⟨0, by omega, rfl, Lib.hid rfl, by rw [List.take_zero, memF_nil]; exact HA2.out, HA3.out, HB2.out⟩
    case round =>
      obtain ⟨k, hk, rfl, hall, hf1, hf0, hb⟩ := hrel
      clear HA1 HA2 HA3
      have HF1 := Lib.hid hf1
      have HF0 := Lib.hid hf0
      have HB := Lib.hid hb
      clear hf1 hf0 hb
      by_cases hlt : k < l.length
      · have z0 : (0 : Int) ≤ (k : Int) := by omega
        have z1 : (k : Int) < (l.length : Int) := by omega
        obtain ⟨x, rfl, hx⟩ := HA.out k hlt
        have hy := (HB.out.cell (World.block_lt_of_cell? w _ hx)).trans hx
        have hmem : l[k] ∈ l := List.getElem_mem hlt
        have hbx := HBD.out _ hmem
        have HV := Lib.hid (isValid_any l[k] hbx.1 hbx.2 wr)
        have HOK := Lib.hid (fun h => all_snoc (p := valB) hlt hall.out h)
        have HNO := Lib.hid (fun h => all_not (p := valB) hlt h)
        have HT := Lib.hid (List.take_succ_eq_append_getElem hlt)
        obtain ⟨y, hyy⟩ : ∃ y, y = l[k] := ⟨_, rfl⟩
        rw [← hyy] at hy HV HOK HNO HT
        clear hx hmem hbx hyy
        cases hv : valB y with
        | true =>
          rw [hv] at HV
          have HX := Lib.hid (HOK.out hv)
          obtain ⟨Y, rfl, hY⟩ := valB_nat hv
          have y0 : (0 : Int) ≤ (Y : Int) := by omega
          have y1 : (Y : Int) < 32 := by omega
          have hcy := HF1.out.cell Y hY
          have hfy := HF1.out.frozen Y
          clear hv HOK HNO
          go_wp2_with fail
          refine HV.out.mono ?_
          rintro e w' ⟨rfl, rfl⟩
          go_wp2_with fail
          go_roundw
          case rel => exact ⟨k + 1, by omega, by go_num, HX, by rw [HT.out, memF_snoc]; exact HF1.out.set Y true, HF0.out.other _ _ (by show w.heap.size ≠ w.heap.size + 1; omega), HB.out.setCell (by show w.heap.size ≤ w.heap.size + 1; omega) _⟩
          case measure => simp [intOf]; omega
        | false =>
          rw [hv] at HV
          have HX := Lib.hid (HNO.out hv)
          clear hv HOK HNO
          go_wp2_with fail
          refine HV.out.mono ?_
          rintro e w' ⟨rfl, rfl⟩
          go_wp2_with (first | refine wpList_build_fam rfl rfl ?_ | refine wpList_store_fam rfl rfl rfl rfl HF0.out ?_)
          have hld := FamAt.load (HF0.out.row noF)
          refine bodyPost_ret (v := .tuple #[.agg (famC noF), .bool false]) ?_ rfl ⟨?_, below_setRow HB.out (Nat.le_refl _) _⟩
          · rw [results_cell_tmp rfl]; simp [asAddr, Result.andThen, hld]
          · unfold famOf setsOk; rw [HX.out]; rfl
      · obtain rfl : k = l.length := by omega
        rw [List.take_length] at HF1 hall
        go_wp2_with (first | refine wpList_load_fam rfl rfl rfl HF1.out ?_ | refine wpList_store_fam rfl rfl rfl rfl HF0.out ?_)
        have hld := FamAt.load (HF0.out.row (memF l))
        refine bodyPost_ret (v := .tuple #[.agg (famC (memF l)), .bool true]) ?_ rfl ⟨?_, below_setRow HB.out (Nat.le_refl _) _⟩
        · rw [results_cell_tmp rfl]; simp [asAddr, Result.andThen, hld]
        · have := hall.out
          have hs : setsOk l = true := by unfold setsOk; rw [this, decide_eq_true HH.out]; rfl
          unfold famOf; rw [hs]; rfl
  · have g1 : (100 : Int) < (l.length : Int) := by omega
    have HE : Hid (setsOk l = false) := Lib.hid (by unfold setsOk; rw [decide_eq_false h100]; simp)
    go_enter Try.func129, Try.ntmps129
    go_wp2_with (first | refine wpList_alloc_fam rfl rfl ?_ | refine wpList_build_fam rfl rfl ?_ | refine wpList_store_fam rfl rfl rfl rfl (FamAt.new w noF) ?_)
    have hld := FamAt.load ((FamAt.new w noF).row noF)
    refine bodyPost_ret (v := .tuple #[.agg (famC noF), .bool false]) ?_ rfl ⟨?_, below_setRow HB1.out (Nat.le_refl _) _⟩
    · rw [results_cell_tmp rfl]; simp [asAddr, Result.andThen, hld]
    · unfold famOf; rw [HE.out]; rfl
end Go.Proofs.Ytcgkfbjdlhapkaa
namespace Go.Proofs.Ytcgkfbjdlhapkaa
open Go.RowKit

def setF (f : Nat → Bool) (Y : Nat) (x : Bool) : Nat → Bool := fun j => if j = Y then x else f j
def kpIn (S : Int → Int → Bool) (l : List Int) (y : Int) (f : Nat → Bool) : Nat → (Nat → Bool)
  | 0 => f
  | n + 1 => if (l.getD n 0 != y && S (l.getD n 0) y) = true then setF (kpIn S l y f n) y.toNat false else kpIn S l y f n
def kpOut (S : Int → Int → Bool) (l : List Int) : Nat → (Nat → Bool)
  | 0 => memF l
  | i + 1 => kpIn S l (l.getD i 0) (kpOut S l i) l.length
def unsS (S : Int → Int → Bool) (l : List Int) : List Int := if setsOk l = true then lstF (kpOut S l l.length) else []
theorem setsOk_at {l : List Int} (h : setsOk l = true) : l.length ≤ 100 ∧ ∀ i, i < l.length → ∃ X : Nat, l.getD i 0 = (X : Int) ∧ X < 32 := by
  unfold setsOk at h
  simp only [Bool.and_eq_true, decide_eq_true_eq] at h
  refine ⟨h.2, fun i hi => ?_⟩
  have := List.all_eq_true.mp h.1 (l.getD i 0) (by rw [← get_getD l i hi]; exact List.getElem_mem hi)
  exact valB_nat this

/-- One set contains the other; is a part of it. -/
def supS (a b : Int) : Bool := partZ b a
def subS (a b : Int) : Bool := partZ a b
theorem maxFun_any (a b : Int) (w : World) :
    Calls Try.prog 104 #[.int .i64 a, .int .i64 b] w fun e w' => e = .returned (.bool (supS a b)) ∧ w = w' := by
  go_enter Try.func104, Try.ntmps104
  go_wp2_with fail
  refine (partOf_any _ _ _).mono ?_
  rintro e w' ⟨rfl, rfl⟩
  go_wp2_with fail
  go_ret
  exact ⟨rfl, rfl⟩
theorem minFun_any (a b : Int) (w : World) :
    Calls Try.prog 119 #[.int .i64 a, .int .i64 b] w fun e w' => e = .returned (.bool (subS a b)) ∧ w = w' := by
  go_enter Try.func119, Try.ntmps119
  go_wp2_with fail
  refine (partOf_any _ _ _).mono ?_
  rintro e w' ⟨rfl, rfl⟩
  go_wp2_with fail
  go_ret
  exact ⟨rfl, rfl⟩
set_option maxHeartbeats 3200000 in
theorem unsurpMax_any (v : Value) (l : List Int) (w : World) (hr : ReadI w v l) (hl : l.length ≤ 1048576) (hbd : I64s l) :
    Calls Try.prog 103 #[v, .func (.func 104) #[] #[]] w (RetI (unsS supS l) w) := by
  have HO := Lib.hid (famOf_any v l w hr hl hbd)
  have HF := Lib.hid maxFun_any
  obtain ⟨a, cap, rfl, ha⟩ := hr
  have HA := Lib.hid ha
  clear ha hbd
  cases hs : setsOk l with
  | false =>
    have HE : Hid (unsS supS l = []) := Lib.hid (by unfold unsS; rw [hs]; rfl)
    have hfo : famOf l = noF := by unfold famOf; rw [hs]; rfl
    rw [hs, hfo] at HO
    clear hs hfo
    go_enter Try.func103, Try.ntmps103
    go_wp2_with fail
    refine HO.out.mono ?_
    rintro e w1 ⟨rfl, hb⟩
    have HB := Lib.hid (below_setRow (hb.alloc hb.size (.cells (famC noF) 103)) hb.size (famC noF))
    clear hb
    go_wp2_with (first | refine wpList_alloc_fam rfl rfl ?_ | refine wpList_store_fam rfl rfl rfl rfl (FamAt.new w1 noF) ?_)
    go_ret
    exact ⟨_, rfl, by rw [HE.out]; exact World.ownsRow_nil _ _ _ _, HB.out⟩
  | true =>
    have HE : Hid (unsS supS l = lstF (kpOut supS l l.length)) := Lib.hid (by unfold unsS; rw [hs]; rfl)
    have hfo : famOf l = memF l := by unfold famOf; rw [hs]; rfl
    obtain ⟨h100, hat⟩ := setsOk_at hs
    have HAT := Lib.hid hat
    rw [hs, hfo] at HO
    clear hs hfo hat
    go_enter Try.func103, Try.ntmps103
    go_wp2_with fail
    refine HO.out.mono ?_
    rintro e w1 ⟨rfl, hb⟩
    have HB := Lib.hid (below_setRow (hb.alloc hb.size (.cells (famC noF) 103)) hb.size (famC (memF l)))
    have HF0 := Lib.hid ((FamAt.new w1 noF).row (memF l))
    have HG := Lib.hid hb.size
    clear hb
    go_wp2_with (first | refine wpList_alloc_fam rfl rfl ?_ | refine wpList_store_fam rfl rfl rfl rfl (FamAt.new w1 noF) ?_)
    go_loopw [20] (fun iv wr => ∃ (i : Nat), i ≤ l.length ∧ iv = .int .i64 (i : Int) ∧ FamAt wr w1.heap.size (kpOut supS l i) ∧ Below w.heap.size w wr) (fun iv _ => l.length - (intOf iv).toNat)
    case atStart => exact ⟨0, by omega, rfl, HF0.out, HB.out⟩
    case round =>
      obtain ⟨i, hi, rfl, hf, hb⟩ := hrel
      clear HF0 HB
      have HFI := Lib.hid hf
      have HBI := Lib.hid hb
      clear hf hb
      by_cases hlt : i < l.length
      · have z0 : (0 : Int) ≤ (i : Int) := by omega
        have z1 : (i : Int) < (l.length : Int) := by omega
        obtain ⟨x, rfl, hx⟩ := HA.out i hlt
        have hy := (HBI.out.cell (World.block_lt_of_cell? w _ hx)).trans hx
        rw [get_getD l i hlt] at hy
        obtain ⟨Y, hY, hY32⟩ := HAT.out i hlt
        have HS : Hid (kpOut supS l (i + 1) = kpIn supS l (l.getD i 0) (kpOut supS l i) l.length) := Lib.hid rfl
        rw [hY] at hy HS
        have y0 : (0 : Int) ≤ (Y : Int) := by omega
        have y1 : (Y : Int) < 32 := by omega
        obtain ⟨g, hg⟩ : ∃ g, g = kpOut supS l i := ⟨_, rfl⟩
        rw [← hg] at HFI HS
        clear hg hY hx
        obtain ⟨wi, rfl⟩ : ∃ wi : World, wi = wr := ⟨_, rfl⟩
        go_wp2_with fail
        go_loopw [26] (fun jv wr => ∃ (j : Nat), j ≤ l.length ∧ jv = .int .i64 (j : Int) ∧ FamAt wr w1.heap.size (kpIn supS l (Y : Int) g j) ∧ Below w.heap.size w wr) (fun jv _ => l.length - (intOf jv).toNat)
        case atStart => exact ⟨0, by omega, rfl, HFI.out, HBI.out⟩
        case round =>
          obtain ⟨j, hj, rfl, hf, hb⟩ := hrel
          clear hy
          have HFJ := Lib.hid hf
          have HBJ := Lib.hid hb
          clear hf hb
          by_cases hlt' : j < l.length
          · have q0 : (0 : Int) ≤ (j : Int) := by omega
            have q1 : (j : Int) < (l.length : Int) := by omega
            obtain ⟨x', hx', hxj⟩ := HA.out j hlt'
            obtain rfl := Option.some.inj hx'
            have hz := (HBJ.out.cell (World.block_lt_of_cell? w _ hxj)).trans hxj
            rw [get_getD l j hlt'] at hz
            have HS2 : Hid (kpIn supS l (Y : Int) g (j + 1) = if (l.getD j 0 != (Y : Int) && supS (l.getD j 0) (Y : Int)) = true then setF (kpIn supS l (Y : Int) g j) Y false else kpIn supS l (Y : Int) g j) := Lib.hid rfl
            obtain ⟨p, hp⟩ : ∃ p, p = l.getD j 0 := ⟨_, rfl⟩
            rw [← hp] at hz HS2
            have hcy := HFJ.out.cell Y hY32
            have hfy := HFJ.out.frozen Y
            have HQ := Lib.hid (HF.out p (Y : Int))
            clear hp hxj hx'
            cases hne : (p != (Y : Int)) with
            | true =>
              cases hsu : supS p (Y : Int) with
              | true =>
                rw [hne, hsu] at HS2
                rw [hsu] at HQ
                clear hsu
                go_wp2_with fail
                refine (HQ.out _).mono ?_
                rintro e w' ⟨rfl, rfl⟩
                go_wp2_with fail
                go_roundw
                case rel => exact ⟨j + 1, by omega, by go_num, by rw [HS2.out]; exact HFJ.out.set Y false, HBJ.out.setCell (by show w.heap.size ≤ w1.heap.size; exact HG.out) _⟩
                case measure => simp [intOf]; omega
              | false =>
                rw [hne, hsu] at HS2
                rw [hsu] at HQ
                clear hsu
                go_wp2_with fail
                refine (HQ.out _).mono ?_
                rintro e w' ⟨rfl, rfl⟩
                go_wp2_with fail
                go_roundw
                case rel => exact ⟨j + 1, by omega, by go_num, by rw [HS2.out]; exact HFJ.out, HBJ.out⟩
                case measure => simp [intOf]; omega
            | false =>
              rw [hne] at HS2
              go_wp2_with fail
              go_roundw
              case rel => exact ⟨j + 1, by omega, by go_num, by rw [HS2.out]; exact HFJ.out, HBJ.out⟩
              case measure => simp [intOf]; omega
          · obtain rfl : j = l.length := by omega
            have HFJ' := Lib.hid (HS.out.symm ▸ HFJ.out : FamAt wr w1.heap.size (kpOut supS l (i + 1)))
            go_wp2_with fail
            go_roundw
            case rel => exact ⟨i + 1, by omega, by go_num, HFJ'.out, HBJ.out⟩
            case measure => simp [intOf]; omega
      · obtain rfl : i = l.length := by omega
        have HL := Lib.hid (famList_any (kpOut supS l l.length) wr)
        go_wp2_with (first | refine wpList_load_fam rfl rfl rfl HFI.out ?_)
        refine HL.out.mono ?_
        rintro e w' ⟨u, rfl, ho, hb⟩
        have hb' := HBI.out.trans (hb.mono HBI.out.size)
        go_wp2_with fail
        go_ret
        exact ⟨_, rfl, by rw [HE.out]; exact ho.base HBI.out.size, hb'⟩
theorem implMaximal_any (v : Value) (l : List Int) (w : World) (hr : ReadI w v l) (hl : l.length ≤ 1048576) (hbd : I64s l) :
    Calls Try.prog 65 #[v] w (RetI (unsS supS l) w) := by
  have HU := Lib.hid (unsurpMax_any v l w hr hl hbd)
  go_enter Try.func65, Try.ntmps65
  go_wp2_with fail
  refine HU.out.mono ?_
  rintro e w' ⟨u, rfl, ho, hb⟩
  go_wp2_with fail
  go_ret
  exact ⟨_, rfl, ho, hb⟩
set_option maxHeartbeats 3200000 in
theorem unsurpMin_any (v : Value) (l : List Int) (w : World) (hr : ReadI w v l) (hl : l.length ≤ 1048576) (hbd : I64s l) :
    Calls Try.prog 103 #[v, .func (.func 119) #[] #[]] w (RetI (unsS subS l) w) := by
  have HO := Lib.hid (famOf_any v l w hr hl hbd)
  have HF := Lib.hid minFun_any
  obtain ⟨a, cap, rfl, ha⟩ := hr
  have HA := Lib.hid ha
  clear ha hbd
  cases hs : setsOk l with
  | false =>
    have HE : Hid (unsS subS l = []) := Lib.hid (by unfold unsS; rw [hs]; rfl)
    have hfo : famOf l = noF := by unfold famOf; rw [hs]; rfl
    rw [hs, hfo] at HO
    clear hs hfo
    go_enter Try.func103, Try.ntmps103
    go_wp2_with fail
    refine HO.out.mono ?_
    rintro e w1 ⟨rfl, hb⟩
    have HB := Lib.hid (below_setRow (hb.alloc hb.size (.cells (famC noF) 103)) hb.size (famC noF))
    clear hb
    go_wp2_with (first | refine wpList_alloc_fam rfl rfl ?_ | refine wpList_store_fam rfl rfl rfl rfl (FamAt.new w1 noF) ?_)
    go_ret
    exact ⟨_, rfl, by rw [HE.out]; exact World.ownsRow_nil _ _ _ _, HB.out⟩
  | true =>
    have HE : Hid (unsS subS l = lstF (kpOut subS l l.length)) := Lib.hid (by unfold unsS; rw [hs]; rfl)
    have hfo : famOf l = memF l := by unfold famOf; rw [hs]; rfl
    obtain ⟨h100, hat⟩ := setsOk_at hs
    have HAT := Lib.hid hat
    rw [hs, hfo] at HO
    clear hs hfo hat
    go_enter Try.func103, Try.ntmps103
    go_wp2_with fail
    refine HO.out.mono ?_
    rintro e w1 ⟨rfl, hb⟩
    have HB := Lib.hid (below_setRow (hb.alloc hb.size (.cells (famC noF) 103)) hb.size (famC (memF l)))
    have HF0 := Lib.hid ((FamAt.new w1 noF).row (memF l))
    have HG := Lib.hid hb.size
    clear hb
    go_wp2_with (first | refine wpList_alloc_fam rfl rfl ?_ | refine wpList_store_fam rfl rfl rfl rfl (FamAt.new w1 noF) ?_)
    go_loopw [20] (fun iv wr => ∃ (i : Nat), i ≤ l.length ∧ iv = .int .i64 (i : Int) ∧ FamAt wr w1.heap.size (kpOut subS l i) ∧ Below w.heap.size w wr) (fun iv _ => l.length - (intOf iv).toNat)
    case atStart => exact ⟨0, by omega, rfl, HF0.out, HB.out⟩
    case round =>
      obtain ⟨i, hi, rfl, hf, hb⟩ := hrel
      clear HF0 HB
      have HFI := Lib.hid hf
      have HBI := Lib.hid hb
      clear hf hb
      by_cases hlt : i < l.length
      · have z0 : (0 : Int) ≤ (i : Int) := by omega
        have z1 : (i : Int) < (l.length : Int) := by omega
        obtain ⟨x, rfl, hx⟩ := HA.out i hlt
        have hy := (HBI.out.cell (World.block_lt_of_cell? w _ hx)).trans hx
        rw [get_getD l i hlt] at hy
        obtain ⟨Y, hY, hY32⟩ := HAT.out i hlt
        have HS : Hid (kpOut subS l (i + 1) = kpIn subS l (l.getD i 0) (kpOut subS l i) l.length) := Lib.hid rfl
        rw [hY] at hy HS
        have y0 : (0 : Int) ≤ (Y : Int) := by omega
        have y1 : (Y : Int) < 32 := by omega
        obtain ⟨g, hg⟩ : ∃ g, g = kpOut subS l i := ⟨_, rfl⟩
        rw [← hg] at HFI HS
        clear hg hY hx
        obtain ⟨wi, rfl⟩ : ∃ wi : World, wi = wr := ⟨_, rfl⟩
        go_wp2_with fail
        go_loopw [26] (fun jv wr => ∃ (j : Nat), j ≤ l.length ∧ jv = .int .i64 (j : Int) ∧ FamAt wr w1.heap.size (kpIn subS l (Y : Int) g j) ∧ Below w.heap.size w wr) (fun jv _ => l.length - (intOf jv).toNat)
        case atStart => exact ⟨0, by omega, rfl, HFI.out, HBI.out⟩
        case round =>
          obtain ⟨j, hj, rfl, hf, hb⟩ := hrel
          clear hy
          have HFJ := Lib.hid hf
          have HBJ := Lib.hid hb
          clear hf hb
          by_cases hlt' : j < l.length
          · have q0 : (0 : Int) ≤ (j : Int) := by omega
            have q1 : (j : Int) < (l.length : Int) := by omega
            obtain ⟨x', hx', hxj⟩ := HA.out j hlt'
            obtain rfl := Option.some.inj hx'
            have hz := (HBJ.out.cell (World.block_lt_of_cell? w _ hxj)).trans hxj
            rw [get_getD l j hlt'] at hz
            have HS2 : Hid (kpIn subS l (Y : Int) g (j + 1) = if (l.getD j 0 != (Y : Int) && subS (l.getD j 0) (Y : Int)) = true then setF (kpIn subS l (Y : Int) g j) Y false else kpIn subS l (Y : Int) g j) := Lib.hid rfl
            obtain ⟨p, hp⟩ : ∃ p, p = l.getD j 0 := ⟨_, rfl⟩
            rw [← hp] at hz HS2
            have hcy := HFJ.out.cell Y hY32
            have hfy := HFJ.out.frozen Y
            have HQ := Lib.hid (HF.out p (Y : Int))
            clear hp hxj hx'
            cases hne : (p != (Y : Int)) with
            | true =>
              cases hsu : subS p (Y : Int) with
              | true =>
                rw [hne, hsu] at HS2
                rw [hsu] at HQ
                clear hsu
                go_wp2_with fail
                refine (HQ.out _).mono ?_
                rintro e w' ⟨rfl, rfl⟩
                go_wp2_with fail
                go_roundw
                case rel => exact ⟨j + 1, by omega, by go_num, by rw [HS2.out]; exact HFJ.out.set Y false, HBJ.out.setCell (by show w.heap.size ≤ w1.heap.size; exact HG.out) _⟩
                case measure => simp [intOf]; omega
              | false =>
                rw [hne, hsu] at HS2
                rw [hsu] at HQ
                clear hsu
                go_wp2_with fail
                refine (HQ.out _).mono ?_
                rintro e w' ⟨rfl, rfl⟩
                go_wp2_with fail
                go_roundw
                case rel => exact ⟨j + 1, by omega, by go_num, by rw [HS2.out]; exact HFJ.out, HBJ.out⟩
                case measure => simp [intOf]; omega
            | false =>
              rw [hne] at HS2
              go_wp2_with fail
              go_roundw
              case rel => exact ⟨j + 1, by omega, by go_num, by rw [HS2.out]; exact HFJ.out, HBJ.out⟩
              case measure => simp [intOf]; omega
          · obtain rfl : j = l.length := by omega
            have HFJ' := Lib.hid (HS.out.symm ▸ HFJ.out : FamAt wr w1.heap.size (kpOut subS l (i + 1)))
            go_wp2_with fail
            go_roundw
            case rel => exact ⟨i + 1, by omega, by go_num, HFJ'.out, HBJ.out⟩
            case measure => simp [intOf]; omega
      · obtain rfl : i = l.length := by omega
        have HL := Lib.hid (famList_any (kpOut subS l l.length) wr)
        go_wp2_with (first | refine wpList_load_fam rfl rfl rfl HFI.out ?_)
        refine HL.out.mono ?_
        rintro e w' ⟨u, rfl, ho, hb⟩
        have hb' := HBI.out.trans (hb.mono HBI.out.size)
        go_wp2_with fail
        go_ret
        exact ⟨_, rfl, by rw [HE.out]; exact ho.base HBI.out.size, hb'⟩
theorem implMinimal_any (v : Value) (l : List Int) (w : World) (hr : ReadI w v l) (hl : l.length ≤ 1048576) (hbd : I64s l) :
    Calls Try.prog 84 #[v] w (RetI (unsS subS l) w) := by
  have HU := Lib.hid (unsurpMin_any v l w hr hl hbd)
  go_enter Try.func84, Try.ntmps84
  go_wp2_with fail
  refine HU.out.mono ?_
  rintro e w' ⟨u, rfl, ho, hb⟩
  go_wp2_with fail
  go_ret
  exact ⟨_, rfl, ho, hb⟩
end Go.Proofs.Ytcgkfbjdlhapkaa
