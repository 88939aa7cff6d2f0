/- Texts of this claim, merged: ImL. Conditions: as stated. -/
import Derived.Test.YtnbjcelfdppkcacGreatWd14
import Derived.Test.YtnbjcelfdppkcacGreatWd11
namespace Go.Proofs.YtnbjcelfdppkcacGreat
open Go.RowKit

def setF (f : Nat → Bool) (Y : Nat) (x : Bool) : Nat → Bool := fun j => if j = Y then x else f j
def kpIn (S : Int → Int → Bool) (l : List Int) (y : Int) (f : Nat → Bool) : Nat → (Nat → Bool)
  | 0 => f
  | n + 1 => if (l.getD n 0 != y && S (l.getD n 0) y) = true then setF (kpIn S l y f n) y.toNat false else kpIn S l y f n
def kpOut (S : Int → Int → Bool) (l : List Int) : Nat → (Nat → Bool)
  | 0 => memF l
  | i + 1 => kpIn S l (l.getD i 0) (kpOut S l i) l.length
def unsS (S : Int → Int → Bool) (l : List Int) : List Int := if setsOk l = true then lstF (kpOut S l l.length) else []
theorem setsOk_at {l : List Int} (h : setsOk l = true) : l.length ≤ 100 ∧ ∀ i, i < l.length → ∃ X : Nat, l.getD i 0 = (X : Int) ∧ X < 32 := by
  unfold setsOk at h
  simp only [Bool.and_eq_true, decide_eq_true_eq] at h
  refine ⟨h.2, fun i hi => ?_⟩
  have := List.all_eq_true.mp h.1 (l.getD i 0) (by rw [← get_getD l i hi]; exact List.getElem_mem hi)
  exact valB_nat this

/-- One set contains the other; is a part of it. -/
def supS (a b : Int) : Bool := partZ b a
def subS (a b : Int) : Bool := partZ a b
theorem minFun_any (a b : Int) (w : World) :
    Calls Tryz.prog 104 #[.int .i64 a, .int .i64 b] w fun e w' => e = .returned (.bool (subS a b)) ∧ w = w' := by
  go_enter Tryz.func104, Tryz.ntmps104
  go_wp2_with fail
  refine (partOf_any _ _ _).mono ?_
  rintro e w' ⟨rfl, rfl⟩
  go_wp2_with fail
  go_ret
  exact ⟨rfl, rfl⟩
set_option maxHeartbeats 3200000 in
theorem unsurpMin_any (v : Value) (l : List Int) (w : World) (hr : ReadI w v l) (hl : l.length ≤ 1048576) (hbd : I64s l) :
    Calls Tryz.prog 103 #[v, .func (.func 104) #[] #[]] w (RetI (unsS subS l) w) := by
  have HO := Lib.hid (famOf_any v l w hr hl hbd)
  have HF := Lib.hid minFun_any
  obtain ⟨a, cap, rfl, ha⟩ := hr
  have HA := Lib.hid ha
  clear ha hbd
  cases hs : setsOk l with
  | false =>
    have HE : Hid (unsS subS l = []) := Lib.hid (by unfold unsS; rw [hs]; rfl)
    have hfo : famOf l = noF := by unfold famOf; rw [hs]; rfl
    rw [hs, hfo] at HO
    clear hs hfo
    go_enter Tryz.func103, Tryz.ntmps103
    go_wp2_with fail
    refine HO.out.mono ?_
    rintro e w1 ⟨rfl, hb⟩
    have HB := Lib.hid (below_setRow (hb.alloc hb.size (.cells (famC noF) 113)) hb.size (famC noF))
    clear hb
    go_wp2_with (first | refine wpList_alloc_fam rfl rfl ?_ | refine wpList_store_fam rfl rfl rfl rfl (FamAt.new w1 noF) ?_)
    go_ret
    exact ⟨_, rfl, by rw [HE.out]; exact World.ownsRow_nil _ _ _ _, HB.out⟩
  | true =>
    have HE : Hid (unsS subS l = lstF (kpOut subS l l.length)) := Lib.hid (by unfold unsS; rw [hs]; rfl)
    have hfo : famOf l = memF l := by unfold famOf; rw [hs]; rfl
    obtain ⟨h100, hat⟩ := setsOk_at hs
    have HAT := Lib.hid hat
    rw [hs, hfo] at HO
    clear hs hfo hat
    go_enter Tryz.func103, Tryz.ntmps103
    go_wp2_with fail
    refine HO.out.mono ?_
    rintro e w1 ⟨rfl, hb⟩
    have HB := Lib.hid (below_setRow (hb.alloc hb.size (.cells (famC noF) 113)) hb.size (famC (memF l)))
    have HF0 := Lib.hid ((FamAt.new w1 noF).row (memF l))
    have HG := Lib.hid hb.size
    clear hb
    go_wp2_with (first | refine wpList_alloc_fam rfl rfl ?_ | refine wpList_store_fam rfl rfl rfl rfl (FamAt.new w1 noF) ?_)
    go_loopw [20] (fun iv wr => ∃ (i : Nat), i ≤ l.length ∧ iv = .int .i64 (i : Int) ∧ FamAt wr w1.heap.size (kpOut subS l i) ∧ Below w.heap.size w wr) (fun iv _ => l.length - (intOf iv).toNat)
    case atStart => exact ⟨0, by omega, rfl, HF0.out, HB.out⟩
    case round =>
      obtain ⟨i, hi, rfl, hf, hb⟩ := hrel
      clear HF0 HB
      have HFI := Lib.hid hf
      have HBI := Lib.hid hb
      clear hf hb
      by_cases hlt : i < l.length
      · have z0 : (0 : Int) ≤ (i : Int) := by omega
        have z1 : (i : Int) < (l.length : Int) := by omega
        obtain ⟨x, rfl, hx⟩ := HA.out i hlt
        have hy := (HBI.out.cell (World.block_lt_of_cell? w _ hx)).trans hx
        rw [get_getD l i hlt] at hy
        obtain ⟨Y, hY, hY32⟩ := HAT.out i hlt
        have HS : Hid (kpOut subS l (i + 1) = kpIn subS l (l.getD i 0) (kpOut subS l i) l.length) := Lib.hid rfl
        rw [hY] at hy HS
        have y0 : (0 : Int) ≤ (Y : Int) := by omega
        have y1 : (Y : Int) < 32 := by omega
        obtain ⟨g, hg⟩ : ∃ g, g = kpOut subS l i := ⟨_, rfl⟩
        rw [← hg] at HFI HS
        clear hg hY hx
        obtain ⟨wi, rfl⟩ : ∃ wi : World, wi = wr := ⟨_, rfl⟩
        go_wp2_with fail
        go_loopw [26] (fun jv wr => ∃ (j : Nat), j ≤ l.length ∧ jv = .int .i64 (j : Int) ∧ FamAt wr w1.heap.size (kpIn subS l (Y : Int) g j) ∧ Below w.heap.size w wr) (fun jv _ => l.length - (intOf jv).toNat)
        case atStart => exact ⟨0, by omega, rfl, HFI.out, HBI.out⟩
        case round =>
          obtain ⟨j, hj, rfl, hf, hb⟩ := hrel
          clear hy
          have HFJ := Lib.hid hf
          have HBJ := Lib.hid hb
          clear hf hb
          by_cases hlt' : j < l.length
          · have q0 : (0 : Int) ≤ (j : Int) := by omega
            have q1 : (j : Int) < (l.length : Int) := by omega
            obtain ⟨x', hx', hxj⟩ := HA.out j hlt'
            obtain rfl := Option.some.inj hx'
            have hz := (HBJ.out.cell (World.block_lt_of_cell? w _ hxj)).trans hxj
            rw [get_getD l j hlt'] at hz
            have HS2 : Hid (kpIn subS l (Y : Int) g (j + 1) = if (l.getD j 0 != (Y : Int) && subS (l.getD j 0) (Y : Int)) = true then setF (kpIn subS l (Y : Int) g j) Y false else kpIn subS l (Y : Int) g j) := Lib.hid rfl
            obtain ⟨p, hp⟩ : ∃ p, p = l.getD j 0 := ⟨_, rfl⟩
            rw [← hp] at hz HS2
            have hcy := HFJ.out.cell Y hY32
            have hfy := HFJ.out.frozen Y
            have HQ := Lib.hid (HF.out p (Y : Int))
            clear hp hxj hx'
            cases hne : (p != (Y : Int)) with
            | true =>
              cases hsu : subS p (Y : Int) with
              | true =>
                rw [hne, hsu] at HS2
                rw [hsu] at HQ
                clear hsu
                go_wp2_with fail
                refine (HQ.out _).mono ?_
                rintro e w' ⟨rfl, rfl⟩
                go_wp2_with fail
                go_roundw
                case rel => exact ⟨j + 1, by omega, by go_num, by rw [HS2.out]; exact HFJ.out.set Y false, HBJ.out.setCell (by show w.heap.size ≤ w1.heap.size; exact HG.out) _⟩
                case measure => simp [intOf]; omega
              | false =>
                rw [hne, hsu] at HS2
                rw [hsu] at HQ
                clear hsu
                go_wp2_with fail
                refine (HQ.out _).mono ?_
                rintro e w' ⟨rfl, rfl⟩
                go_wp2_with fail
                go_roundw
                case rel => exact ⟨j + 1, by omega, by go_num, by rw [HS2.out]; exact HFJ.out, HBJ.out⟩
                case measure => simp [intOf]; omega
            | false =>
              rw [hne] at HS2
              go_wp2_with fail
              go_roundw
              case rel => exact ⟨j + 1, by omega, by go_num, by rw [HS2.out]; exact HFJ.out, HBJ.out⟩
              case measure => simp [intOf]; omega
          · obtain rfl : j = l.length := by omega
            have HFJ' := Lib.hid (HS.out.symm ▸ HFJ.out : FamAt wr w1.heap.size (kpOut subS l (i + 1)))
            go_wp2_with fail
            go_roundw
            case rel => exact ⟨i + 1, by omega, by go_num, HFJ'.out, HBJ.out⟩
            case measure => simp [intOf]; omega
      · obtain rfl : i = l.length := by omega
        have HL := Lib.hid (famList_any (kpOut subS l l.length) wr)
        go_wp2_with (first | refine wpList_load_fam rfl rfl rfl HFI.out ?_)
        refine HL.out.mono ?_
        rintro e w' ⟨u, rfl, ho, hb⟩
        have hb' := HBI.out.trans (hb.mono HBI.out.size)
        go_wp2_with fail
        go_ret
        exact ⟨_, rfl, by rw [HE.out]; exact ho.base HBI.out.size, hb'⟩
theorem implMinimal_any (v : Value) (l : List Int) (w : World) (hr : ReadI w v l) (hl : l.length ≤ 1048576) (hbd : I64s l) :
    Calls Tryz.prog 81 #[v] w (RetI (unsS subS l) w) := by
  have HU := Lib.hid (unsurpMin_any v l w hr hl hbd)
  go_enter Tryz.func81, Tryz.ntmps81
  go_wp2_with fail
  refine HU.out.mono ?_
  rintro e w' ⟨u, rfl, ho, hb⟩
  go_wp2_with fail
  go_ret
  exact ⟨_, rfl, ho, hb⟩
end Go.Proofs.YtnbjcelfdppkcacGreat
