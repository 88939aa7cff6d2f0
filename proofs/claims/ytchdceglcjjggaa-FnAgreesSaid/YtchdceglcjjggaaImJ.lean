/- A family of sets: 32 marks in a block; the program's list, by contract. Conditions: as stated. -/
import Derived.Test.YtchdceglcjjggaaAgrA
import Derived.Test.YtchdceglcjjggaaImT
namespace Go.Proofs.Ytchdceglcjjggaa
open Go.RowKit

/-- The marks of a family. -/
def famC (f : Nat → Bool) : Array Value := ((List.range 32).map (fun i => Value.bool (f i))).toArray
theorem famC_size (f : Nat → Bool) : (famC f).size = 32 := by simp [famC]
theorem famC_get (f : Nat → Bool) (i : Nat) (h : i < 32) : (famC f)[i]? = some (.bool (f i)) := by
  simp [famC, h]
theorem famC_none : famC (fun _ => false) = Array.replicate 32 (.bool false) := by rfl
theorem famC_set (f : Nat → Bool) (i : Nat) (b : Bool) : (famC f).setIfInBounds i (.bool b) = famC (fun j => if j = i then b else f j) := by
  apply Array.ext_getElem?
  intro k
  rw [Array.getElem?_setIfInBounds]
  by_cases hk : k < 32
  · rw [famC_get _ k hk, famC_get _ k hk, famC_size]
    by_cases h : i = k
    · subst h; simp [hk]
    · have h' : ¬ k = i := fun e => h e.symm
      simp [h, h']
  · have e1 : (famC f)[k]? = none := by rw [Array.getElem?_eq_none]; rw [famC_size]; omega
    have e2 : (famC fun j => if j = i then b else f j)[k]? = none := by rw [Array.getElem?_eq_none]; rw [famC_size]; omega
    rw [e1, e2, famC_size]
    by_cases h : i = k
    · subst h; simp [hk]
    · simp [h]
theorem famC_congr {f g : Nat → Bool} (h : ∀ i, i < 32 → f i = g i) : famC f = famC g := by
  unfold famC
  congr 1
  apply List.map_congr_left
  intro i hi
  rw [h i (List.mem_range.mp hi)]
theorem famC_one (f : Nat → Bool) : (famC f).all (·.oneCell') = true := by
  simp [famC, Value.oneCell']
/-- The sets of a family in ascending order, those below n. -/
def lstTo (f : Nat → Bool) : Nat → List Int
  | 0 => []
  | n + 1 => if f n = true then lstTo f n ++ [(n : Int)] else lstTo f n
def lstF (f : Nat → Bool) : List Int := lstTo f 32
theorem lstTo_len (f : Nat → Bool) (n : Nat) : (lstTo f n).length ≤ n := by
  induction n with
  | zero => simp [lstTo]
  | succ n ih =>
    unfold lstTo
    split
    · simp; omega
    · omega
theorem famSize (f : Nat → Bool) : (Try.prog.info? 57).map (·.size) = some (famC f).size := by rw [famC_size]; kernel_rfl

theorem boolOne (w : World) : (sizeOf 4).run Try.prog w = .ok 1 w := by
  have h : (Try.prog.info? 4).map (·.size) = some 1 := by kernel_rfl
  cases hq : Try.prog.info? 4 with
  | none => simp [hq] at h
  | some i => simp only [hq, Option.map_some, Option.some.injEq] at h; simp [sizeOf, typeInfo, hq, h]
theorem run_index_fam (cs : Array Value) (f : Nat → Bool) (hcs : cs = famC f) (k : Nat) (hk : k < 32) (w : World) :
    (Instr.index 57 (.agg cs) (.int .i64 (k : Int))).run Try.prog w = .ok (.bool (f k)) w := by
  have h0 : 0 ≤ (k : Int) ∧ (k : Int) < 32 := by omega
  subst hcs
  have hp := run_part_plain (P := Try.prog) (e := 4) (by kernel_rfl) (w := w) (famC_get f k hk)
  simp [Instr.index, run_underlying Try.underlying57, asIntOf, Result.andThen, hp]
  intro h
  omega
set_option maxHeartbeats 1600000 in
theorem famList_any (f : Nat → Bool) (w : World) :
    Calls Try.prog 44 #[.agg (famC f)] w (RetI (lstF f) w) := by
  obtain ⟨i0, hi, hz0, hz1, hz2⟩ := info_parts info3j
  have HI : Hid (_ ∧ _ ∧ _ ∧ _) := Lib.hid ⟨hi, hz0, hz1, hz2⟩
  clear hi hz0 hz1 hz2
  obtain ⟨cs, hcs⟩ : ∃ cs, cs = famC f := ⟨_, rfl⟩
  rw [← hcs]
  have HC := Lib.hid hcs
  have HSZ := Lib.hid (famSize f)
  rw [← hcs] at HSZ
  clear hcs
  have HB1 := Lib.hid ((Below.refl w.heap.size w).alloc (Nat.le_refl _) (.cells cs 57))
  go_enter Try.func44, Try.ntmps44
  go_wp2_with (refine wpList_load_row rfl 57 _ rfl w.heap.size rfl 57 cs (0, 0) (.array 32 4) (heap_alloc_new w _) Try.underlying57 rfl HSZ.out ?_)
  go_loopw [3, 7] (fun ov iv wr => ∃ (k : Nat), k ≤ 32 ∧ iv = .int .i64 (k : Int) ∧ OwnI wr (w.heap.size + 1) ov (lstTo f k) ∧ Below (w.alloc (.cells cs 57)).heap.size (w.alloc (.cells cs 57)) wr) (fun _ iv _ => 32 - (intOf iv).toNat)
  case atStart => exact ⟨0, by omega, rfl, World.ownsRow_nil _ _ _ _, Below.refl _ _⟩
  case round =>
    obtain ⟨k, hk, rfl, ho, hb⟩ := hrel
    by_cases hlt : k < 32
    · have z0 : (0 : Int) ≤ (k : Int) := by omega
      have z1 : (k : Int) < 32 := by omega
      have HLL := Lib.hid (lstTo_len f k)
      have hidx := run_index_fam cs f HC.out k hlt
      have HS : Hid (lstTo f (k + 1) = if f k = true then lstTo f k ++ [(k : Int)] else lstTo f k) := Lib.hid rfl
      obtain ⟨l, hl⟩ : ∃ l, l = lstTo f k := ⟨_, rfl⟩
      rw [← hl] at ho HLL HS
      have HB := Lib.hid hb
      clear hl hb
      cases hf : f k with
      | true =>
        rw [hf] at hidx HS
        clear hf
        go_wp2_with (at_builtin; refine wpList_append_own _ rfl _ _ 29 rfl (w.heap.size + 1) 3 i0 (.int .i64 0) 1 8 Try.underlying29 HI.out.1 HI.out.2.1 HI.out.2.2.1 HI.out.2.2.2 rfl (by decide) _ _ _ rfl (World.ownsRow.alloc ho _) ⟨wr.heap.size, 0, none⟩ 1 1 [.int .i64 (k : Int)] rfl rfl (cell_one_new _ _ _) (one_i64 _) (by unfold maxLen; have := HLL.out; omega) (by have := HLL.out; omega) (by have := HB.out.size; simp at this; simp; omega) ?_; intro v' w1 hown' hgrow _; have ho' := OwnI.snoc hown'; have hb' := (HB.out.alloc HB.out.size (.cells #[.int .i64 (k : Int)] 3)).grown hgrow (by have := HB.out.size; simp at this; simp; omega) (fun k hk => by have := (OwnI.lt ho k hk).1; simp; omega); clear hown' hgrow)
        go_roundw
        case rel => exact ⟨k + 1, by omega, by go_num, by rw [HS.out]; exact ho', hb'⟩
        case measure => simp [intOf]; omega
      | false =>
        rw [hf] at hidx HS
        clear hf
        go_wp2_with fail
        go_roundw
        case rel => exact ⟨k + 1, by omega, by go_num, by rw [HS.out]; exact ho, HB.out⟩
        case measure => simp [intOf]; omega
    · obtain rfl : k = 32 := by omega
      have hbw := HB1.out.trans (hb.mono HB1.out.size)
      go_wp2_with fail
      go_ret
      exact ⟨_, rfl, ho.base (by omega), hbw⟩
end Go.Proofs.Ytchdceglcjjggaa
