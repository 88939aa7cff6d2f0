/- Texts of this claim, merged: Bld, Fmt2, ImF. Conditions: as stated. -/
import Derived.Test.YtpkcffbfgocndaaGreatDoorShelf
import Derived.Test.YtpkcffbfgocndaaGreatDoorMa
import Derived.Lib.AppendIntMem
import Derived.WalkKit
import Derived.Test.YtpkcffbfgocndaaGreatDoorMf
import Derived.Test.YtpkcffbfgocndaaGreatDoorMi
import Derived.Test.YtpkcffbfgocndaaGreatDoorMh
namespace Go.Proofs.YtpkcffbfgocndaaGreatDoor
open Go.RowKit

/-- The builder at block b holds these bytes, and has been written before. -/
def Bld (w : World) (B b : Nat) (l : List UInt8) : Prop := Lib.BuilderAt 44 5 B b (.pointer (some ⟨b, 0, none⟩)) (Lib.byteCells l) w
def Bld0 (w : World) (B b : Nat) (l : List UInt8) : Prop := Lib.IsBuilder 44 5 B b (Lib.byteCells l) w
theorem infoU8 : (Tryz.prog.info? 5).map (fun i => (i.zero, i.size, i.bytes)) = some (some (.int .u8 0), 1, 1) := by kernel_rfl
theorem bldSize : (Tryz.prog.info? 44).map (·.size) = some 2 := by kernel_rfl
set_option maxRecDepth 100000 in
theorem check_used (b : Nat) (w : World) (h0 : w.cell? ⟨b, 0, none⟩ = some (.pointer (some ⟨b, 0, none⟩))) :
    Calls Tryz.prog 54 #[.pointer (some ⟨b, 0, none⟩)] w fun e w' => e = .returned (.tuple #[]) ∧ w' = w := by
  obtain ⟨j, hj, -⟩ := Option.map_eq_some_iff.1 bldSize
  go_enter Tryz.func54, Tryz.ntmps54
  go_wp2
  rw [Lib.run_neq_ptr_same w _ Tryz.underlying42 hj]
  go_wp2
  go_end0
  exact ⟨rfl, rfl⟩
theorem bldLies : liesAt Tryz.prog Tryz.prog.depth 44 (2 / Tryz.prog.cellsOf 44) 0 44 1 = true := by kernel_rfl
set_option maxRecDepth 100000 in
theorem check_fresh (b : Nat) (w : World) (h0 : w.cell? ⟨b, 0, none⟩ = some (.pointer none)) (hsh : w.shape? b = some (44, 2)) (hfz : w.frozen? ⟨b, 0, none⟩ = false) :
    Calls Tryz.prog 54 #[.pointer (some ⟨b, 0, none⟩)] w fun e w' => e = .returned (.tuple #[]) ∧ w' = w.setCell ⟨b, 0, none⟩ (.pointer (some ⟨b, 0, none⟩)) := by
  obtain ⟨j, hj, hjs⟩ := Option.map_eq_some_iff.1 bldSize
  go_enter Tryz.func54, Tryz.ntmps54
  go_wp2
  rw [Lib.run_to_unsafe w ⟨b, 0, none⟩ Tryz.underlying42 Tryz.underlying89 hj (by rw [hjs]; decide) hsh (Nat.zero_lt_succ 1)]
  simp only [Result.andThen]
  rw [Oper.upon_value]
  go_wp2
  rw [run_callFunc_extern Tryz.func71 (by kernel_rfl) (by kernel_rfl) (by kernel_rfl) (e := Extern.AbiNoEscape.same) (by kernel_rfl)]
  rw [Lib.run_noEscape]
  simp only [Result.andThen]
  rw [Oper.upon_value]
  go_wp2
  rw [Lib.run_from_unsafe w ⟨b, 0, none⟩ Tryz.underlying89 Tryz.underlying42 hj hsh bldLies]
  simp only [Result.andThen]
  rw [Oper.upon_value]
  go_wp2
  go_end0
  exact ⟨rfl, rfl⟩
theorem check_any (B b : Nat) (l : List UInt8) (w : World) (h : Bld0 w B b l) :
    Calls Tryz.prog 54 #[.pointer (some ⟨b, 0, none⟩)] w fun e w' => e = .returned (.tuple #[]) ∧ Bld w' B b l ∧ Below B w w' := by
  rcases h with h | h
  · refine (check_fresh b w h.cell0 h.shape h.frozen0).mono ?_
    rintro e w' ⟨rfl, rfl⟩
    exact ⟨rfl, h.used _, (Below.refl B w).setCell (p := ⟨b, 0, none⟩) h.1 _⟩
  · refine (check_used b w h.cell0).mono ?_
    rintro e w' ⟨rfl, rfl⟩
    exact ⟨rfl, h, Below.refl B _⟩
set_option maxHeartbeats 1600000 in
set_option maxRecDepth 100000 in
theorem writeS_any (B b : Nat) (l : List UInt8) (s : ByteArray) (w : World) (h : Bld0 w B b l) (hlen : l.length + s.size ≤ 1073741824) (hBw : B ≤ w.heap.size) :
    Calls Tryz.prog 22 #[.pointer (some ⟨b, 0, none⟩), .string s] w fun e w' => e = .returned (.tuple #[.int .i64 s.size, .nilIface]) ∧ Bld w' B b (l ++ s.data.toList) ∧ Below B w w' := by
  obtain ⟨i0, hi, hz0, hz1, hz2⟩ := info_parts infoU8
  have HI : Hid (_ ∧ _ ∧ _ ∧ _) := Lib.hid ⟨hi, hz0, hz1, hz2⟩
  clear hi hz0 hz1 hz2
  have HCK := Lib.hid (check_any B b l w h)
  clear h
  have HLN := Lib.hid (Lib.byteCells_length l)
  obtain ⟨bs, hbs⟩ : ∃ bs, Lib.byteCells l = bs := ⟨_, rfl⟩
  rw [hbs] at HLN
  go_enter Tryz.func22, Tryz.ntmps22
  go_wp2_with fail
  refine HCK.out.mono ?_
  rintro e w1 ⟨rfl, h1, hb1⟩
  obtain ⟨hB, v, hbk, hown, hne⟩ := h1
  rw [hbs] at hown
  have c0 : w1.cell? ⟨b, 0, none⟩ = some (.pointer (some ⟨b, 0, none⟩)) := by rw [Lib.cell_of_heap hbk]; rfl
  have c1 : w1.cell? ⟨b, 1, none⟩ = some v := by rw [Lib.cell_of_heap hbk]; rfl
  have s1 := hb1.size
  go_wp2_with (at_builtin; refine Lib.wpList_append_own_string _ rfl _ _ 22 9 rfl B 5 i0 Tryz.underlying22 Tryz.underlying9 HI.out.1 HI.out.2.1 HI.out.2.2.1 HI.out.2.2.2 _ _ _ rfl hown s rfl (by rw [HLN.out]; unfold maxLen; omega) (by rw [HLN.out]; omega) (by omega) ?_; intro v' w2 hown' hgrow _; have hlt : b < w1.heap.size := (Array.getElem?_eq_some_iff.1 hbk).1; have hb2 := (hgrow.block b hlt (fun e => hne e.symm)).trans hbk; have d0 : w2.cell? ⟨b, 0, none⟩ = some (.pointer (some ⟨b, 0, none⟩)) := (by rw [Lib.cell_of_heap hb2]; rfl); have d1 : w2.cell? ⟨b, 1, none⟩ = some v := (by rw [Lib.cell_of_heap hb2]; rfl); have f1 : w2.frozen? ⟨b, 1, none⟩ = false := Lib.frozen_of_heap hb2 1; obtain ⟨ao, n', cap, rfl⟩ : ∃ ao n' cap, v' = .slice ao n' cap := (by rcases hown'.2 with ⟨hv, _⟩ | ⟨g, cap, cur, hv, _⟩ <;> exact ⟨_, _, _, hv⟩))
  go_ret2
  refine ⟨rfl, ?_, (hb1.grown hgrow (by omega) (fun k hk => (hown.lt k hk).1)).setCell (p := ⟨b, 1, none⟩) hB _⟩
  have e1 : Lib.byteCells (l ++ s.data.toList) = bs ++ Lib.strCells s := by rw [← hbs, Lib.strCells_eq]; unfold Lib.byteCells; rw [List.map_append]
  unfold Bld
  rw [e1]
  exact Lib.BuilderAt.put (T := 44) (e := 5) hB hb2 (bs' := bs ++ Lib.strCells s) (by simpa [Lib.strCells_length] using hown') (by decide)
theorem string_any (B b : Nat) (l : List UInt8) (w : World) (h : Bld0 w B b l) (hBw : B ≤ w.heap.size) :
    Calls Tryz.prog 26 #[.pointer (some ⟨b, 0, none⟩)] w fun e w' => e = .returned (.string ⟨l.toArray⟩) ∧ Below B w w' := Tryz.Builder_String_any B b l w h hBw
end Go.Proofs.YtpkcffbfgocndaaGreatDoor
namespace Go.Proofs.YtpkcffbfgocndaaGreatDoor
open Go.RowKit

/-- The table of powers of ten stands, whatever is done beyond block B. -/
def Tab (B : Nat) (w : World) : Prop := Lib.TabBelow Tryz.prog B w "internal/strconv.uint64pow10" .u64 Lib.pow10Tab

theorem implFI (n : Int) (h0 : -9223372036854775808 ≤ n) (h1 : n ≤ 9223372036854775807) (B : Nat) (w : World) (hT : Tab B w) :
    Calls Tryz.prog 55 #[.int .i64 n] w fun e w' => e = .returned (.string (itoaB n)) ∧ Below w.heap.size w w' := by
  have HT := Lib.hid hT
  clear hT
  go_enter Tryz.func55, Tryz.ntmps55
  go_wp2_with fail
  refine (Tryz.strconv_Itoa n h0 h1 _ HT.out.here).mono ?_
  rintro e w' ⟨rfl, k, os, rfl⟩
  go_wp2_with fail
  go_ret
  exact ⟨rfl, Lib.below_grow _ _ (Nat.le_refl _) k os⟩
end Go.Proofs.YtpkcffbfgocndaaGreatDoor
namespace Go.Proofs.YtpkcffbfgocndaaGreatDoor
open Go.RowKit

theorem implFC (x : Int) (h0 : -9223372036854775808 ≤ x) (h1 : x ≤ 9223372036854775807) (B : Nat) (w : World) (hT : Tab B w) :
    Calls Tryz.prog 25 #[.int .i64 x] w fun e w' => e = .returned (.string (cellS x)) ∧ Below w.heap.size w w' := by
  by_cases hx : x = -1
  · subst hx
    go_enter Tryz.func25, Tryz.ntmps25
    go_wp2_with fail
    go_ret
    exact ⟨ret_s (by unfold cellS; rw [if_pos rfl]), Below.refl _ _⟩
  · have hne : (x == -1) = false := by simpa using hx
    have HX := Lib.hid hx
    have HT := Lib.hid hT
    clear hx hT
    go_enter Tryz.func25, Tryz.ntmps25
    go_wp2_with fail
    refine (implFI x h0 h1 B _ HT.out).mono ?_
    rintro e w' ⟨rfl, hb⟩
    go_wp2_with fail
    go_ret
    exact ⟨ret_s (by unfold cellS; rw [if_neg HX.out]), hb⟩
theorem Bld.kept {w w' : World} {B b : Nat} {l : List UInt8} (h : Bld w B b l) (hb : Below w.heap.size w w') : Bld w' B b l := by
  obtain ⟨hB, v, hbk, hown, hne⟩ := h
  refine ⟨hB, v, (hb.block b (Array.getElem?_eq_some_iff.1 hbk).1).trans hbk, ?_, hne⟩
  refine World.ownsRow.kept (row := none) hown ⟨hb.os, hb.tape, hb.output, hb.size, fun k hk _ => hb.block k hk⟩ ?_
  cases hv : v.ownBlock with
  | none => exact .inl rfl
  | some g => exact .inr (by simp)
theorem Bld0.fresh {w : World} {B : Nat} (hB : B ≤ w.heap.size) : Bld0 (w.alloc (.cells #[.pointer none, .slice none 0 0] 44)) B w.heap.size [] :=
  .inl ⟨hB, .slice none 0 0, by unfold World.alloc; simp, World.ownsRow_nil _ _ _ _, by simp [Value.ownBlock]⟩
theorem rowPre_succ (r : List Int) (k : Nat) : rowPre r (k + 1) = rowPre r k ++ ((if 0 < k then [32] else []) ++ cellB (r.getD k 0)) := rfl
set_option maxRecDepth 20000 in
set_option maxHeartbeats 6400000 in
theorem implFormatTable_any (c : Int) (v : Value) (ll : List (List Int)) (w : World) (hr : ReadSS w v ll) (hl : ll.length ≤ 1048576) (ht : ∀ i, i < ll.length → (ll.getD i []).length ≤ 1048576) (hT : Tab w.heap.size w) :
    Calls Tryz.prog 6 #[.agg #[.int .i64 c, v]] w fun e w' => e = .returned (.string (fmtT c ll)) ∧ Below w.heap.size w w' := by
  have HT := Lib.hid hT
  clear hT
  have HV := Lib.hid (fun w' (hb : Below w.heap.size w w') => implIsTable_any c v ll w' (hr.kept hb) hl ht)
  obtain ⟨a, cap, rfl, ha⟩ := hr
  have HC := Lib.hid ha
  clear ha ht
  have hb1 := (Below.refl w.heap.size w).alloc (Nat.le_refl _) (.cells #[.int .i64 c, .slice a ll.length cap] 26)
  have HB1 := Lib.hid hb1
  have HRF := Lib.hid (Below.refl (w.alloc (.cells #[.int .i64 c, .slice a ll.length cap] 26)).heap.size (w.alloc (.cells #[.int .i64 c, .slice a ll.length cap] 26)))
  obtain ⟨hx1, hx2⟩ := box2 HRF.out
  cases hv : isT c ll with
  | false =>
    have HE : Hid (fmtT c ll = ⟨#[]⟩) := Lib.hid (by unfold fmtT; rw [hv]; rfl)
    rw [hv] at HV
    clear hv
    go_enter Tryz.func6, Tryz.ntmps6
    go_wp2_with fail
    refine (HV.out _ HB1.out).mono ?_
    rintro e w2 ⟨rfl, hb2⟩
    have hb := HB1.out.trans (hb2.mono HB1.out.size)
    go_wp2_with fail
    go_ret
    exact ⟨by rw [HE.out]; rfl, hb⟩
  | true =>
    obtain ⟨c1, c5, h40⟩ := isT_bd hv
    have HROW := Lib.hid (fun k hk => isT_row hv (k := k) hk)
    have HE : Hid (fmtT c ll = ⟨(headB c ++ rowsB ll ll.length).toArray⟩) := Lib.hid (by unfold fmtT; rw [if_pos hv])
    have HRL := Lib.hid (fun i hi => rowsB_len hv i hi)
    rw [hv] at HV
    obtain ⟨C, rfl⟩ : ∃ C : Nat, c = (C : Int) := ⟨c.toNat, by omega⟩
    have HFC := Lib.hid (fun w' => first_any (C : Int) w' (by omega) c5)
    obtain ⟨X, hX, hX32⟩ : ∃ X : Nat, (2 : Int) ^ (C : Int).toNat - 1 = (X : Int) ∧ X < 32 := by
      rcases (show C = 1 ∨ C = 2 ∨ C = 3 ∨ C = 4 ∨ C = 5 by omega) with rfl | rfl | rfl | rfl | rfl
      · exact ⟨1, rfl, by omega⟩
      · exact ⟨3, rfl, by omega⟩
      · exact ⟨7, rfl, by omega⟩
      · exact ⟨15, rfl, by omega⟩
      · exact ⟨31, rfl, by omega⟩
    have HHD : Hid (headB (C : Int) = (fmtA (X : Int)).data.toList ++ [10]) := Lib.hid (by unfold headB; rw [hX])
    have HHL : Hid ((headB (C : Int)).length ≤ 6) := Lib.hid (head_len ⟨C, by omega⟩)
    rw [hX] at HFC
    have HTX := Lib.hid (fun w' => text_any X hX32 w')
    obtain ⟨fx, hfx⟩ : ∃ fx, fmtA (X : Int) = fx := ⟨_, rfl⟩
    rw [hfx] at HHD HTX
    clear hv hX hfx
    go_enter Tryz.func6, Tryz.ntmps6
    go_wp2_with fail
    refine (HV.out _ HB1.out).mono ?_
    rintro e w2 ⟨rfl, hb2⟩
    have s2 := hb2.size
    simp only [World.size_alloc] at s2
    have hbld0 : Bld0 (w2.alloc (.cells #[.pointer none, .slice none 0 0] 44)) (w.heap.size + 1) w2.heap.size [] := Bld0.fresh s2
    have hb3 : Below (w.heap.size + 1) (w.alloc (.cells #[.int .i64 (C : Int), .slice a ll.length cap] 26)) (w2.alloc (.cells #[.pointer none, .slice none 0 0] 44)) := (hb2.mono (by simp)).alloc s2 _
    obtain ⟨w3, hw3⟩ : ∃ w3, w3 = w2.alloc (.cells #[.pointer none, .slice none 0 0] 44) := ⟨_, rfl⟩
    rw [← hw3] at hbld0 hb3
    have s3 : w2.heap.size < w3.heap.size := by rw [hw3]; simp
    obtain ⟨hc0, hc1⟩ := box2 (w := w) (T := 26) (c := (C : Int)) (v := .slice a ll.length cap) (wr := w3) (by simpa using hb3)
    clear hx1 hx2 hb1 hb2
    have HB3 := Lib.hid hb3
    have HB0 := Lib.hid (fun (w' : World) (h : Below (w.heap.size + 1) w3 w') => (HB1.out.trans (HB3.out.mono (by omega))).trans (h.mono (by omega)))
    have HX3 := Lib.hid (fun (w' : World) (h : Below (w.heap.size + 1) w3 w') => And.intro ((h.cell (p := ⟨w.heap.size, 0, none⟩) (by show w.heap.size < _; omega)).trans hc0) ((h.cell (p := ⟨w.heap.size, 1, none⟩) (by show w.heap.size < _; omega)).trans hc1))
    have hca : (w2.alloc (.cells #[.pointer none, .slice none 0 0] 44)).cell? ⟨w.heap.size, 0, none⟩ = some (.int .i64 (C : Int)) := by rw [← hw3]; exact hc0
    clear hb3
    go_wp2_with fail
    rw [← hw3]
    clear hw3 hca
    refine (HFC.out _).mono ?_
    rintro e w' ⟨rfl, rfl⟩
    go_wp2_with fail
    refine (HTX.out _).mono ?_
    rintro e w4 ⟨rfl, hb4⟩
    have hbd4 : Bld0 w4 (w.heap.size + 1) w2.heap.size [] := by
      rcases hbld0 with ⟨hB, v, hbk, hown, hne⟩ | h
      · exact .inl ⟨hB, v, (hb4.block _ s3).trans hbk, hown.kept (row := none) ⟨hb4.os, hb4.tape, hb4.output, hb4.size, fun k hk _ => hb4.block k hk⟩ (by
          cases hv : v.ownBlock with
          | none => exact .inl rfl
          | some g => exact .inr (by simp)), hne⟩
      · exact .inr (Bld.kept h hb4)
    have HFL : Hid (fx.size ≤ 6) := Lib.hid (by have h1 := HHL.out; rw [HHD.out, List.length_append] at h1; have h2 : fx.data.toList.length = fx.size := Array.length_toList; omega)
    have s4 := hb4.size
    have HW1 := Lib.hid (writeS_any (w.heap.size + 1) w2.heap.size [] fx w4 hbd4 (by have := HFL.out; simp; omega) (by omega))
    replace hb4 := hb4.mono (show w.heap.size + 1 ≤ w3.heap.size by omega)
    clear hbld0 hbd4 hc0 hc1
    go_wp2_with fail
    refine HW1.out.mono ?_
    rintro e w5 ⟨rfl, hbd5, hb5⟩
    rw [List.nil_append] at hbd5
    have s5 := hb5.size
    have HW2 := Lib.hid (writeS_any (w.heap.size + 1) w2.heap.size fx.data.toList ⟨#[10]⟩ w5 (.inr hbd5) (by have := HFL.out; have h2 : fx.data.toList.length = fx.size := Array.length_toList; have h3 : (⟨#[10]⟩ : ByteArray).size = 1 := rfl; omega) (by omega))
    clear hbd5
    replace hb5 := hb4.trans hb5
    clear hb4
    go_wp2_with fail
    refine HW2.out.mono ?_
    rintro e w6 ⟨rfl, hbd6, hb6⟩
    have s6 := hb6.size
    replace hb6 := hb5.trans hb6
    clear hb5
    have HD6 : Hid (Bld w6 (w.heap.size + 1) w2.heap.size (headB (C : Int))) := Lib.hid (by rw [HHD.out]; exact hbd6)
    obtain ⟨hc0, hc1⟩ := HX3.out w6 hb6
    clear hbd6
    go_wp2_with fail
    go_loopw [20] (fun iv wr => ∃ i : Nat, i ≤ ll.length ∧ iv = .int .i64 (i : Int) ∧ Hid (Bld wr (w.heap.size + 1) w2.heap.size (headB (C : Int) ++ rowsB ll i)) ∧ Below (w.heap.size + 1) w3 wr) (fun iv _ => ll.length - (intOf iv).toNat)
    case atStart => exact ⟨0, by omega, rfl, Lib.hid (by simpa [rowsB] using HD6.out), hb6⟩
    case round =>
      clear hb6 hc0 hc1
      obtain ⟨i, hi, rfl, HD, hb⟩ := hrel
      obtain ⟨wi, rfl⟩ : ∃ wi : World, wi = wr := ⟨_, rfl⟩
      have si := hb.size
      by_cases hlt : i < ll.length
      · obtain ⟨x, u, rfl, hxw, hu⟩ := HC.out i hlt
        have hw := HB0.out wi hb
        have e2 := (hw.cell (World.block_lt_of_cell? w _ hxw)).trans hxw
        have z0 : (0 : Int) ≤ (i : Int) := by omega
        have z1 : (i : Int) < (ll.length : Int) := by omega
        have HRW := Lib.hid (HROW.out i hlt)
        have hLI := HRL.out i hi
        have HSU : Hid (rowsB ll (i + 1) = rowsB ll i ++ rowB (ll.getD i [])) := Lib.hid rfl
        obtain ⟨row, hrr⟩ : ∃ row, ll.getD i [] = row := ⟨_, rfl⟩
        rw [hrr] at HRW hu HSU
        obtain ⟨ar, cr, rfl, hrow⟩ := hu
        have HRO := Lib.hid hrow
        have hr5 : row.length ≤ 5 := by have := HRW.out.1; omega
        have hdl : (headB (C : Int) ++ rowsB ll i).length ≤ 2000 := by rw [List.length_append]; have := HHL.out; omega
        obtain ⟨pre, hpre⟩ : ∃ pre, headB (C : Int) ++ rowsB ll i = pre := ⟨_, rfl⟩
        rw [hpre] at HD hdl
        have HPRE := Lib.hid hpre
        clear hxw hrr hrow hpre hLI
        go_wp2_with fail
        go_loopw [26] (fun kv wr => ∃ k : Nat, k ≤ row.length ∧ kv = .int .i64 (k : Int) ∧ Hid (Bld wr (w.heap.size + 1) w2.heap.size (pre ++ rowPre row k)) ∧ Below (w.heap.size + 1) w3 wr) (fun kv _ => row.length - (intOf kv).toNat)
        case atStart => exact ⟨0, by omega, rfl, Lib.hid (by simpa [rowPre] using HD.out), hb⟩
        case round =>
          obtain ⟨k, hk, rfl, HDK, hbk⟩ := hrel
          have sk := hbk.size
          have hpl := rowPre_len HRW.out.2 k hk
          by_cases hkt : k < row.length
          · obtain ⟨x0, rfl, hx0⟩ := HRO.out k hkt
            have hwk := HB0.out wr hbk
            have e3 := (hwk.cell (World.block_lt_of_cell? w _ hx0)).trans hx0
            have hgd := get_getD row k hkt
            rw [hgd] at e3
            have hbd := HRW.out.2 (row.getD k 0) (by rw [← hgd]; exact List.getElem_mem _)
            have HPS := Lib.hid (rowPre_succ row k)
            have hcl := cellB_len hbd.1 hbd.2
            obtain ⟨y, hy⟩ : ∃ y, row.getD k 0 = y := ⟨_, rfl⟩
            rw [hy] at e3 hbd HPS hcl
            have HCL : Hid ((cellS y).size ≤ 4) := Lib.hid (by have h2 : (cellS y).data.toList.length = (cellS y).size := Array.length_toList; unfold cellB at hcl; omega)
            have y0 : (0 : Int) ≤ (k : Int) := by omega
            have y1 : (k : Int) < (row.length : Int) := by omega
            clear hy hgd hx0 hcl
            by_cases hk0 : 0 < k
            · have h0 : 0 < k := hk0
              have HW1 := Lib.hid (writeS_any (w.heap.size + 1) w2.heap.size (pre ++ rowPre row k) ⟨#[32]⟩ wr (.inr HDK.out) (by have h3 : (⟨#[32]⟩ : ByteArray).size = 1 := rfl; rw [List.length_append]; omega) (by omega))
              have HPS2 : Hid (rowPre row (k + 1) = rowPre row k ++ ([32] ++ (cellS y).data.toList)) := Lib.hid (by rw [HPS.out, if_pos hk0]; rfl)
              go_wp2_with fail
              refine HW1.out.mono ?_
              rintro e w6 ⟨rfl, hbd6, hb6⟩
              have s6 := hb6.size
              have hbk6 := hbk.trans hb6
              have HF := Lib.hid (implFC y (by omega) (by omega) w.heap.size w6 (HT.out.on (HB0.out w6 hbk6)))
              have HD6 := Lib.hid hbd6
              clear hbd6 hb6
              go_wp2_with fail
              refine HF.out.mono ?_
              rintro e w7 ⟨rfl, hb7⟩
              have s7 := hb7.size
              have HW2 := Lib.hid (writeS_any (w.heap.size + 1) w2.heap.size _ (cellS y) w7 (.inr (HD6.out.kept hb7)) (by have := HCL.out; rw [List.length_append, List.length_append]; simp only [List.length_cons, List.length_nil]; omega) (by omega))
              have hbk7 := hbk6.trans (hb7.mono (show w.heap.size + 1 ≤ w6.heap.size by omega))
              clear hb7
              go_wp2_with fail
              refine HW2.out.mono ?_
              rintro e w8 ⟨rfl, hbd8, hb8⟩
              have HD8 : Hid (Bld w8 (w.heap.size + 1) w2.heap.size (pre ++ rowPre row (k + 1))) := Lib.hid (by rw [HPS2.out, ← List.append_assoc, ← List.append_assoc]; exact hbd8)
              have hbk8 := hbk7.trans hb8
              clear hbd8 hb8
              go_wp2_with fail
              go_roundw
              case rel => exact ⟨k + 1, by omega, by go_num, HD8, hbk8⟩
              case measure => simp [intOf]; omega
            · have h0 : ¬ 0 < k := hk0
              have HF := Lib.hid (implFC y (by omega) (by omega) w.heap.size wr (HT.out.on hwk))
              have HPS2 : Hid (rowPre row (k + 1) = rowPre row k ++ (cellS y).data.toList) := Lib.hid (by rw [HPS.out, if_neg hk0]; rfl)
              go_wp2_with fail
              refine HF.out.mono ?_
              rintro e w7 ⟨rfl, hb7⟩
              have s7 := hb7.size
              have HW2 := Lib.hid (writeS_any (w.heap.size + 1) w2.heap.size _ (cellS y) w7 (.inr (HDK.out.kept hb7)) (by have := HCL.out; rw [List.length_append]; omega) (by omega))
              have hbk7 := hbk.trans (hb7.mono (show w.heap.size + 1 ≤ wr.heap.size by omega))
              clear hb7
              go_wp2_with fail
              refine HW2.out.mono ?_
              rintro e w8 ⟨rfl, hbd8, hb8⟩
              have HD8 : Hid (Bld w8 (w.heap.size + 1) w2.heap.size (pre ++ rowPre row (k + 1))) := Lib.hid (by rw [HPS2.out, ← List.append_assoc]; exact hbd8)
              have hbk8 := hbk7.trans hb8
              clear hbd8 hb8
              go_wp2_with fail
              go_roundw
              case rel => exact ⟨k + 1, by omega, by go_num, HD8, hbk8⟩
              case measure => simp [intOf]; omega
          · obtain rfl : k = row.length := by omega
            have HW1 := Lib.hid (writeS_any (w.heap.size + 1) w2.heap.size _ ⟨#[10]⟩ wr (.inr HDK.out) (by have h3 : (⟨#[10]⟩ : ByteArray).size = 1 := rfl; rw [List.length_append]; omega) (by omega))
            go_wp2_with fail
            refine HW1.out.mono ?_
            rintro e w6 ⟨rfl, hbd6, hb6⟩
            have HD6 : Hid (Bld w6 (w.heap.size + 1) w2.heap.size (headB (C : Int) ++ rowsB ll (i + 1))) := Lib.hid (by rw [HSU.out, ← List.append_assoc, HPRE.out]; unfold rowB; rw [← List.append_assoc]; exact hbd6)
            have hbk6 := hbk.trans hb6
            clear hbd6 hb6
            go_wp2_with fail
            go_roundw
            case rel => exact ⟨i + 1, by omega, by go_num, HD6, hbk6⟩
            case measure => simp [intOf]; omega
      · obtain rfl : i = ll.length := by omega
        have HST := Lib.hid (string_any (w.heap.size + 1) w2.heap.size _ wi (.inr HD.out) (by omega))
        go_wp2_with fail
        refine HST.out.mono ?_
        rintro e w9 ⟨rfl, hb9⟩
        go_wp2_with fail
        go_ret
        exact ⟨by rw [HE.out]; rfl, HB0.out w9 (hb.trans hb9)⟩
end Go.Proofs.YtpkcffbfgocndaaGreatDoor
