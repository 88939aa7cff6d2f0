/- Texts of this claim, merged: PrjH. Conditions: as stated. -/
import Derived.Test.YtpkcffbfgocndaaGreatDoorMk
import Derived.Test.YtpkcffbfgocndaaGreatDoorMi
import Derived.Deep.AppendLies
import Derived.Deep.RegionLaw
namespace Go.Proofs.YtpkcffbfgocndaaGreatDoor
open Go.RowKit

set_option maxRecDepth 20000 in
set_option maxHeartbeats 6400000 in
theorem implProjectTable_any (c q : Int) (v : Value) (ll : List (List Int)) (w : World) (q0 : -9223372036854775808 ≤ q) (q1 : q ≤ 9223372036854775807) (hr : ReadSS w v ll) (hl : ll.length ≤ 1048576) (ht : ∀ i, i < ll.length → (ll.getD i []).length ≤ 1048576) :
    Calls Tryz.prog 13 #[.agg #[.int .i64 c, v], .int .i64 q] w (RetT (projC c ll q) (projR c ll q) w) := by
  obtain ⟨i0, hi, hz0, hz1, hz2⟩ := info_parts infoSj
  have HI : Hid (_ ∧ _ ∧ _ ∧ _) := Lib.hid ⟨hi, hz0, hz1, hz2⟩
  clear hi hz0 hz1 hz2
  obtain ⟨j0, hi, hz0, hz1, hz2⟩ := info_parts infoRp
  have HJ : Hid (_ ∧ _ ∧ _ ∧ _) := Lib.hid ⟨hi, hz0, hz1, hz2⟩
  clear hi hz0 hz1 hz2
  have HV := Lib.hid (fun w' (hb : Below w.heap.size w w') => implIsTable_any c v ll w' (hr.kept hb) hl ht)
  have HA := Lib.hid (fun w' => implIsA_any c q q0 q1 w')
  obtain ⟨a, cap, rfl, ha⟩ := hr
  have HC := Lib.hid ha
  clear ha ht
  have hbx := ((Below.refl w.heap.size w).alloc (Nat.le_refl _) (.cells #[.int .i64 c, .slice a ll.length cap] 26)).alloc (by simp) (.cells #[.int .i64 0, .slice none 0 0] 26)
  have hld : ((w.alloc (.cells #[.int .i64 c, .slice a ll.length cap] 26)).alloc (.cells #[.int .i64 0, .slice none 0 0] 26)).cell? ⟨w.heap.size, 0, none⟩ = some (.int .i64 c) ∧ ((w.alloc (.cells #[.int .i64 c, .slice a ll.length cap] 26)).alloc (.cells #[.int .i64 0, .slice none 0 0] 26)).cell? ⟨w.heap.size, 1, none⟩ = some (.slice a ll.length cap) :=
    ⟨(World.cell?_alloc_old _ _ _ (by simp)).trans (zero2 w _ _ _).1, (World.cell?_alloc_old _ _ _ (by simp)).trans (zero2 w _ _ _).2⟩
  obtain ⟨ld0, ld1⟩ := hld
  cases hv : isT c ll with
  | false =>
    have HE : Hid (projC c ll q = 0 ∧ projR c ll q = []) := Lib.hid (by unfold projC projR projOk; rw [hv]; exact ⟨rfl, rfl⟩)
    rw [hv] at HV
    clear hv
    go_enter Tryz.func13, Tryz.ntmps13
    go_wp2_with fail
    refine (HV.out _ hbx).mono ?_
    rintro e w1 ⟨rfl, hb1⟩
    obtain ⟨hc, hf⟩ := bcell hb1
    go_wp2_with fail
    refine bodyPost_ret (v := .agg #[.int .i64 0, .slice none 0 0]) (by simp [results, Tryz.results13, go_sem, hc]) rfl ⟨.slice none 0 0, by rw [HE.out.1], by rw [HE.out.2]; exact OwnSS.nil _ _ _, ?_⟩
    exact ((hbx.trans (hb1.mono hbx.size)).setCell (by simp) _).setCell (by simp) _
  | true =>
    obtain ⟨c1, c5, h40⟩ := isT_bd hv
    have HROW := Lib.hid (fun k hk => (isT_row hv (k := k) hk).1)
    rw [hv] at HV
    by_cases h0 : q = 0
    · have HE : Hid (projC c ll q = 0 ∧ projR c ll q = []) := Lib.hid (by unfold projC projR projOk; rw [hv, h0]; simp)
      have hz : (q == 0) = true := by simp [h0]
      clear hv h0
      go_enter Tryz.func13, Tryz.ntmps13
      go_wp2_with fail
      refine (HV.out _ hbx).mono ?_
      rintro e w1 ⟨rfl, hb1⟩
      obtain ⟨hc, hf⟩ := bcell hb1
      go_wp2_with fail
      refine bodyPost_ret (v := .agg #[.int .i64 0, .slice none 0 0]) (by simp [results, Tryz.results13, go_sem, hc]) rfl ⟨.slice none 0 0, by rw [HE.out.1], by rw [HE.out.2]; exact OwnSS.nil _ _ _, ?_⟩
      exact ((hbx.trans (hb1.mono hbx.size)).setCell (by simp) _).setCell (by simp) _
    · have hz : (q == 0) = false := by rw [beq_eq_false_iff_ne]; exact h0
      cases hq : isA c q with
      | false =>
        have HE : Hid (projC c ll q = 0 ∧ projR c ll q = []) := Lib.hid (by unfold projC projR projOk; rw [hv, hq]; exact ⟨rfl, rfl⟩)
        rw [hq] at HA
        clear hv hq h0
        go_enter Tryz.func13, Tryz.ntmps13
        go_wp2_with fail
        refine (HV.out _ hbx).mono ?_
        rintro e w1 ⟨rfl, hb1⟩
        have ld0' := (hb1.cell (World.block_lt_of_cell? _ _ ld0)).trans ld0
        have hb2' := hbx.trans (hb1.mono hbx.size)
        have hs1 := hb1.size
        simp only [World.size_alloc] at hs1
        go_wp2_with fail
        refine (HA.out _).mono ?_
        rintro e w2 ⟨rfl, hb2⟩
        have hb3 := hb2'.trans (hb2.mono (by omega))
        obtain ⟨hc, hf⟩ := bcell (hb1.trans (hb2.mono hb1.size))
        go_wp2_with fail
        refine bodyPost_ret (v := .agg #[.int .i64 0, .slice none 0 0]) (by simp [results, Tryz.results13, go_sem, hc]) rfl ⟨.slice none 0 0, by rw [HE.out.1], by rw [HE.out.2]; exact OwnSS.nil _ _ _, ?_⟩
        exact (hb3.setCell (by simp) _).setCell (by simp) _
      | true =>
        rw [hq] at HA
        have hr := isA_range hq
        obtain ⟨X, rfl⟩ : ∃ X : Nat, q = (X : Int) := ⟨q.toNat, by omega⟩
        have HE : Hid (projC c ll (X : Int) = ((mems (X : Int)).length : Int) ∧ projR c ll (X : Int) = onceL (ll.map (rowOf (X : Int)))) := Lib.hid (by unfold projC projR projOk; rw [hv, hq, hz]; exact ⟨rfl, rfl⟩)
        have HM := Lib.hid (isA_mems hq)
        have hpos := isA_pos hq h0
        have hml := mems_len (X : Int)
        have HMS := Lib.hid (fun w' => members_any X (by omega) w')
        have HRO : Hid (∀ r, rowOf (X : Int) r = (mems (X : Int)).map fun k => r.getD k.toNat 0) := Lib.hid (fun r => rfl)
        obtain ⟨ms, hms⟩ : ∃ ms, ms = mems (X : Int) := ⟨_, rfl⟩
        rw [← hms] at HE HM hpos hml HMS HRO
        clear hv hq h0 hms hr
        go_enter Tryz.func13, Tryz.ntmps13
        go_wp2_with fail
        refine (HV.out _ hbx).mono ?_
        rintro e w1 ⟨rfl, hb1⟩
        have ld0' := (hb1.cell (World.block_lt_of_cell? _ _ ld0)).trans ld0
        go_wp2_with fail
        refine (HA.out _).mono ?_
        rintro e wA ⟨rfl, hbA⟩
        replace hb1 := hb1.trans (hbA.mono hb1.size)
        clear ld0' hbA
        go_wp2_with fail
        refine (HMS.out _).mono ?_
        rintro e w2 ⟨vm, rfl, om, hb2⟩
        have HB2 := Lib.hid (hb1.trans (hb2.mono hb1.size))
        clear hb1 hb2 ld0
        obtain ⟨am, capm, rfl, -⟩ := om.read
        have HOM := Lib.hid om
        have ld1' := (HB2.out.cell (World.block_lt_of_cell? _ _ ld1)).trans ld1
        have s2 := HB2.out.size
        simp only [World.size_alloc] at s2
        have HZ2 := Lib.hid (hbx.trans (HB2.out.mono hbx.size))
        have HLD := Lib.hid ld1'
        clear ld1 hbx om
        go_wp2_with (at_make; refine wpList_make_own _ rfl _ _ 69 rfl w2.heap.size 70 j0 (.pointer none) 1 Tryz.underlying69 HJ.out.1 HJ.out.2.1 HJ.out.2.2.1 .i64 .i64 _ ll.length rfl rfl rfl (by rw [HJ.out.2.2.2]; omega) (by unfold maxLen; omega) (Nat.le_refl _) ?_; intro w3 hown0 hgrow0; have hb3 := (Below.refl w2.heap.size w2).grown hgrow0 (Nat.le_refl _) (by simp); have ho3 := OwnP.made hown0 (by intro e; cases e); have ld3 := (hb3.cell (World.block_lt_of_cell? _ _ HLD.out)).trans HLD.out; clear hown0 hgrow0 ld1')
        go_loopw [6, 36] (fun ov iv wr => ∃ (i : Nat) (P : List (Nat × List Int)), i ≤ ll.length ∧ iv = .int .i64 (i : Int) ∧ Hid (P.map (·.2) = (ll.take i).map (rowOf (X : Int))) ∧ OwnP wr w2.heap.size ov P ∧ Below w2.heap.size w2 wr) (fun _ iv _ => ll.length - (intOf iv).toNat)
        case atStart => exact ⟨0, [], by omega, rfl, Lib.hid rfl, ho3, hb3⟩
        case round =>
          clear ho3 hb3 ld3
          obtain ⟨i, P, hi, rfl, hP, ho, hb⟩ := hrel
          have hPl : P.length = i := by have := congrArg List.length hP.out; rw [List.length_map, List.length_map, List.length_take] at this; omega
          by_cases hlt : i < ll.length
          · obtain ⟨x, u, rfl, hxw, hu⟩ := HC.out i hlt
            have hw := HZ2.out.trans (hb.mono HZ2.out.size)
            have e2 := (hw.cell (World.block_lt_of_cell? w _ hxw)).trans hxw
            have HRD := Lib.hid (hu.kept hw)
            have hcl := HROW.out i hlt
            have HLS := Lib.hid (map_take_succ ll (rowOf (X : Int)) [] i hlt)
            have HQ := Lib.hid (recordOf_any u _ _ ms wr (hu.kept hw) (HOM.out.read.kept hb) hml (fun y hy => by have := HM.out y hy; omega))
            rw [← HRO.out] at HQ
            obtain ⟨row, hrr⟩ : ∃ row, rowOf (X : Int) (ll.getD i []) = row := ⟨_, rfl⟩
            rw [hrr] at HLS HQ
            have z0 : (0 : Int) ≤ (i : Int) := by omega
            have z1 : (i : Int) < (ll.length : Int) := by omega
            have HPL := Lib.hid hPl
            have hPl2 : P.length ≤ 40 := by omega
            clear hxw hu hrr hcl hPl
            go_wp2_with fail
            refine HQ.out.mono ?_
            rintro e w4 ⟨b, rfl, hrec, hb1, hb2, hb4⟩
            have hbA := hb4.alloc hb4.size (.cells #[.pointer (some ⟨b, 0, none⟩)] 70)
            have hoA := ho.kept hbA
            have hrA := hrec.kept (hb4.alloc hb4.size (.cells #[.pointer (some ⟨b, 0, none⟩)] 70) |> fun _ => (Below.refl w4.heap.size w4).alloc (Nat.le_refl _) (.cells #[.pointer (some ⟨b, 0, none⟩)] 70)) hb2
            go_wp2_with (at_builtin; refine wpList_append_own_at _ rfl _ _ 69 rfl w2.heap.size 70 j0 (.pointer none) 1 8 Tryz.underlying69 HJ.out.1 HJ.out.2.1 HJ.out.2.2.1 HJ.out.2.2.2 rfl (by decide) _ _ _ rfl hoA.own ⟨w4.heap.size, 0, none⟩ 1 1 [ptrV (b, row)] rfl rfl (cell_one_new _ _ _) (one_ptr _) (by unfold maxLen; omega) (by omega) (by have := hbA.size; have := hb.size; omega) ?_; intro v' w5 hown' hgrow hnil hat)
            have hsz := hb.size
            have hoN := ho.snoc (p := (b, row)) hbA hsz hrA hb1 (by simp; omega) hown' hgrow hnil hat
            have hbN := (hb.trans (hbA.mono hsz)).grown hgrow (by have := hbA.size; omega) (fun k hk => (ho.lt k hk).1)
            clear hown' hgrow hnil hat hoA hrA
            go_roundw
            case rel => exact ⟨i + 1, P ++ [(b, row)], by omega, by go_num, Lib.hid (by rw [List.map_append, hP.out, HLS.out]; rfl), hoN, hbN⟩
            case measure => simp [intOf]; omega
          · obtain rfl : i = ll.length := by omega
            have HPR : Hid (P.map (·.2) = ll.map (rowOf (X : Int))) := Lib.hid (by have := hP.out; rwa [List.take_length] at this)
            obtain ⟨g, gc, rfl, hg1, hg2, hgc, hpt⟩ := ho.shape
            have s3 := hb.size
            obtain ⟨wq, rfl⟩ : ∃ wq : World, wq = wr := ⟨_, rfl⟩
            have hbT := BoxT.fresh wq (ms.length : Int) (.slice none 0 0)
            obtain ⟨wD, hwD⟩ : ∃ wD, wD = wq.alloc (.cells #[.int .i64 (ms.length : Int), .slice none 0 0] 26) := ⟨_, rfl⟩
            rw [← hwD] at hbT
            have hbD : Below wq.heap.size wq wD := by rw [hwD]; exact (Below.refl _ _).alloc (Nat.le_refl _) _
            have HDI := Lib.hid (distinct_any g gc P wD ⟨fun j hj => ⟨(hbD.cell hg2).trans (hpt.cell j hj).1, (hbD.frozen hg2).trans (hpt.cell j hj).2⟩, fun p hp => by
              obtain ⟨r1, r2, r3⟩ := hpt.recs p hp
              exact ⟨r1.kept hbD r3, r2, Nat.lt_of_lt_of_le r3 hbD.size⟩⟩ (Nat.lt_of_lt_of_le hg2 hbD.size) (by omega) hgc)
            rw [hPl] at HDI
            have HPB := Lib.hid (fun p hp => (hpt.recs p hp).2.2)
            have HBD := Lib.hid hbD
            have HBT := Lib.hid hbT
            have HSB := Lib.hid hb
            have hTD : wq.heap.size < wD.heap.size := hbT.lt
            clear hpt hbD hbT hb ho
            go_wp2_with fail
            rw [← hwD]
            clear hwD
            refine HDI.out.mono ?_
            rintro e w5 ⟨l', hperm, hord, rfl, hpt, hgr⟩
            have HRL := Lib.hid (rows_left HPR.out hperm hord hml (fun r hr => by
              obtain ⟨r0, -, rfl⟩ := List.mem_map.1 hr
              rw [HRO.out, List.length_map]))
            have HDB := Lib.hid (fun (p : Nat × List Int) (hp : p ∈ ddL l') => HPB.out p (hperm.mem_iff.1 (ddL_sub l' l'.length (Nat.le_refl _) p (by rw [List.take_length]; exact hp))))
            obtain ⟨D, hD⟩ : ∃ D, ddL l' = D := ⟨_, rfl⟩
            have hDl : D.length ≤ 40 := by
              have h1 := ddL_len l' l'.length (Nat.le_refl _)
              rw [List.take_length, hD] at h1
              have := hperm.length_eq
              omega
            rw [hD] at hpt HRL HDB ⊢
            have HPT := Lib.hid hpt
            have HGR := Lib.hid hgr
            have s5 := hgr.size
            have hTg : wq.heap.size ≠ g := by omega
            have hbT5 := HBT.out.grown hgr (by simp; omega)
            clear hpt hgr hD hord hperm
            go_wp2_with fail
            go_loopw [53] (fun iv w8 => ∃ (j : Nat) (L : List (List Int)) (rv : Value), j ≤ D.length ∧ iv = .int .i64 (j : Int) ∧ Hid (L = (D.take j).map (fun p => (pad5 p.2).take ms.length)) ∧ Hid (BoxT w8 wq.heap.size (ms.length : Int) rv) ∧ Hid (OwnSS w8 w5.heap.size w8.heap.size rv L) ∧ w5.grownBy w8 (some wq.heap.size)) (fun iv _ => D.length - (intOf iv).toNat)
            case atStart => exact ⟨0, [], .slice none 0 0, by omega, rfl, Lib.hid rfl, Lib.hid hbT5, Lib.hid (OwnSS.nil _ _ _), ⟨rfl, rfl, rfl, Nat.le_refl _, fun _ _ _ => rfl⟩⟩
            case round =>
              clear hbT5
              obtain ⟨j, L, rv, hj, rfl, hL, HBX, HSS, hgr8⟩ := hrel
              obtain ⟨w8, rfl⟩ : ∃ w8 : World, w8 = wr := ⟨_, rfl⟩
              have hLl : L.length = j := by rw [hL.out, List.length_map, List.length_take]; omega
              by_cases hlt : j < D.length
              · have z0 : (0 : Int) ≤ (j : Int) := by omega
                have z1 : (j : Int) < (D.length : Int) := by omega
                have hgT : g ≠ wq.heap.size := by omega
                have hg5 : g < w5.heap.size := by omega
                have hx := (hgr8.cell_far ⟨g, j, none⟩ hg5 (by simpa using hgT)).trans (HPT.out.cell j hlt).1
                obtain ⟨r1, r2, r3⟩ := HPT.out.recs _ (getD_mem D j (0, []) hlt)
                have HLS := Lib.hid (map_take_succ D (fun p => (pad5 p.2).take ms.length) (0, []) j hlt)
                obtain ⟨pp, hpp⟩ : ∃ pp, D.getD j (0, []) = pp := ⟨_, rfl⟩
                have hbq := HDB.out _ (getD_mem D j (0, []) hlt)
                rw [hpp] at hx r1 r2 r3 HLS hbq
                obtain ⟨b, r⟩ := pp
                have s8 := hgr8.size
                have hbT : ¬ b = wq.heap.size := by have : b < wq.heap.size := hbq; omega
                clear hbq
                have r8 : RecAt w8.drew b r := (r1.grown hgr8 r3 (by simpa using Ne.symm hbT)).drewN 1
                have HRW := Lib.hid (recRow_any b ms.length r w8.drew r8 (by show b < w8.heap.size; omega) hml)
                obtain ⟨row, hrow⟩ : ∃ row, (pad5 r).take ms.length = row := ⟨_, rfl⟩
                have hrl : row.length = ms.length := by rw [← hrow, List.length_take, pad5_len]; omega
                have HRN := Lib.hid hrl
                clear hrl
                simp only [hrow] at HLS
                rw [hrow] at HRW
                have hLl2 : L.length ≤ 40 := by omega
                clear hLl
                have HBD2 : Hid (BoxT w8.drew wq.heap.size (ms.length : Int) rv) := Lib.hid HBX.out
                have HSD2 : Hid (OwnSS w8.drew w5.heap.size w8.heap.size rv L) := Lib.hid (HSS.out.same (fun _ _ _ => rfl))
                have HG8 : Hid (w5.grownBy w8.drew (some wq.heap.size)) := Lib.hid ⟨hgr8.os, hgr8.tape, hgr8.output, hgr8.size, hgr8.block⟩
                obtain ⟨⟨c0, c1'⟩, f0, f1⟩ := HBD2.out.cells
                obtain ⟨⟨k0, k1⟩, -, -⟩ := HBX.out.cells
                have hT8 : wq.heap.size < w8.heap.size := by omega
                clear r1 r2 r3 hpp hrow r8 hgr8 HSS HBX
                go_wp2_with fail
                go_region_law (first
                  | (go_simp; go_at_call 46; refine HRW.out.mono ?_; rintro e w6 ⟨vi, rfl, oi, b6⟩; obtain ⟨ai, capi, hvi, -⟩ := oi.read; rw [HRN.out] at hvi; subst hvi; have s6 : w8.heap.size ≤ w6.heap.size := b6.size; have hbx6 := Lib.hid (HBD2.out.kept b6 hT8); have HOI := Lib.hid oi; obtain ⟨⟨b0, b1⟩, h0, h1⟩ := hbx6.out.cells; have bA := (hbx6.out.grown (grown_alloc w6 (.cells #[.slice ai ms.length capi] 37) none) (by simp)).cells.1.2; have hss6 := HSD2.out.same (w' := w6.alloc (.cells #[.slice ai ms.length capi] 37)) (fun q x y => (Below.heap_alloc _ _ _ (by omega)).trans (b6.block q (by show q < w8.heap.size; omega))); have HG6 := Lib.hid (grown_new HG8.out (grown_below (row := none) b6) (by simp)); obtain ⟨V, o1, o2, o3, o4⟩ := hss6; have O1 := Lib.hid o1; have O2 := Lib.hid o2; have O3 := Lib.hid o3; have O4 := Lib.hid o4; clear o1 o2 o3 o4 b6 oi)
                  | (refine step_append_lies _ (by rfl) _ _ _ (by rfl) w5.heap.size 37 i0 (.slice none 0 0) 1 24 Tryz.underlying24 HI.out.1 HI.out.2.1 HI.out.2.2.1 HI.out.2.2.2 rfl (by decide) _ _ _ (by rfl) O1.out ⟨w6.heap.size, 0, none⟩ 1 1 [.slice ai ms.length capi] (by rfl) (by rfl) (cell_one_new _ _ _) (one_slice _ _ _) (by omega) (by unfold maxLen; omega) (by omega) (by rw [World.size_alloc]; omega) (w6.heap.size + 1) (by rw [World.size_alloc]) ?_; intro gg gcap w7 hown' hgrow hat hltg; have hbx7 := Lib.hid ((hbx6.out.grown (grown_alloc w6 (.cells #[.slice ai ms.length capi] 37) none) (by simp)).grown hgrow (fun e => by have := (World.ownsRow.lt O1.out _ e).1; omega)); have s7 := hgrow.size; have hss7 := Lib.hid (OwnSS.snocV O1.out O2.out O3.out O4.out (OwnI.base (World.ownsRow.alloc HOI.out (.cells #[.slice ai ms.length capi] 37)) (by show w5.heap.size ≤ w8.heap.size; omega)) (C' := w7.heap.size) (fun q hq => by have := HOI.out.lt q hq; rw [World.size_alloc] at s7; exact ⟨this.1, by omega⟩) hown' hgrow (by rw [World.size_alloc] at s7; omega) (fun q hq => (World.ownsRow.lt hown' q hq).2)); have HG7 := Lib.hid (grown_new (grown_new HG6.out (grown_alloc w6 (.cells #[.slice ai ms.length capi] 37) none) (by simp)) hgrow (fun q hq => (World.ownsRow.lt O1.out q hq).1)); clear b0 b1 h0 h1 bA hown' hgrow hat hltg O1 O2 O3 O4 HOI hbx6 HG6; obtain ⟨⟨b0, b1⟩, h0, h1⟩ := hbx7.out.cells))
                all_goals
                  clear c0 c1' f0 f1 k0 k1 b0 b1 h0 h1
                  go_wp2_with fail
                  go_roundw
                  case rel => exact ⟨j + 1, L ++ [row], .slice (some ⟨gg, 0, none⟩) (L.length + 1) gcap, by omega, by go_num, Lib.hid (by rw [HLS.out, hL.out]), Lib.hid hbx7.out.set, Lib.hid (hss7.out.same ((Same.refl _ _ _).setCell (.inl (by show wq.heap.size < _; omega)) _) |>.base (Nat.le_refl _) (by simp)), HG7.out.trans (grown_setCell _ _ _ _)⟩
                  case measure => simp [intOf]; omega
              · obtain rfl : j = D.length := by omega
                have HLE : Hid (L = onceL (ll.map (rowOf (X : Int)))) := Lib.hid (by rw [hL.out, List.take_length]; exact HRL.out)
                obtain ⟨⟨c0, c1'⟩, f0, f1⟩ := HBX.out.cells
                obtain ⟨a9, cap9, rfl, -⟩ := HSS.out.read
                have s8 := hgr8.size
                have sD := HBD.out.size
                have bR0 := BoxT.fresh (w.alloc (.cells #[.int .i64 c, .slice a ll.length cap] 26)) 0 (.slice none 0 0)
                rw [World.size_alloc] at bR0
                have bR : BoxT w8 (w.heap.size + 1) 0 (.slice none 0 0) := ((((bR0.kept HB2.out (by simp)).kept HSB.out (by omega)).kept HBD.out (by omega)).grown HGR.out (by simp; omega)).grown hgr8 (by simp; omega)
                obtain ⟨⟨d0, d1⟩, e0, e1⟩ := bR.cells
                have HWA := Lib.hid ((((HZ2.out.trans (HSB.out.mono (by omega))).trans (HBD.out.mono (by omega))).grown HGR.out (by omega) (fun k hk => by cases hk; omega)).grown hgr8 (by omega) (fun k hk => by cases hk; omega))
                have HSR := Lib.hid (((HSS.out.same (((Same.refl _ _ _).setCell (p := ⟨w.heap.size + 1, 0, none⟩) (.inl (by show w.heap.size + 1 < _; omega)) (.int .i64 (ms.length : Int))).setCell (p := ⟨w.heap.size + 1, 1, none⟩) (.inl (by show w.heap.size + 1 < _; omega)) (.slice a9 L.length cap9))).base (B' := w.heap.size) (C' := ((w8.setCell ⟨w.heap.size + 1, 0, none⟩ (.int .i64 (ms.length : Int))).setCell ⟨w.heap.size + 1, 1, none⟩ (.slice a9 L.length cap9)).heap.size) (by omega) (by simp)))
                clear hgr8 hLl
                go_wp2_with fail
                refine bodyPost_ret (v := .agg #[.int .i64 (ms.length : Int), .slice a9 L.length cap9]) (by simp [results, Tryz.results13, go_sem, d0, d1]) rfl ⟨_, by rw [HE.out.1], by rw [HE.out.2, ← HLE.out]; exact HSR.out, (HWA.out.setCell (by simp) _).setCell (by simp) _⟩
end Go.Proofs.YtpkcffbfgocndaaGreatDoor
