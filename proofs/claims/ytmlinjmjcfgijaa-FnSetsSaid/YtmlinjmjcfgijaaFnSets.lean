/- FnSets, the walk's pieces. Conditions: as stated. -/
import Derived.Test.YtmlinjmjcfgijaaImD
import Derived.Test.YtmlinjmjcfgijaaSetsDraw
import Derived.Deep.RegionHeld3
import Derived.Deep.RegionWith
namespace Go.Proofs.Ytmlinjmjcfgijaa
open Go.RowKit
theorem getD_at (l : List Int) (i : Nat) (h : i < l.length) : l.getD i 0 = l[i] := by rw [List.getD_eq_getElem?_getD, List.getElem?_eq_getElem h]; rfl
theorem cntKeep (w0 : World) (B : Nat) (p q : Addr) (u v : Value) (x c : Int) (hc : (cnt x : Int) = c) (w : World) (h : w.cell? p = some u ∧ w.cell? q = some v ∧ Below B w0 w) (hB : B ≤ w0.heap.size) :
    Calls Try.prog 25 #[.int .i64 x] w fun e w' => e = .returned (.int .i64 c) ∧ (w'.cell? p = some u ∧ w'.cell? q = some v ∧ Below B w0 w') :=
  (countS_any x w).mono fun _ _ ⟨a, b⟩ => ⟨by rw [a, hc], (b.cell (World.block_lt_of_cell? w _ h.1)).trans h.1, (b.cell (World.block_lt_of_cell? w _ h.2.1)).trans h.2.1, h.2.2.trans (b.mono (Nat.le_trans hB h.2.2.size))⟩
theorem parts_lens {kk : Int} (h0 : -1 ≤ kk) (h1 : kk ≤ 6) : (kk = -1 ∧ (parts kk).length = 0) ∨ (kk = 0 ∧ (parts kk).length = 1) ∨ (kk = 1 ∧ (parts kk).length = 2) ∨ (kk = 2 ∧ (parts kk).length = 4) ∨ (kk = 3 ∧ (parts kk).length = 8) ∨ (kk = 4 ∧ (parts kk).length = 16) ∨ (kk = 5 ∧ (parts kk).length = 32) ∨ (kk = 6 ∧ (parts kk).length = 0) := by
  rcases (show kk = -1 ∨ kk = 0 ∨ kk = 1 ∨ kk = 2 ∨ kk = 3 ∨ kk = 4 ∨ kk = 5 ∨ kk = 6 by omega) with rfl | rfl | rfl | rfl | rfl | rfl | rfl | rfl
  · exact .inl ⟨rfl, parts_none (by omega)⟩
  · exact .inr (.inl ⟨rfl, parts_count 0⟩)
  · exact .inr (.inr (.inl ⟨rfl, parts_count 1⟩))
  · exact .inr (.inr (.inr (.inl ⟨rfl, parts_count 2⟩)))
  · exact .inr (.inr (.inr (.inr (.inl ⟨rfl, parts_count 3⟩))))
  · exact .inr (.inr (.inr (.inr (.inr (.inl ⟨rfl, parts_count 4⟩)))))
  · exact .inr (.inr (.inr (.inr (.inr (.inr (.inl ⟨rfl, parts_count 5⟩))))))
  · exact .inr (.inr (.inr (.inr (.inr (.inr (.inr ⟨rfl, parts_none (by omega)⟩))))))

set_option maxRecDepth 100000 in
set_option maxHeartbeats 3200000 in
theorem law_walk (v : Value) (n : Nat) (w : World) (hcode : CodeAt w v n) (hn : n ≤ 1048576) :
    Calls Try.prog 3 #[v] w fun e w' => e = .returned (.bool true) ∧ Below w.heap.size w w' := by
  have HBIG := Lib.hid (big_any v n (code_slice hcode))
  have HD1 := Lib.hid (drawIsPart_any w v n hn hcode)
  have HD2 := Lib.hid (drawIsAttributes_any w v n hn hcode)
  have HD3 := Lib.hid (drawPartsBySize_any w v n hn hcode)
  have hbig : decide (1048576 < (n : Int)) = false := by simp; omega
  obtain ⟨a, cap, rfl⟩ := code_slice hcode
  go_enter Try.func3, Try.ntmps3
  go_wp2_with fail
  refine (HBIG.out _).mono ?_
  rintro e w' ⟨rfl, rfl⟩
  go_wp2_with fail
  refine (HD1.out _ (Below.refl _ _)).mono ?_
  rintro e w1 ⟨x, y, x0, x1, y0, y1, rfl, hb1⟩
  go_wp2_with fail
  refine (HD2.out _ hb1).mono ?_
  rintro e w2 ⟨c, z, c0, c1, z0, z1, rfl, hb2'⟩
  have hb2 := hb1.trans (hb2'.mono hb1.size)
  clear hb2' hb1
  go_wp2_with fail
  refine (implFormatA_any x (by omega) (by omega) _).mono ?_
  rintro e w3 ⟨rfl, hb3'⟩
  have hb3 := hb2.trans (hb3'.mono hb2.size)
  clear hb3' hb2
  go_wp2_with fail
  refine (implParseA_any _ _).mono ?_
  rintro e w4 ⟨p, ok, hp, rfl, hb4'⟩
  have hb4 := hb3.trans (hb4'.mono hb3.size)
  clear hb4' hb3
  obtain ⟨rfl, hpx⟩ := PaA_fmt hp
  have HPX := Lib.hid hpx
  clear hp hpx
  go_wp2_with fail
  refine (implMembers_any x (by omega) (by omega) _).mono ?_
  rintro e w5 ⟨m, rfl, om, hb5'⟩
  have hb5 := hb4.trans (hb5'.mono hb4.size)
  have hm0 := hb4.size
  clear hb5' hb4
  go_wp2_with fail
  have HV : Hid (∀ w, Calls Try.prog 20 #[.int .i64 5, .int .i64 x] w fun e w' => e = .returned (.bool (valB x)) ∧ w = w') := Lib.hid fun w => (isA_any 5 x w).mono fun _ _ ⟨a, b⟩ => ⟨by rw [a, isA5], b⟩
  have HC : Hid (∀ w, Calls Try.prog 22 #[.int .i64 x] w fun e w' => e = .returned (.int .i64 ((mems x).length : Int)) ∧ Below w.heap.size w w') := Lib.hid fun w => implCount_any x (by omega) (by omega) w
  refine (implPart_any x y (by omega) (by omega) y0 y1 _).mono ?_
  rintro e w6 ⟨rfl, hb6'⟩
  go_wp2_with fail
  refine (partS_any x y _).mono ?_
  rintro e w' ⟨rfl, rfl⟩
  go_wp2_with fail
  refine (implIsA_any c z (by omega) (by omega) _).mono ?_
  rintro e w7 ⟨rfl, hb7'⟩
  go_wp2_with fail
  refine (isA_any c z _).mono ?_
  rintro e w' ⟨rfl, rfl⟩
  go_wp2_with fail
  refine (formatS_any x _).mono ?_
  rintro e w8 ⟨rfl, hb8'⟩
  go_wp2_with fail
  refine (HV.out _).mono ?_
  rintro e w' ⟨rfl, rfl⟩
  have OM := Lib.hid om
  obtain ⟨am, capm, rfl, hm⟩ := om.read
  have HM := Lib.hid hm
  clear hm om
  cases hv : valB x with
  | true =>
    have hpx : (p != x) = false := by simp [HPX.out hv]
    have HVV := Lib.hid hv
    go_wp2_with fail
    refine (HC.out _).mono ?_
    rintro e w9 ⟨rfl, hb9'⟩
    have om9 := (((OM.out.kept hb6' (fun k hk => (OwnI.lt OM.out k hk).2)).kept hb7' (fun k hk => Nat.lt_of_lt_of_le (OwnI.lt OM.out k hk).2 hb6'.size)).kept hb8' (fun k hk => Nat.lt_of_lt_of_le (OwnI.lt OM.out k hk).2 (Nat.le_trans hb6'.size hb7'.size))).kept hb9' (fun k hk => Nat.lt_of_lt_of_le (OwnI.lt OM.out k hk).2 (Nat.le_trans hb6'.size (Nat.le_trans hb7'.size hb8'.size)))
    have hb6 := hb5.trans (hb6'.mono hb5.size)
    have hb7 := hb6.trans (hb7'.mono hb6.size)
    have hb8 := hb7.trans (hb8'.mono hb7.size)
    have hb9 := hb8.trans (hb9'.mono hb8.size)
    have HM9 : Hid (∀ i (h : i < (mems x).length), ∃ y, am = some y ∧ w9.cell? (y.add i) = some (.int .i64 (mems x)[i])) := Lib.hid (by
      obtain ⟨a', cap', h1, h2⟩ := om9.read
      simp at h1
      obtain ⟨rfl, -⟩ := h1
      exact h2)
    have hml := mems_len x
    clear om9 hb5 hb6 hb7 hb8 hb6' hb7' hb8' hb9'
    go_wp2_with fail
    go_loop [11, 12] (fun sv iv => ∃ k : Nat, k ≤ (mems x).length ∧ iv = .int .i64 (k : Int) ∧ sv = .int .i64 (pows ((mems x).take k))) (fun _ iv => (mems x).length - (intOf iv).toNat)
    case atStart => exact ⟨0, by omega, rfl, rfl⟩
    case round =>
      obtain ⟨k, hk, rfl, rfl⟩ := hrel
      obtain ⟨pb0, pb1⟩ := pows_bd x k
      by_cases hlt : k < (mems x).length
      · obtain ⟨ya, rfl, hy⟩ := HM9.out k hlt
        obtain ⟨-, m0, m4⟩ := mems_at hlt
        have hstep := Lib.hid (pows_take hlt)
        have z0' : (0 : Int) ≤ (k : Int) := by omega
        have z1' : (k : Int) < ((mems x).length : Int) := by omega
        obtain ⟨mk, hmk⟩ : ∃ mk : Int, mk = (mems x)[k] := ⟨_, rfl⟩
        rw [← hmk] at hy m0 m4 hstep
        clear hmk
        rcases (show mk = 0 ∨ mk = 1 ∨ mk = 2 ∨ mk = 3 ∨ mk = 4 by omega) with rfl | rfl | rfl | rfl | rfl
        all_goals
          go_wp2_with fail
          go_round
          case rel => exact ⟨k + 1, by omega, by go_num, by rw [hstep.out]; rfl⟩
          case measure => simp [intOf]; omega
      · obtain rfl : k = (mems x).length := by omega
        rw [List.take_length] at pb0 pb1
        go_wp2_with fail
        refine (HD3.out _ hb9).mono ?_
        rintro e w10 ⟨kk, k0, k1, rfl, hb10'⟩
        have hb10 := hb9.trans (hb10'.mono hb9.size)
        clear hb10' hb9
        go_wp2_with fail
        refine (implParts_any kk _).mono ?_
        rintro e w11 ⟨lv, rfl, ol, hb11'⟩
        have hb11 := hb10.trans (hb11'.mono hb10.size)
        have hll := parts_len kk
        have hl10 := hb10.size
        clear hb11' hb10
        have OL := Lib.hid ol
        obtain ⟨al, capl, rfl, -⟩ := ol.read
        clear ol
        go_wp2_with fail
        go_loopw [15] (fun iv wr => ∃ j : Nat, iv = .int .i64 ((j : Int) + 1) ∧ (j + 1 ≤ (parts kk).length ∨ j = 0) ∧ Hid (OwnI wr w10.heap.size (.slice al (parts kk).length capl) (parts kk)) ∧ Below w.heap.size w wr) (fun iv _ => ((parts kk).length + 1 - intOf iv).toNat)
        case atStart => exact ⟨0, rfl, .inr rfl, OL, hb11⟩
        case round =>
          obtain ⟨j, rfl, hj, ol, hb⟩ := hrel
          by_cases hlt : j + 1 < (parts kk).length
          · have hol := ol.out
            have hasc := parts_asc (n := kk) (i := j + 1) (by omega) hlt
            unfold asc at hasc
            rw [getD_at _ _ (show j + 1 - 1 < (parts kk).length by omega), getD_at _ _ hlt] at hasc
            have hc1 : ∀ al capl, OwnI wr w10.heap.size (.slice al (parts kk).length capl) (parts kk) → ∃ g, al = some ⟨g, 0, none⟩ ∧ wr.cell? ⟨g, j + 1, none⟩ = some (.int .i64 (parts kk)[j + 1]) ∧ wr.cell? ⟨g, j, none⟩ = some (.int .i64 (parts kk)[j]) := by
              intro al capl ho
              rcases ho.shape with ⟨e, h0⟩ | ⟨g, cap', e, -, -, -⟩
              · rw [h0] at hlt; simp at hlt
              · simp at e
                obtain ⟨rfl, rfl⟩ := e
                exact ⟨g, rfl, ho.cell _ _, ho.cell _ _⟩
            obtain ⟨g, rfl, hy1, hy0⟩ := hc1 _ _ hol
            have OL2 := Lib.hid hol
            clear hc1 hol ol OL hb11
            obtain ⟨va, hva⟩ : ∃ va, va = (parts kk)[j] := ⟨_, rfl⟩
            obtain ⟨vb, hvb⟩ : ∃ vb, vb = (parts kk)[j + 1] := ⟨_, rfl⟩
            simp only [Nat.add_sub_cancel] at hasc
            rw [← hva, ← hvb] at hasc
            rw [← hva] at hy0
            rw [← hvb] at hy1
            clear hva hvb
            obtain ⟨k, hk⟩ : ∃ k : Nat, k = j + 1 := ⟨_, rfl⟩
            have HK := Lib.hid hk
            rw [show (j : Int) + 1 = (k : Int) by omega]
            rw [← hk] at hy1 hlt
            have hB := hb.size
            have hw : IntKind.i64.wrap ((k : Int) - 1) = (j : Int) := by rw [IntKind.wrap_i64]; omega
            have z0' : (0 : Int) ≤ (j : Int) := by omega
            have z1' : (j : Int) < ((parts kk).length : Int) := by omega
            have z2' : (0 : Int) ≤ (k : Int) := by omega
            have z3' : (k : Int) < ((parts kk).length : Int) := by omega
            clear hk hj
            by_cases hcs : cnt va < cnt vb
            · have hcsI : (cnt va : Int) < (cnt vb : Int) := by omega
              obtain ⟨ca, hca⟩ : ∃ ca : Int, (cnt va : Int) = ca := ⟨_, rfl⟩
              obtain ⟨cb, hcb⟩ : ∃ cb : Int, (cnt vb : Int) = cb := ⟨_, rfl⟩
              rw [hca, hcb] at hcsI
              have HCA := Lib.hid hca
              have HCB := Lib.hid hcb
              have d1 : decide (cb < ca) = false := by simp; omega
              have d2 : (cb == ca) = false := by simp; omega
              clear hasc hca hcb hcs hcsI
              have HS : Hid (Below wr.heap.size wr wr) := Lib.hid (Below.refl _ _)
              go_wp2_with fail
              refine wp_region_noPanic ?_
              refine wp_region_held_drew (S := (fun w' => w'.cell? ⟨g, k, none⟩ = some (.int .i64 vb) ∧ w'.cell? ⟨g, j, none⟩ = some (.int .i64 va) ∧ Below wr.heap.size wr w')) (by kernel_rfl) ?_ (fun hHeld => ?_)
              · ((try dsimp only); (first | assumption | exact ⟨hy1, hy0, HS.out.drew⟩ | (refine ⟨?_, ?_, ?_⟩ <;> (first | assumption | exact HS.out.drew | (go_keep; done)))))
              refine wpAnyH_take (i := 0) (v := ?_) rfl (by kernel_rfl) (by kernel_rfl) (by kernel_rfl) (fun _ _ _ h => h) (Or.inl ⟨by rfl, ?_⟩) (by assumption) ?_
              rotate_left
              · (intro w hSw; (try dsimp only at hSw); go_simp; (try with_reducible rfl))
              (try simp only [Act.put, List.getElem_toArray, List.getElem_cons_zero, List.setIfInBounds_toArray, List.set_cons_zero, List.set_cons_succ])
              refine wpAnyH_take (i := 1) (v := ?_) rfl (by kernel_rfl) (by kernel_rfl) (by kernel_rfl) (fun _ _ _ h => h) (Or.inl ⟨by rfl, ?_⟩) (by assumption) ?_
              rotate_left
              · (intro w hSw; (try dsimp only at hSw); go_simp; (try with_reducible rfl))
              (try simp only [Act.put, List.getElem_toArray, List.getElem_cons_succ, List.getElem_cons_zero, List.setIfInBounds_toArray, List.set_cons_zero, List.set_cons_succ])
              refine wpAnyH_take (i := 2) (v := ?_) rfl (by kernel_rfl) (by kernel_rfl) (by kernel_rfl) (fun _ _ _ h => h) (Or.inl ⟨by rfl, ?_⟩) (by assumption) ?_
              rotate_left
              · (intro w hSw; (try dsimp only at hSw); go_simp; (try with_reducible rfl))
              (try simp only [Act.put, List.getElem_toArray, List.getElem_cons_succ, List.getElem_cons_zero, List.setIfInBounds_toArray, List.set_cons_zero, List.set_cons_succ])
              refine wpAnyH_take (i := 3) (v := ?_) rfl (by kernel_rfl) (by kernel_rfl) (by kernel_rfl) (fun _ _ _ h => h) (Or.inl ⟨by rfl, ?_⟩) (by assumption) ?_
              rotate_left
              · (intro w hSw; (try dsimp only at hSw); go_simp; (try with_reducible rfl))
              (try simp only [Act.put, List.getElem_toArray, List.getElem_cons_succ, List.getElem_cons_zero, List.setIfInBounds_toArray, List.set_cons_zero, List.set_cons_succ])
              refine wpAnyH_take (i := 5) (v := ?_) rfl (by kernel_rfl) (by kernel_rfl) (by kernel_rfl) (fun _ _ _ h => h) (Or.inl ⟨by rfl, ?_⟩) (by assumption) ?_
              rotate_left
              · (intro w hSw; (try dsimp only at hSw); go_simp; (try with_reducible rfl))
              (try simp only [Act.put, List.getElem_toArray, List.getElem_cons_succ, List.getElem_cons_zero, List.setIfInBounds_toArray, List.set_cons_zero, List.set_cons_succ])
              refine wpAnyH_take (i := 6) (v := ?_) rfl (by kernel_rfl) (by kernel_rfl) (by kernel_rfl) (fun _ _ _ h => h) (Or.inl ⟨by rfl, ?_⟩) (by assumption) ?_
              rotate_left
              · (intro w hSw; (try dsimp only at hSw); go_simp; (try with_reducible rfl))
              (try simp only [Act.put, List.getElem_toArray, List.getElem_cons_succ, List.getElem_cons_zero, List.setIfInBounds_toArray, List.set_cons_zero, List.set_cons_succ])
              refine wpAnyH_take (i := 7) (v := ?_) rfl (by kernel_rfl) (by kernel_rfl) (by kernel_rfl) (fun _ _ _ h => h) (Or.inl ⟨by rfl, ?_⟩) (by assumption) ?_
              rotate_left
              · (intro w hSw; (try dsimp only at hSw); go_simp; (try with_reducible rfl))
              (try simp only [Act.put, List.getElem_toArray, List.getElem_cons_succ, List.getElem_cons_zero, List.setIfInBounds_toArray, List.set_cons_zero, List.set_cons_succ])
              refine wpAnyH_take (i := 8) (v := ?_) rfl (by kernel_rfl) (by kernel_rfl) (by kernel_rfl) (fun _ _ _ h => h) (Or.inl ⟨by rfl, ?_⟩) (by assumption) ?_
              rotate_left
              · (intro w hSw; (try dsimp only at hSw); go_simp; (try with_reducible rfl))
              (try simp only [Act.put, List.getElem_toArray, List.getElem_cons_succ, List.getElem_cons_zero, List.setIfInBounds_toArray, List.set_cons_zero, List.set_cons_succ])
              refine wpAnyH_take (i := 9) (v := ?_) rfl (by kernel_rfl) (by kernel_rfl) (by kernel_rfl) (fun _ _ _ h => h) (Or.inl ⟨by rfl, ?_⟩) (by assumption) ?_
              rotate_left
              · (intro w hSw; (try dsimp only at hSw); go_simp; (try with_reducible rfl))
              (try simp only [Act.put, List.getElem_toArray, List.getElem_cons_succ, List.getElem_cons_zero, List.setIfInBounds_toArray, List.set_cons_zero, List.set_cons_succ])
              refine wpAnyH_ready (rs := [4]) (by kernel_rfl) (by simp) (AllReadyH.cons rfl (fun K hK => ?_) AllReadyH.nil)
              (first | ((first | (go_at_call 25; refine (cntKeep wr wr.heap.size ⟨g, k, none⟩ ⟨g, j, none⟩ (.int .i64 vb) (.int .i64 va) va ca HCA.out _ (by assumption) (Nat.le_refl _)).mono ?_; rintro e w' ⟨rfl, hS⟩) | (go_at_call 25; refine (cntKeep wr wr.heap.size ⟨g, k, none⟩ ⟨g, j, none⟩ (.int .i64 vb) (.int .i64 va) vb cb HCB.out _ (by assumption) (Nat.le_refl _)).mono ?_; rintro e w' ⟨rfl, hS⟩))) | (go_simp; (first | (go_at_call 25; refine (cntKeep wr wr.heap.size ⟨g, k, none⟩ ⟨g, j, none⟩ (.int .i64 vb) (.int .i64 va) va ca HCA.out _ (by assumption) (Nat.le_refl _)).mono ?_; rintro e w' ⟨rfl, hS⟩) | (go_at_call 25; refine (cntKeep wr wr.heap.size ⟨g, k, none⟩ ⟨g, j, none⟩ (.int .i64 vb) (.int .i64 va) vb cb HCB.out _ (by assumption) (Nat.le_refl _)).mono ?_; rintro e w' ⟨rfl, hS⟩))))
              (try (go_wp2_with fail))
              refine hK.out _ _ ?_ (fun hHeld => ?_)
              · ((try dsimp only); (first | assumption | exact ⟨hy1, hy0, HS.out.drew⟩ | (refine ⟨?_, ?_, ?_⟩ <;> (first | assumption | exact HS.out.drew | (go_keep; done)))))
              clear hK K
              (try simp only [Act.put, List.getElem_toArray, List.getElem_cons_succ, List.getElem_cons_zero, List.setIfInBounds_toArray, List.set_cons_zero, List.set_cons_succ])
              refine wpAnyH_ready (rs := [10]) (by kernel_rfl) (by simp) (AllReadyH.cons rfl (fun K hK => ?_) AllReadyH.nil)
              (first | ((first | (go_at_call 25; refine (cntKeep wr wr.heap.size ⟨g, k, none⟩ ⟨g, j, none⟩ (.int .i64 vb) (.int .i64 va) va ca HCA.out _ (by assumption) (Nat.le_refl _)).mono ?_; rintro e w' ⟨rfl, hS⟩) | (go_at_call 25; refine (cntKeep wr wr.heap.size ⟨g, k, none⟩ ⟨g, j, none⟩ (.int .i64 vb) (.int .i64 va) vb cb HCB.out _ (by assumption) (Nat.le_refl _)).mono ?_; rintro e w' ⟨rfl, hS⟩))) | (go_simp; (first | (go_at_call 25; refine (cntKeep wr wr.heap.size ⟨g, k, none⟩ ⟨g, j, none⟩ (.int .i64 vb) (.int .i64 va) va ca HCA.out _ (by assumption) (Nat.le_refl _)).mono ?_; rintro e w' ⟨rfl, hS⟩) | (go_at_call 25; refine (cntKeep wr wr.heap.size ⟨g, k, none⟩ ⟨g, j, none⟩ (.int .i64 vb) (.int .i64 va) vb cb HCB.out _ (by assumption) (Nat.le_refl _)).mono ?_; rintro e w' ⟨rfl, hS⟩))))
              (try (go_wp2_with fail))
              refine hK.out _ _ ?_ (fun hHeld => ?_)
              · ((try dsimp only); (first | assumption | exact ⟨hy1, hy0, HS.out.drew⟩ | (refine ⟨?_, ?_, ?_⟩ <;> (first | assumption | exact HS.out.drew | (go_keep; done)))))
              clear hK K
              (try simp only [Act.put, List.getElem_toArray, List.getElem_cons_succ, List.getElem_cons_zero, List.setIfInBounds_toArray, List.set_cons_zero, List.set_cons_succ])
              refine wpAnyH_take (i := 11) (v := ?_) rfl (by kernel_rfl) (by kernel_rfl) (by kernel_rfl) (fun _ _ _ h => h) (Or.inl ⟨by rfl, ?_⟩) (by assumption) ?_
              rotate_left
              · (intro w hSw; (try dsimp only at hSw); go_simp; (try with_reducible rfl))
              (try simp only [Act.put, List.getElem_toArray, List.getElem_cons_succ, List.getElem_cons_zero, List.setIfInBounds_toArray, List.set_cons_zero, List.set_cons_succ])
              refine wpAnyH_take (i := 12) (v := ?_) rfl (by kernel_rfl) (by kernel_rfl) (by kernel_rfl) (fun _ _ _ h => h) (Or.inl ⟨by rfl, ?_⟩) (by assumption) ?_
              rotate_left
              · (intro w hSw; (try dsimp only at hSw); go_simp; (try with_reducible rfl))
              (try simp only [Act.put, List.getElem_toArray, List.getElem_cons_succ, List.getElem_cons_zero, List.setIfInBounds_toArray, List.set_cons_zero, List.set_cons_succ])
              refine wpAnyH_take (i := 13) (v := ?_) rfl (by kernel_rfl) (by kernel_rfl) (by kernel_rfl) (fun _ _ _ h => h) (Or.inl ⟨by rfl, ?_⟩) (by assumption) ?_
              rotate_left
              · (intro w hSw; (try dsimp only at hSw); go_simp; (try with_reducible rfl))
              (try simp only [Act.put, List.getElem_toArray, List.getElem_cons_succ, List.getElem_cons_zero, List.setIfInBounds_toArray, List.set_cons_zero, List.set_cons_succ])
              refine wpAnyH_take (i := 14) (v := ?_) rfl (by kernel_rfl) (by kernel_rfl) (by kernel_rfl) (fun _ _ _ h => h) (Or.inl ⟨by rfl, ?_⟩) (by assumption) ?_
              rotate_left
              · (intro w hSw; (try dsimp only at hSw); go_simp; (try with_reducible rfl))
              (try simp only [Act.put, List.getElem_toArray, List.getElem_cons_succ, List.getElem_cons_zero, List.setIfInBounds_toArray, List.set_cons_zero, List.set_cons_succ])
              refine wpAnyH_take (i := 15) (v := ?_) rfl (by kernel_rfl) (by kernel_rfl) (by kernel_rfl) (fun _ _ _ h => h) (Or.inl ⟨by rfl, ?_⟩) (by assumption) ?_
              rotate_left
              · (intro w hSw; (try dsimp only at hSw); go_simp; (try with_reducible rfl))
              (try simp only [Act.put, List.getElem_toArray, List.getElem_cons_succ, List.getElem_cons_zero, List.setIfInBounds_toArray, List.set_cons_zero, List.set_cons_succ])
              refine wpAnyH_take (i := 16) (v := ?_) rfl (by kernel_rfl) (by kernel_rfl) (by kernel_rfl) (fun _ _ _ h => h) (Or.inl ⟨by rfl, ?_⟩) (by assumption) ?_
              rotate_left
              · (intro w hSw; (try dsimp only at hSw); go_simp; (try with_reducible rfl))
              (try simp only [Act.put, List.getElem_toArray, List.getElem_cons_succ, List.getElem_cons_zero, List.setIfInBounds_toArray, List.set_cons_zero, List.set_cons_succ])
              refine wpAnyH_take (i := 18) (v := ?_) rfl (by kernel_rfl) (by kernel_rfl) (by kernel_rfl) (fun _ _ _ h => h) (Or.inl ⟨by rfl, ?_⟩) (by assumption) ?_
              rotate_left
              · (intro w hSw; (try dsimp only at hSw); go_simp; (try with_reducible rfl))
              (try simp only [Act.put, List.getElem_toArray, List.getElem_cons_succ, List.getElem_cons_zero, List.setIfInBounds_toArray, List.set_cons_zero, List.set_cons_succ])
              refine wpAnyH_take (i := 19) (v := ?_) rfl (by kernel_rfl) (by kernel_rfl) (by kernel_rfl) (fun _ _ _ h => h) (Or.inl ⟨by rfl, ?_⟩) (by assumption) ?_
              rotate_left
              · (intro w hSw; (try dsimp only at hSw); go_simp; (try with_reducible rfl))
              (try simp only [Act.put, List.getElem_toArray, List.getElem_cons_succ, List.getElem_cons_zero, List.setIfInBounds_toArray, List.set_cons_zero, List.set_cons_succ])
              refine wpAnyH_take (i := 20) (v := ?_) rfl (by kernel_rfl) (by kernel_rfl) (by kernel_rfl) (fun _ _ _ h => h) (Or.inl ⟨by rfl, ?_⟩) (by assumption) ?_
              rotate_left
              · (intro w hSw; (try dsimp only at hSw); go_simp; (try with_reducible rfl))
              (try simp only [Act.put, List.getElem_toArray, List.getElem_cons_succ, List.getElem_cons_zero, List.setIfInBounds_toArray, List.set_cons_zero, List.set_cons_succ])
              refine wpAnyH_take (i := 21) (v := ?_) rfl (by kernel_rfl) (by kernel_rfl) (by kernel_rfl) (fun _ _ _ h => h) (Or.inl ⟨by rfl, ?_⟩) (by assumption) ?_
              rotate_left
              · (intro w hSw; (try dsimp only at hSw); go_simp; (try with_reducible rfl))
              (try simp only [Act.put, List.getElem_toArray, List.getElem_cons_succ, List.getElem_cons_zero, List.setIfInBounds_toArray, List.set_cons_zero, List.set_cons_succ])
              refine wpAnyH_take (i := 22) (v := ?_) rfl (by kernel_rfl) (by kernel_rfl) (by kernel_rfl) (fun _ _ _ h => h) (Or.inl ⟨by rfl, ?_⟩) (by assumption) ?_
              rotate_left
              · (intro w hSw; (try dsimp only at hSw); go_simp; (try with_reducible rfl))
              (try simp only [Act.put, List.getElem_toArray, List.getElem_cons_succ, List.getElem_cons_zero, List.setIfInBounds_toArray, List.set_cons_zero, List.set_cons_succ])
              refine wpAnyH_ready (rs := [17]) (by kernel_rfl) (by simp) (AllReadyH.cons rfl (fun K hK => ?_) AllReadyH.nil)
              (first | ((first | (go_at_call 25; refine (cntKeep wr wr.heap.size ⟨g, k, none⟩ ⟨g, j, none⟩ (.int .i64 vb) (.int .i64 va) va ca HCA.out _ (by assumption) (Nat.le_refl _)).mono ?_; rintro e w' ⟨rfl, hS⟩) | (go_at_call 25; refine (cntKeep wr wr.heap.size ⟨g, k, none⟩ ⟨g, j, none⟩ (.int .i64 vb) (.int .i64 va) vb cb HCB.out _ (by assumption) (Nat.le_refl _)).mono ?_; rintro e w' ⟨rfl, hS⟩))) | (go_simp; (first | (go_at_call 25; refine (cntKeep wr wr.heap.size ⟨g, k, none⟩ ⟨g, j, none⟩ (.int .i64 vb) (.int .i64 va) va ca HCA.out _ (by assumption) (Nat.le_refl _)).mono ?_; rintro e w' ⟨rfl, hS⟩) | (go_at_call 25; refine (cntKeep wr wr.heap.size ⟨g, k, none⟩ ⟨g, j, none⟩ (.int .i64 vb) (.int .i64 va) vb cb HCB.out _ (by assumption) (Nat.le_refl _)).mono ?_; rintro e w' ⟨rfl, hS⟩))))
              (try (go_wp2_with fail))
              refine hK.out _ _ ?_ (fun hHeld => ?_)
              · ((try dsimp only); (first | assumption | exact ⟨hy1, hy0, HS.out.drew⟩ | (refine ⟨?_, ?_, ?_⟩ <;> (first | assumption | exact HS.out.drew | (go_keep; done)))))
              clear hK K
              (try simp only [Act.put, List.getElem_toArray, List.getElem_cons_succ, List.getElem_cons_zero, List.setIfInBounds_toArray, List.set_cons_zero, List.set_cons_succ])
              refine wpAnyH_ready (rs := [23]) (by kernel_rfl) (by simp) (AllReadyH.cons rfl (fun K hK => ?_) AllReadyH.nil)
              (first | ((first | (go_at_call 25; refine (cntKeep wr wr.heap.size ⟨g, k, none⟩ ⟨g, j, none⟩ (.int .i64 vb) (.int .i64 va) va ca HCA.out _ (by assumption) (Nat.le_refl _)).mono ?_; rintro e w' ⟨rfl, hS⟩) | (go_at_call 25; refine (cntKeep wr wr.heap.size ⟨g, k, none⟩ ⟨g, j, none⟩ (.int .i64 vb) (.int .i64 va) vb cb HCB.out _ (by assumption) (Nat.le_refl _)).mono ?_; rintro e w' ⟨rfl, hS⟩))) | (go_simp; (first | (go_at_call 25; refine (cntKeep wr wr.heap.size ⟨g, k, none⟩ ⟨g, j, none⟩ (.int .i64 vb) (.int .i64 va) va ca HCA.out _ (by assumption) (Nat.le_refl _)).mono ?_; rintro e w' ⟨rfl, hS⟩) | (go_at_call 25; refine (cntKeep wr wr.heap.size ⟨g, k, none⟩ ⟨g, j, none⟩ (.int .i64 vb) (.int .i64 va) vb cb HCB.out _ (by assumption) (Nat.le_refl _)).mono ?_; rintro e w' ⟨rfl, hS⟩))))
              (try (go_wp2_with fail))
              refine hK.out _ _ ?_ (fun hHeld => ?_)
              · ((try dsimp only); (first | assumption | exact ⟨hy1, hy0, HS.out.drew⟩ | (refine ⟨?_, ?_, ?_⟩ <;> (first | assumption | exact HS.out.drew | (go_keep; done)))))
              clear hK K
              (try simp only [Act.put, List.getElem_toArray, List.getElem_cons_succ, List.getElem_cons_zero, List.setIfInBounds_toArray, List.set_cons_zero, List.set_cons_succ])
              refine wpAnyH_take (i := 24) (v := ?_) rfl (by kernel_rfl) (by kernel_rfl) (by kernel_rfl) (fun _ _ _ h => h) (Or.inl ⟨by rfl, ?_⟩) (by assumption) ?_
              rotate_left
              · (intro w hSw; (try dsimp only at hSw); go_simp; (try with_reducible rfl))
              (try simp only [Act.put, List.getElem_toArray, List.getElem_cons_succ, List.getElem_cons_zero, List.setIfInBounds_toArray, List.set_cons_zero, List.set_cons_succ])
              refine wpAnyH_take (i := 25) (v := ?_) rfl (by kernel_rfl) (by kernel_rfl) (by kernel_rfl) (fun _ _ _ h => h) (Or.inl ⟨by rfl, ?_⟩) (by assumption) ?_
              rotate_left
              · (intro w hSw; (try dsimp only at hSw); go_simp; (try with_reducible rfl))
              (try simp only [Act.put, List.getElem_toArray, List.getElem_cons_succ, List.getElem_cons_zero, List.setIfInBounds_toArray, List.set_cons_zero, List.set_cons_succ])
              refine wpAnyH_take (i := 26) (v := undef) rfl (by kernel_rfl) (by kernel_rfl) (by kernel_rfl) (fun _ _ _ h => h) (Or.inr ⟨by rfl, rfl⟩) (by assumption) ?_
              (try simp only [Act.put, List.getElem_toArray, List.getElem_cons_succ, List.getElem_cons_zero, List.setIfInBounds_toArray, List.set_cons_zero, List.set_cons_succ])
              refine wpAnyH_take (i := 27) (v := undef) rfl (by kernel_rfl) (by kernel_rfl) (by kernel_rfl) (fun _ _ _ h => h) (Or.inr ⟨by rfl, rfl⟩) (by assumption) ?_
              (try simp only [Act.put, List.getElem_toArray, List.getElem_cons_succ, List.getElem_cons_zero, List.setIfInBounds_toArray, List.set_cons_zero, List.set_cons_succ])
              refine wpAnyH_take (i := 28) (v := undef) rfl (by kernel_rfl) (by kernel_rfl) (by kernel_rfl) (fun _ _ _ h => h) (Or.inr ⟨by rfl, rfl⟩) (by assumption) ?_
              (try simp only [Act.put, List.getElem_toArray, List.getElem_cons_succ, List.getElem_cons_zero, List.setIfInBounds_toArray, List.set_cons_zero, List.set_cons_succ])
              refine wpAnyH_take (i := 29) (v := undef) rfl (by kernel_rfl) (by kernel_rfl) (by kernel_rfl) (fun _ _ _ h => h) (Or.inr ⟨by rfl, rfl⟩) (by assumption) ?_
              (try simp only [Act.put, List.getElem_toArray, List.getElem_cons_succ, List.getElem_cons_zero, List.setIfInBounds_toArray, List.set_cons_zero, List.set_cons_succ])
              refine wpAnyH_take (i := 30) (v := undef) rfl (by kernel_rfl) (by kernel_rfl) (by kernel_rfl) (fun _ _ _ h => h) (Or.inr ⟨by rfl, rfl⟩) (by assumption) ?_
              (try simp only [Act.put, List.getElem_toArray, List.getElem_cons_succ, List.getElem_cons_zero, List.setIfInBounds_toArray, List.set_cons_zero, List.set_cons_succ])
              refine wpAnyH_take (i := 31) (v := undef) rfl (by kernel_rfl) (by kernel_rfl) (by kernel_rfl) (fun _ _ _ h => h) (Or.inr ⟨by rfl, rfl⟩) (by assumption) ?_
              (try simp only [Act.put, List.getElem_toArray, List.getElem_cons_succ, List.getElem_cons_zero, List.setIfInBounds_toArray, List.set_cons_zero, List.set_cons_succ])
              refine wpAnyH_take (i := 32) (v := undef) rfl (by kernel_rfl) (by kernel_rfl) (by kernel_rfl) (fun _ _ _ h => h) (Or.inr ⟨by rfl, rfl⟩) (by assumption) ?_
              (try simp only [Act.put, List.getElem_toArray, List.getElem_cons_succ, List.getElem_cons_zero, List.setIfInBounds_toArray, List.set_cons_zero, List.set_cons_succ])
              refine wpAnyH_take (i := 33) (v := undef) rfl (by kernel_rfl) (by kernel_rfl) (by kernel_rfl) (fun _ _ _ h => h) (Or.inr ⟨by rfl, rfl⟩) (by assumption) ?_
              (try simp only [Act.put, List.getElem_toArray, List.getElem_cons_succ, List.getElem_cons_zero, List.setIfInBounds_toArray, List.set_cons_zero, List.set_cons_succ])
              refine wpAnyH_take (i := 34) (v := undef) rfl (by kernel_rfl) (by kernel_rfl) (by kernel_rfl) (fun _ _ _ h => h) (Or.inr ⟨by rfl, rfl⟩) (by assumption) ?_
              (try simp only [Act.put, List.getElem_toArray, List.getElem_cons_succ, List.getElem_cons_zero, List.setIfInBounds_toArray, List.set_cons_zero, List.set_cons_succ])
              refine wpAnyH_take (i := 35) (v := undef) rfl (by kernel_rfl) (by kernel_rfl) (by kernel_rfl) (fun _ _ _ h => h) (Or.inr ⟨by rfl, rfl⟩) (by assumption) ?_
              (try simp only [Act.put, List.getElem_toArray, List.getElem_cons_succ, List.getElem_cons_zero, List.setIfInBounds_toArray, List.set_cons_zero, List.set_cons_succ])
              refine wpAnyH_take (i := 36) (v := ?_) rfl (by kernel_rfl) (by kernel_rfl) (by kernel_rfl) (fun _ _ _ h => h) (Or.inl ⟨by rfl, ?_⟩) (by assumption) ?_
              rotate_left
              · (intro w hSw; (try dsimp only at hSw); go_simp; (try with_reducible rfl))
              (try simp only [Act.put, List.getElem_toArray, List.getElem_cons_succ, List.getElem_cons_zero, List.setIfInBounds_toArray, List.set_cons_zero, List.set_cons_succ])
              refine wpAnyH_take (i := 37) (v := ?_) rfl (by kernel_rfl) (by kernel_rfl) (by kernel_rfl) (fun _ _ _ h => h) (Or.inl ⟨by rfl, ?_⟩) (by assumption) ?_
              rotate_left
              · (intro w hSw; (try dsimp only at hSw); go_simp; (try with_reducible rfl))
              (try simp only [Act.put, List.getElem_toArray, List.getElem_cons_succ, List.getElem_cons_zero, List.setIfInBounds_toArray, List.set_cons_zero, List.set_cons_succ])
              refine wpAnyH_done (by kernel_rfl) ?_ _
              refine NoPanic.normal ?_
              go_wp2_with fail
              go_roundw
              case rel => exact ⟨k, by go_num, .inl (by omega), Lib.hid (OL2.out.kept hHeld.2.2 (fun q hq => (OwnI.lt OL2.out q hq).2)), hb.trans (hHeld.2.2.mono hB)⟩
              case measure => simp [intOf]; omega
            · have hcsI : (cnt vb : Int) = (cnt va : Int) ∧ va < vb := by
                simp at hasc; omega
              obtain ⟨ca, hca⟩ : ∃ ca : Int, (cnt va : Int) = ca := ⟨_, rfl⟩
              have hcb : (cnt vb : Int) = ca := by omega
              have HCA := Lib.hid hca
              have HCB := Lib.hid hcb
              have d1 : decide (ca < ca) = false := by simp
              have d2 : (ca == ca) = true := by simp
              have d3 : decide (vb ≤ va) = false := by simp; omega
              clear hasc hca hcb hcs hcsI
              have HS : Hid (Below wr.heap.size wr wr) := Lib.hid (Below.refl _ _)
              go_wp2_with fail
              go_region_held3 (fun w' => w'.cell? ⟨g, k, none⟩ = some (.int .i64 vb) ∧ w'.cell? ⟨g, j, none⟩ = some (.int .i64 va) ∧ Below wr.heap.size wr w') (first | assumption | exact HS.out.drew | (refine ⟨?_, ?_, ?_⟩ <;> (first | assumption | exact HS.out.drew | (go_keep; done))) | go_keep)
                (first | (go_at_call 25; refine (cntKeep wr wr.heap.size ⟨g, k, none⟩ ⟨g, j, none⟩ (.int .i64 vb) (.int .i64 va) va ca HCA.out _ ?_ (Nat.le_refl _)).mono ?_; (first | assumption | exact ⟨by assumption, by assumption, by assumption⟩); rintro e w' ⟨rfl, hS⟩) | (go_at_call 25; refine (cntKeep wr wr.heap.size ⟨g, k, none⟩ ⟨g, j, none⟩ (.int .i64 vb) (.int .i64 va) vb ca HCB.out _ ?_ (Nat.le_refl _)).mono ?_; (first | assumption | exact ⟨by assumption, by assumption, by assumption⟩); rintro e w' ⟨rfl, hS⟩))
              go_wp2_with fail
              go_roundw
              case rel => exact ⟨k, by go_num, .inl (by omega), Lib.hid (OL2.out.kept hS.2.2 (fun q hq => (OwnI.lt OL2.out q hq).2)), hb.trans (hS.2.2.mono hB)⟩
              case measure => simp [intOf]; omega
          · have hpl := parts_lens k0 k1
            obtain ⟨L, hL⟩ : ∃ L : Nat, (parts kk).length = L := ⟨_, rfl⟩
            rw [hL] at hpl hlt ⊢
            have hpa := pows_all HVV.out
            clear ol OL hL hll hj
            have hlt' : decide ((j : Int) + 1 < (L : Int)) = false := by simp; omega
            rcases hpl with ⟨rfl, rfl⟩ | ⟨rfl, rfl⟩ | ⟨rfl, rfl⟩ | ⟨rfl, rfl⟩ | ⟨rfl, rfl⟩ | ⟨rfl, rfl⟩ | ⟨rfl, rfl⟩ | ⟨rfl, rfl⟩
            all_goals
              go_wp2_with fail
              go_ret
              exact ⟨rfl, hb⟩
  | false =>
    have hml : (mems x).length = 0 := by
      have h : ¬ (0 ≤ x ∧ x ≤ 31) := by intro h; unfold valB at hv; rw [decide_eq_true h] at hv; cases hv
      unfold mems; rw [if_neg h]; rfl
    have hml1 : decide ((0 : Int) < ((mems x).length : Int)) = false := by rw [hml]; rfl
    have hml2 : ¬ 0 < (mems x).length := by rw [hml]; omega
    clear hml
    go_wp2_with fail
    refine (HC.out _).mono ?_
    rintro e w9 ⟨rfl, hb9'⟩
    have hb6 := hb5.trans (hb6'.mono hb5.size)
    have hb7 := hb6.trans (hb7'.mono hb6.size)
    have hb8 := hb7.trans (hb8'.mono hb7.size)
    have hb9 := hb8.trans (hb9'.mono hb8.size)
    clear hb5 hb6 hb7 hb8 hb6' hb7' hb8' hb9'
    go_wp2_with fail
    refine wp_loop_rounds 1 ?_
    rw [rounds_succ]
    go_wp2_with fail
    refine (HD3.out _ hb9).mono ?_
    rintro e w10 ⟨kk, k0, k1, rfl, hb10'⟩
    have hb10 := hb9.trans (hb10'.mono hb9.size)
    clear hb10' hb9
    go_wp2_with fail
    refine (implParts_any kk _).mono ?_
    rintro e w11 ⟨lv, rfl, ol, hb11'⟩
    have hb11 := hb10.trans (hb11'.mono hb10.size)
    have hll := parts_len kk
    have hl10 := hb10.size
    clear hb11' hb10
    have OL := Lib.hid ol
    obtain ⟨al, capl, rfl, -⟩ := ol.read
    clear ol
    go_wp2_with fail
    go_loopw [15] (fun iv wr => ∃ j : Nat, iv = .int .i64 ((j : Int) + 1) ∧ (j + 1 ≤ (parts kk).length ∨ j = 0) ∧ Hid (OwnI wr w10.heap.size (.slice al (parts kk).length capl) (parts kk)) ∧ Below w.heap.size w wr) (fun iv _ => ((parts kk).length + 1 - intOf iv).toNat)
    case atStart => exact ⟨0, rfl, .inr rfl, OL, hb11⟩
    case round =>
      obtain ⟨j, rfl, hj, ol, hb⟩ := hrel
      by_cases hlt : j + 1 < (parts kk).length
      · have hol := ol.out
        have hasc := parts_asc (n := kk) (i := j + 1) (by omega) hlt
        unfold asc at hasc
        rw [getD_at _ _ (show j + 1 - 1 < (parts kk).length by omega), getD_at _ _ hlt] at hasc
        have hc1 : ∀ al capl, OwnI wr w10.heap.size (.slice al (parts kk).length capl) (parts kk) → ∃ g, al = some ⟨g, 0, none⟩ ∧ wr.cell? ⟨g, j + 1, none⟩ = some (.int .i64 (parts kk)[j + 1]) ∧ wr.cell? ⟨g, j, none⟩ = some (.int .i64 (parts kk)[j]) := by
          intro al capl ho
          rcases ho.shape with ⟨e, h0⟩ | ⟨g, cap', e, -, -, -⟩
          · rw [h0] at hlt; simp at hlt
          · simp at e
            obtain ⟨rfl, rfl⟩ := e
            exact ⟨g, rfl, ho.cell _ _, ho.cell _ _⟩
        obtain ⟨g, rfl, hy1, hy0⟩ := hc1 _ _ hol
        have OL2 := Lib.hid hol
        clear hc1 hol ol OL hb11
        obtain ⟨va, hva⟩ : ∃ va, va = (parts kk)[j] := ⟨_, rfl⟩
        obtain ⟨vb, hvb⟩ : ∃ vb, vb = (parts kk)[j + 1] := ⟨_, rfl⟩
        simp only [Nat.add_sub_cancel] at hasc
        rw [← hva, ← hvb] at hasc
        rw [← hva] at hy0
        rw [← hvb] at hy1
        clear hva hvb
        obtain ⟨k, hk⟩ : ∃ k : Nat, k = j + 1 := ⟨_, rfl⟩
        have HK := Lib.hid hk
        rw [show (j : Int) + 1 = (k : Int) by omega]
        rw [← hk] at hy1 hlt
        have hB := hb.size
        have hw : IntKind.i64.wrap ((k : Int) - 1) = (j : Int) := by rw [IntKind.wrap_i64]; omega
        have z0' : (0 : Int) ≤ (j : Int) := by omega
        have z1' : (j : Int) < ((parts kk).length : Int) := by omega
        have z2' : (0 : Int) ≤ (k : Int) := by omega
        have z3' : (k : Int) < ((parts kk).length : Int) := by omega
        clear hk hj
        by_cases hcs : cnt va < cnt vb
        · have hcsI : (cnt va : Int) < (cnt vb : Int) := by omega
          obtain ⟨ca, hca⟩ : ∃ ca : Int, (cnt va : Int) = ca := ⟨_, rfl⟩
          obtain ⟨cb, hcb⟩ : ∃ cb : Int, (cnt vb : Int) = cb := ⟨_, rfl⟩
          rw [hca, hcb] at hcsI
          have HCA := Lib.hid hca
          have HCB := Lib.hid hcb
          have d1 : decide (cb < ca) = false := by simp; omega
          have d2 : (cb == ca) = false := by simp; omega
          clear hasc hca hcb hcs hcsI
          have HS : Hid (Below wr.heap.size wr wr) := Lib.hid (Below.refl _ _)
          go_wp2_with fail
          refine wp_region_noPanic ?_
          refine wp_region_held_drew (S := (fun w' => w'.cell? ⟨g, k, none⟩ = some (.int .i64 vb) ∧ w'.cell? ⟨g, j, none⟩ = some (.int .i64 va) ∧ Below wr.heap.size wr w')) (by kernel_rfl) ?_ (fun hHeld => ?_)
          · ((try dsimp only); (first | assumption | exact ⟨hy1, hy0, HS.out.drew⟩ | (refine ⟨?_, ?_, ?_⟩ <;> (first | assumption | exact HS.out.drew | (go_keep; done)))))
          refine wpAnyH_take (i := 0) (v := ?_) rfl (by kernel_rfl) (by kernel_rfl) (by kernel_rfl) (fun _ _ _ h => h) (Or.inl ⟨by rfl, ?_⟩) (by assumption) ?_
          rotate_left
          · (intro w hSw; (try dsimp only at hSw); go_simp; (try with_reducible rfl))
          (try simp only [Act.put, List.getElem_toArray, List.getElem_cons_zero, List.setIfInBounds_toArray, List.set_cons_zero, List.set_cons_succ])
          refine wpAnyH_take (i := 1) (v := ?_) rfl (by kernel_rfl) (by kernel_rfl) (by kernel_rfl) (fun _ _ _ h => h) (Or.inl ⟨by rfl, ?_⟩) (by assumption) ?_
          rotate_left
          · (intro w hSw; (try dsimp only at hSw); go_simp; (try with_reducible rfl))
          (try simp only [Act.put, List.getElem_toArray, List.getElem_cons_succ, List.getElem_cons_zero, List.setIfInBounds_toArray, List.set_cons_zero, List.set_cons_succ])
          refine wpAnyH_take (i := 2) (v := ?_) rfl (by kernel_rfl) (by kernel_rfl) (by kernel_rfl) (fun _ _ _ h => h) (Or.inl ⟨by rfl, ?_⟩) (by assumption) ?_
          rotate_left
          · (intro w hSw; (try dsimp only at hSw); go_simp; (try with_reducible rfl))
          (try simp only [Act.put, List.getElem_toArray, List.getElem_cons_succ, List.getElem_cons_zero, List.setIfInBounds_toArray, List.set_cons_zero, List.set_cons_succ])
          refine wpAnyH_take (i := 3) (v := ?_) rfl (by kernel_rfl) (by kernel_rfl) (by kernel_rfl) (fun _ _ _ h => h) (Or.inl ⟨by rfl, ?_⟩) (by assumption) ?_
          rotate_left
          · (intro w hSw; (try dsimp only at hSw); go_simp; (try with_reducible rfl))
          (try simp only [Act.put, List.getElem_toArray, List.getElem_cons_succ, List.getElem_cons_zero, List.setIfInBounds_toArray, List.set_cons_zero, List.set_cons_succ])
          refine wpAnyH_take (i := 5) (v := ?_) rfl (by kernel_rfl) (by kernel_rfl) (by kernel_rfl) (fun _ _ _ h => h) (Or.inl ⟨by rfl, ?_⟩) (by assumption) ?_
          rotate_left
          · (intro w hSw; (try dsimp only at hSw); go_simp; (try with_reducible rfl))
          (try simp only [Act.put, List.getElem_toArray, List.getElem_cons_succ, List.getElem_cons_zero, List.setIfInBounds_toArray, List.set_cons_zero, List.set_cons_succ])
          refine wpAnyH_take (i := 6) (v := ?_) rfl (by kernel_rfl) (by kernel_rfl) (by kernel_rfl) (fun _ _ _ h => h) (Or.inl ⟨by rfl, ?_⟩) (by assumption) ?_
          rotate_left
          · (intro w hSw; (try dsimp only at hSw); go_simp; (try with_reducible rfl))
          (try simp only [Act.put, List.getElem_toArray, List.getElem_cons_succ, List.getElem_cons_zero, List.setIfInBounds_toArray, List.set_cons_zero, List.set_cons_succ])
          refine wpAnyH_take (i := 7) (v := ?_) rfl (by kernel_rfl) (by kernel_rfl) (by kernel_rfl) (fun _ _ _ h => h) (Or.inl ⟨by rfl, ?_⟩) (by assumption) ?_
          rotate_left
          · (intro w hSw; (try dsimp only at hSw); go_simp; (try with_reducible rfl))
          (try simp only [Act.put, List.getElem_toArray, List.getElem_cons_succ, List.getElem_cons_zero, List.setIfInBounds_toArray, List.set_cons_zero, List.set_cons_succ])
          refine wpAnyH_take (i := 8) (v := ?_) rfl (by kernel_rfl) (by kernel_rfl) (by kernel_rfl) (fun _ _ _ h => h) (Or.inl ⟨by rfl, ?_⟩) (by assumption) ?_
          rotate_left
          · (intro w hSw; (try dsimp only at hSw); go_simp; (try with_reducible rfl))
          (try simp only [Act.put, List.getElem_toArray, List.getElem_cons_succ, List.getElem_cons_zero, List.setIfInBounds_toArray, List.set_cons_zero, List.set_cons_succ])
          refine wpAnyH_take (i := 9) (v := ?_) rfl (by kernel_rfl) (by kernel_rfl) (by kernel_rfl) (fun _ _ _ h => h) (Or.inl ⟨by rfl, ?_⟩) (by assumption) ?_
          rotate_left
          · (intro w hSw; (try dsimp only at hSw); go_simp; (try with_reducible rfl))
          (try simp only [Act.put, List.getElem_toArray, List.getElem_cons_succ, List.getElem_cons_zero, List.setIfInBounds_toArray, List.set_cons_zero, List.set_cons_succ])
          refine wpAnyH_ready (rs := [4]) (by kernel_rfl) (by simp) (AllReadyH.cons rfl (fun K hK => ?_) AllReadyH.nil)
          (first | ((first | (go_at_call 25; refine (cntKeep wr wr.heap.size ⟨g, k, none⟩ ⟨g, j, none⟩ (.int .i64 vb) (.int .i64 va) va ca HCA.out _ (by assumption) (Nat.le_refl _)).mono ?_; rintro e w' ⟨rfl, hS⟩) | (go_at_call 25; refine (cntKeep wr wr.heap.size ⟨g, k, none⟩ ⟨g, j, none⟩ (.int .i64 vb) (.int .i64 va) vb cb HCB.out _ (by assumption) (Nat.le_refl _)).mono ?_; rintro e w' ⟨rfl, hS⟩))) | (go_simp; (first | (go_at_call 25; refine (cntKeep wr wr.heap.size ⟨g, k, none⟩ ⟨g, j, none⟩ (.int .i64 vb) (.int .i64 va) va ca HCA.out _ (by assumption) (Nat.le_refl _)).mono ?_; rintro e w' ⟨rfl, hS⟩) | (go_at_call 25; refine (cntKeep wr wr.heap.size ⟨g, k, none⟩ ⟨g, j, none⟩ (.int .i64 vb) (.int .i64 va) vb cb HCB.out _ (by assumption) (Nat.le_refl _)).mono ?_; rintro e w' ⟨rfl, hS⟩))))
          (try (go_wp2_with fail))
          refine hK.out _ _ ?_ (fun hHeld => ?_)
          · ((try dsimp only); (first | assumption | exact ⟨hy1, hy0, HS.out.drew⟩ | (refine ⟨?_, ?_, ?_⟩ <;> (first | assumption | exact HS.out.drew | (go_keep; done)))))
          clear hK K
          (try simp only [Act.put, List.getElem_toArray, List.getElem_cons_succ, List.getElem_cons_zero, List.setIfInBounds_toArray, List.set_cons_zero, List.set_cons_succ])
          refine wpAnyH_ready (rs := [10]) (by kernel_rfl) (by simp) (AllReadyH.cons rfl (fun K hK => ?_) AllReadyH.nil)
          (first | ((first | (go_at_call 25; refine (cntKeep wr wr.heap.size ⟨g, k, none⟩ ⟨g, j, none⟩ (.int .i64 vb) (.int .i64 va) va ca HCA.out _ (by assumption) (Nat.le_refl _)).mono ?_; rintro e w' ⟨rfl, hS⟩) | (go_at_call 25; refine (cntKeep wr wr.heap.size ⟨g, k, none⟩ ⟨g, j, none⟩ (.int .i64 vb) (.int .i64 va) vb cb HCB.out _ (by assumption) (Nat.le_refl _)).mono ?_; rintro e w' ⟨rfl, hS⟩))) | (go_simp; (first | (go_at_call 25; refine (cntKeep wr wr.heap.size ⟨g, k, none⟩ ⟨g, j, none⟩ (.int .i64 vb) (.int .i64 va) va ca HCA.out _ (by assumption) (Nat.le_refl _)).mono ?_; rintro e w' ⟨rfl, hS⟩) | (go_at_call 25; refine (cntKeep wr wr.heap.size ⟨g, k, none⟩ ⟨g, j, none⟩ (.int .i64 vb) (.int .i64 va) vb cb HCB.out _ (by assumption) (Nat.le_refl _)).mono ?_; rintro e w' ⟨rfl, hS⟩))))
          (try (go_wp2_with fail))
          refine hK.out _ _ ?_ (fun hHeld => ?_)
          · ((try dsimp only); (first | assumption | exact ⟨hy1, hy0, HS.out.drew⟩ | (refine ⟨?_, ?_, ?_⟩ <;> (first | assumption | exact HS.out.drew | (go_keep; done)))))
          clear hK K
          (try simp only [Act.put, List.getElem_toArray, List.getElem_cons_succ, List.getElem_cons_zero, List.setIfInBounds_toArray, List.set_cons_zero, List.set_cons_succ])
          refine wpAnyH_take (i := 11) (v := ?_) rfl (by kernel_rfl) (by kernel_rfl) (by kernel_rfl) (fun _ _ _ h => h) (Or.inl ⟨by rfl, ?_⟩) (by assumption) ?_
          rotate_left
          · (intro w hSw; (try dsimp only at hSw); go_simp; (try with_reducible rfl))
          (try simp only [Act.put, List.getElem_toArray, List.getElem_cons_succ, List.getElem_cons_zero, List.setIfInBounds_toArray, List.set_cons_zero, List.set_cons_succ])
          refine wpAnyH_take (i := 12) (v := ?_) rfl (by kernel_rfl) (by kernel_rfl) (by kernel_rfl) (fun _ _ _ h => h) (Or.inl ⟨by rfl, ?_⟩) (by assumption) ?_
          rotate_left
          · (intro w hSw; (try dsimp only at hSw); go_simp; (try with_reducible rfl))
          (try simp only [Act.put, List.getElem_toArray, List.getElem_cons_succ, List.getElem_cons_zero, List.setIfInBounds_toArray, List.set_cons_zero, List.set_cons_succ])
          refine wpAnyH_take (i := 13) (v := ?_) rfl (by kernel_rfl) (by kernel_rfl) (by kernel_rfl) (fun _ _ _ h => h) (Or.inl ⟨by rfl, ?_⟩) (by assumption) ?_
          rotate_left
          · (intro w hSw; (try dsimp only at hSw); go_simp; (try with_reducible rfl))
          (try simp only [Act.put, List.getElem_toArray, List.getElem_cons_succ, List.getElem_cons_zero, List.setIfInBounds_toArray, List.set_cons_zero, List.set_cons_succ])
          refine wpAnyH_take (i := 14) (v := ?_) rfl (by kernel_rfl) (by kernel_rfl) (by kernel_rfl) (fun _ _ _ h => h) (Or.inl ⟨by rfl, ?_⟩) (by assumption) ?_
          rotate_left
          · (intro w hSw; (try dsimp only at hSw); go_simp; (try with_reducible rfl))
          (try simp only [Act.put, List.getElem_toArray, List.getElem_cons_succ, List.getElem_cons_zero, List.setIfInBounds_toArray, List.set_cons_zero, List.set_cons_succ])
          refine wpAnyH_take (i := 15) (v := ?_) rfl (by kernel_rfl) (by kernel_rfl) (by kernel_rfl) (fun _ _ _ h => h) (Or.inl ⟨by rfl, ?_⟩) (by assumption) ?_
          rotate_left
          · (intro w hSw; (try dsimp only at hSw); go_simp; (try with_reducible rfl))
          (try simp only [Act.put, List.getElem_toArray, List.getElem_cons_succ, List.getElem_cons_zero, List.setIfInBounds_toArray, List.set_cons_zero, List.set_cons_succ])
          refine wpAnyH_take (i := 16) (v := ?_) rfl (by kernel_rfl) (by kernel_rfl) (by kernel_rfl) (fun _ _ _ h => h) (Or.inl ⟨by rfl, ?_⟩) (by assumption) ?_
          rotate_left
          · (intro w hSw; (try dsimp only at hSw); go_simp; (try with_reducible rfl))
          (try simp only [Act.put, List.getElem_toArray, List.getElem_cons_succ, List.getElem_cons_zero, List.setIfInBounds_toArray, List.set_cons_zero, List.set_cons_succ])
          refine wpAnyH_take (i := 18) (v := ?_) rfl (by kernel_rfl) (by kernel_rfl) (by kernel_rfl) (fun _ _ _ h => h) (Or.inl ⟨by rfl, ?_⟩) (by assumption) ?_
          rotate_left
          · (intro w hSw; (try dsimp only at hSw); go_simp; (try with_reducible rfl))
          (try simp only [Act.put, List.getElem_toArray, List.getElem_cons_succ, List.getElem_cons_zero, List.setIfInBounds_toArray, List.set_cons_zero, List.set_cons_succ])
          refine wpAnyH_take (i := 19) (v := ?_) rfl (by kernel_rfl) (by kernel_rfl) (by kernel_rfl) (fun _ _ _ h => h) (Or.inl ⟨by rfl, ?_⟩) (by assumption) ?_
          rotate_left
          · (intro w hSw; (try dsimp only at hSw); go_simp; (try with_reducible rfl))
          (try simp only [Act.put, List.getElem_toArray, List.getElem_cons_succ, List.getElem_cons_zero, List.setIfInBounds_toArray, List.set_cons_zero, List.set_cons_succ])
          refine wpAnyH_take (i := 20) (v := ?_) rfl (by kernel_rfl) (by kernel_rfl) (by kernel_rfl) (fun _ _ _ h => h) (Or.inl ⟨by rfl, ?_⟩) (by assumption) ?_
          rotate_left
          · (intro w hSw; (try dsimp only at hSw); go_simp; (try with_reducible rfl))
          (try simp only [Act.put, List.getElem_toArray, List.getElem_cons_succ, List.getElem_cons_zero, List.setIfInBounds_toArray, List.set_cons_zero, List.set_cons_succ])
          refine wpAnyH_take (i := 21) (v := ?_) rfl (by kernel_rfl) (by kernel_rfl) (by kernel_rfl) (fun _ _ _ h => h) (Or.inl ⟨by rfl, ?_⟩) (by assumption) ?_
          rotate_left
          · (intro w hSw; (try dsimp only at hSw); go_simp; (try with_reducible rfl))
          (try simp only [Act.put, List.getElem_toArray, List.getElem_cons_succ, List.getElem_cons_zero, List.setIfInBounds_toArray, List.set_cons_zero, List.set_cons_succ])
          refine wpAnyH_take (i := 22) (v := ?_) rfl (by kernel_rfl) (by kernel_rfl) (by kernel_rfl) (fun _ _ _ h => h) (Or.inl ⟨by rfl, ?_⟩) (by assumption) ?_
          rotate_left
          · (intro w hSw; (try dsimp only at hSw); go_simp; (try with_reducible rfl))
          (try simp only [Act.put, List.getElem_toArray, List.getElem_cons_succ, List.getElem_cons_zero, List.setIfInBounds_toArray, List.set_cons_zero, List.set_cons_succ])
          refine wpAnyH_ready (rs := [17]) (by kernel_rfl) (by simp) (AllReadyH.cons rfl (fun K hK => ?_) AllReadyH.nil)
          (first | ((first | (go_at_call 25; refine (cntKeep wr wr.heap.size ⟨g, k, none⟩ ⟨g, j, none⟩ (.int .i64 vb) (.int .i64 va) va ca HCA.out _ (by assumption) (Nat.le_refl _)).mono ?_; rintro e w' ⟨rfl, hS⟩) | (go_at_call 25; refine (cntKeep wr wr.heap.size ⟨g, k, none⟩ ⟨g, j, none⟩ (.int .i64 vb) (.int .i64 va) vb cb HCB.out _ (by assumption) (Nat.le_refl _)).mono ?_; rintro e w' ⟨rfl, hS⟩))) | (go_simp; (first | (go_at_call 25; refine (cntKeep wr wr.heap.size ⟨g, k, none⟩ ⟨g, j, none⟩ (.int .i64 vb) (.int .i64 va) va ca HCA.out _ (by assumption) (Nat.le_refl _)).mono ?_; rintro e w' ⟨rfl, hS⟩) | (go_at_call 25; refine (cntKeep wr wr.heap.size ⟨g, k, none⟩ ⟨g, j, none⟩ (.int .i64 vb) (.int .i64 va) vb cb HCB.out _ (by assumption) (Nat.le_refl _)).mono ?_; rintro e w' ⟨rfl, hS⟩))))
          (try (go_wp2_with fail))
          refine hK.out _ _ ?_ (fun hHeld => ?_)
          · ((try dsimp only); (first | assumption | exact ⟨hy1, hy0, HS.out.drew⟩ | (refine ⟨?_, ?_, ?_⟩ <;> (first | assumption | exact HS.out.drew | (go_keep; done)))))
          clear hK K
          (try simp only [Act.put, List.getElem_toArray, List.getElem_cons_succ, List.getElem_cons_zero, List.setIfInBounds_toArray, List.set_cons_zero, List.set_cons_succ])
          refine wpAnyH_ready (rs := [23]) (by kernel_rfl) (by simp) (AllReadyH.cons rfl (fun K hK => ?_) AllReadyH.nil)
          (first | ((first | (go_at_call 25; refine (cntKeep wr wr.heap.size ⟨g, k, none⟩ ⟨g, j, none⟩ (.int .i64 vb) (.int .i64 va) va ca HCA.out _ (by assumption) (Nat.le_refl _)).mono ?_; rintro e w' ⟨rfl, hS⟩) | (go_at_call 25; refine (cntKeep wr wr.heap.size ⟨g, k, none⟩ ⟨g, j, none⟩ (.int .i64 vb) (.int .i64 va) vb cb HCB.out _ (by assumption) (Nat.le_refl _)).mono ?_; rintro e w' ⟨rfl, hS⟩))) | (go_simp; (first | (go_at_call 25; refine (cntKeep wr wr.heap.size ⟨g, k, none⟩ ⟨g, j, none⟩ (.int .i64 vb) (.int .i64 va) va ca HCA.out _ (by assumption) (Nat.le_refl _)).mono ?_; rintro e w' ⟨rfl, hS⟩) | (go_at_call 25; refine (cntKeep wr wr.heap.size ⟨g, k, none⟩ ⟨g, j, none⟩ (.int .i64 vb) (.int .i64 va) vb cb HCB.out _ (by assumption) (Nat.le_refl _)).mono ?_; rintro e w' ⟨rfl, hS⟩))))
          (try (go_wp2_with fail))
          refine hK.out _ _ ?_ (fun hHeld => ?_)
          · ((try dsimp only); (first | assumption | exact ⟨hy1, hy0, HS.out.drew⟩ | (refine ⟨?_, ?_, ?_⟩ <;> (first | assumption | exact HS.out.drew | (go_keep; done)))))
          clear hK K
          (try simp only [Act.put, List.getElem_toArray, List.getElem_cons_succ, List.getElem_cons_zero, List.setIfInBounds_toArray, List.set_cons_zero, List.set_cons_succ])
          refine wpAnyH_take (i := 24) (v := ?_) rfl (by kernel_rfl) (by kernel_rfl) (by kernel_rfl) (fun _ _ _ h => h) (Or.inl ⟨by rfl, ?_⟩) (by assumption) ?_
          rotate_left
          · (intro w hSw; (try dsimp only at hSw); go_simp; (try with_reducible rfl))
          (try simp only [Act.put, List.getElem_toArray, List.getElem_cons_succ, List.getElem_cons_zero, List.setIfInBounds_toArray, List.set_cons_zero, List.set_cons_succ])
          refine wpAnyH_take (i := 25) (v := ?_) rfl (by kernel_rfl) (by kernel_rfl) (by kernel_rfl) (fun _ _ _ h => h) (Or.inl ⟨by rfl, ?_⟩) (by assumption) ?_
          rotate_left
          · (intro w hSw; (try dsimp only at hSw); go_simp; (try with_reducible rfl))
          (try simp only [Act.put, List.getElem_toArray, List.getElem_cons_succ, List.getElem_cons_zero, List.setIfInBounds_toArray, List.set_cons_zero, List.set_cons_succ])
          refine wpAnyH_take (i := 26) (v := undef) rfl (by kernel_rfl) (by kernel_rfl) (by kernel_rfl) (fun _ _ _ h => h) (Or.inr ⟨by rfl, rfl⟩) (by assumption) ?_
          (try simp only [Act.put, List.getElem_toArray, List.getElem_cons_succ, List.getElem_cons_zero, List.setIfInBounds_toArray, List.set_cons_zero, List.set_cons_succ])
          refine wpAnyH_take (i := 27) (v := undef) rfl (by kernel_rfl) (by kernel_rfl) (by kernel_rfl) (fun _ _ _ h => h) (Or.inr ⟨by rfl, rfl⟩) (by assumption) ?_
          (try simp only [Act.put, List.getElem_toArray, List.getElem_cons_succ, List.getElem_cons_zero, List.setIfInBounds_toArray, List.set_cons_zero, List.set_cons_succ])
          refine wpAnyH_take (i := 28) (v := undef) rfl (by kernel_rfl) (by kernel_rfl) (by kernel_rfl) (fun _ _ _ h => h) (Or.inr ⟨by rfl, rfl⟩) (by assumption) ?_
          (try simp only [Act.put, List.getElem_toArray, List.getElem_cons_succ, List.getElem_cons_zero, List.setIfInBounds_toArray, List.set_cons_zero, List.set_cons_succ])
          refine wpAnyH_take (i := 29) (v := undef) rfl (by kernel_rfl) (by kernel_rfl) (by kernel_rfl) (fun _ _ _ h => h) (Or.inr ⟨by rfl, rfl⟩) (by assumption) ?_
          (try simp only [Act.put, List.getElem_toArray, List.getElem_cons_succ, List.getElem_cons_zero, List.setIfInBounds_toArray, List.set_cons_zero, List.set_cons_succ])
          refine wpAnyH_take (i := 30) (v := undef) rfl (by kernel_rfl) (by kernel_rfl) (by kernel_rfl) (fun _ _ _ h => h) (Or.inr ⟨by rfl, rfl⟩) (by assumption) ?_
          (try simp only [Act.put, List.getElem_toArray, List.getElem_cons_succ, List.getElem_cons_zero, List.setIfInBounds_toArray, List.set_cons_zero, List.set_cons_succ])
          refine wpAnyH_take (i := 31) (v := undef) rfl (by kernel_rfl) (by kernel_rfl) (by kernel_rfl) (fun _ _ _ h => h) (Or.inr ⟨by rfl, rfl⟩) (by assumption) ?_
          (try simp only [Act.put, List.getElem_toArray, List.getElem_cons_succ, List.getElem_cons_zero, List.setIfInBounds_toArray, List.set_cons_zero, List.set_cons_succ])
          refine wpAnyH_take (i := 32) (v := undef) rfl (by kernel_rfl) (by kernel_rfl) (by kernel_rfl) (fun _ _ _ h => h) (Or.inr ⟨by rfl, rfl⟩) (by assumption) ?_
          (try simp only [Act.put, List.getElem_toArray, List.getElem_cons_succ, List.getElem_cons_zero, List.setIfInBounds_toArray, List.set_cons_zero, List.set_cons_succ])
          refine wpAnyH_take (i := 33) (v := undef) rfl (by kernel_rfl) (by kernel_rfl) (by kernel_rfl) (fun _ _ _ h => h) (Or.inr ⟨by rfl, rfl⟩) (by assumption) ?_
          (try simp only [Act.put, List.getElem_toArray, List.getElem_cons_succ, List.getElem_cons_zero, List.setIfInBounds_toArray, List.set_cons_zero, List.set_cons_succ])
          refine wpAnyH_take (i := 34) (v := undef) rfl (by kernel_rfl) (by kernel_rfl) (by kernel_rfl) (fun _ _ _ h => h) (Or.inr ⟨by rfl, rfl⟩) (by assumption) ?_
          (try simp only [Act.put, List.getElem_toArray, List.getElem_cons_succ, List.getElem_cons_zero, List.setIfInBounds_toArray, List.set_cons_zero, List.set_cons_succ])
          refine wpAnyH_take (i := 35) (v := undef) rfl (by kernel_rfl) (by kernel_rfl) (by kernel_rfl) (fun _ _ _ h => h) (Or.inr ⟨by rfl, rfl⟩) (by assumption) ?_
          (try simp only [Act.put, List.getElem_toArray, List.getElem_cons_succ, List.getElem_cons_zero, List.setIfInBounds_toArray, List.set_cons_zero, List.set_cons_succ])
          refine wpAnyH_take (i := 36) (v := ?_) rfl (by kernel_rfl) (by kernel_rfl) (by kernel_rfl) (fun _ _ _ h => h) (Or.inl ⟨by rfl, ?_⟩) (by assumption) ?_
          rotate_left
          · (intro w hSw; (try dsimp only at hSw); go_simp; (try with_reducible rfl))
          (try simp only [Act.put, List.getElem_toArray, List.getElem_cons_succ, List.getElem_cons_zero, List.setIfInBounds_toArray, List.set_cons_zero, List.set_cons_succ])
          refine wpAnyH_take (i := 37) (v := ?_) rfl (by kernel_rfl) (by kernel_rfl) (by kernel_rfl) (fun _ _ _ h => h) (Or.inl ⟨by rfl, ?_⟩) (by assumption) ?_
          rotate_left
          · (intro w hSw; (try dsimp only at hSw); go_simp; (try with_reducible rfl))
          (try simp only [Act.put, List.getElem_toArray, List.getElem_cons_succ, List.getElem_cons_zero, List.setIfInBounds_toArray, List.set_cons_zero, List.set_cons_succ])
          refine wpAnyH_done (by kernel_rfl) ?_ _
          refine NoPanic.normal ?_
          go_wp2_with fail
          go_roundw
          case rel => exact ⟨k, by go_num, .inl (by omega), Lib.hid (OL2.out.kept hHeld.2.2 (fun q hq => (OwnI.lt OL2.out q hq).2)), hb.trans (hHeld.2.2.mono hB)⟩
          case measure => simp [intOf]; omega
        · have hcsI : (cnt vb : Int) = (cnt va : Int) ∧ va < vb := by
            simp at hasc; omega
          obtain ⟨ca, hca⟩ : ∃ ca : Int, (cnt va : Int) = ca := ⟨_, rfl⟩
          have hcb : (cnt vb : Int) = ca := by omega
          have HCA := Lib.hid hca
          have HCB := Lib.hid hcb
          have d1 : decide (ca < ca) = false := by simp
          have d2 : (ca == ca) = true := by simp
          have d3 : decide (vb ≤ va) = false := by simp; omega
          clear hasc hca hcb hcs hcsI
          have HS : Hid (Below wr.heap.size wr wr) := Lib.hid (Below.refl _ _)
          go_wp2_with fail
          go_region_held3 (fun w' => w'.cell? ⟨g, k, none⟩ = some (.int .i64 vb) ∧ w'.cell? ⟨g, j, none⟩ = some (.int .i64 va) ∧ Below wr.heap.size wr w') (first | assumption | exact HS.out.drew | (refine ⟨?_, ?_, ?_⟩ <;> (first | assumption | exact HS.out.drew | (go_keep; done))) | go_keep)
            (first | (go_at_call 25; refine (cntKeep wr wr.heap.size ⟨g, k, none⟩ ⟨g, j, none⟩ (.int .i64 vb) (.int .i64 va) va ca HCA.out _ ?_ (Nat.le_refl _)).mono ?_; (first | assumption | exact ⟨by assumption, by assumption, by assumption⟩); rintro e w' ⟨rfl, hS⟩) | (go_at_call 25; refine (cntKeep wr wr.heap.size ⟨g, k, none⟩ ⟨g, j, none⟩ (.int .i64 vb) (.int .i64 va) vb ca HCB.out _ ?_ (Nat.le_refl _)).mono ?_; (first | assumption | exact ⟨by assumption, by assumption, by assumption⟩); rintro e w' ⟨rfl, hS⟩))
          go_wp2_with fail
          go_roundw
          case rel => exact ⟨k, by go_num, .inl (by omega), Lib.hid (OL2.out.kept hS.2.2 (fun q hq => (OwnI.lt OL2.out q hq).2)), hb.trans (hS.2.2.mono hB)⟩
          case measure => simp [intOf]; omega
      · have hpl := parts_lens k0 k1
        obtain ⟨L, hL⟩ : ∃ L : Nat, (parts kk).length = L := ⟨_, rfl⟩
        rw [hL] at hpl hlt ⊢
        clear ol OL hL hll hj
        have hlt' : decide ((j : Int) + 1 < (L : Int)) = false := by simp; omega
        rcases hpl with ⟨rfl, rfl⟩ | ⟨rfl, rfl⟩ | ⟨rfl, rfl⟩ | ⟨rfl, rfl⟩ | ⟨rfl, rfl⟩ | ⟨rfl, rfl⟩ | ⟨rfl, rfl⟩ | ⟨rfl, rfl⟩
        all_goals
          go_wp2_with fail
          go_ret
          exact ⟨rfl, hb⟩
end Go.Proofs.Ytmlinjmjcfgijaa
