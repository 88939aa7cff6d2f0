/- FnDeps, the walk. Conditions: the code is a readable slice of at most 1048576 bytes. -/
import Derived.Test.YtfndnaldgaaieaaSh33
import Derived.Deep.RegionLaw
import Derived.Deep.AppendLies
namespace Go.Proofs.Ytfndnaldgaaieaa
open Go.RowKit

set_option maxRecDepth 100000 in
set_option maxHeartbeats 3200000 in
theorem law_walk (v : Value) (n : Nat) (w : World) (hcode : CodeAt w v n) (hn : n ≤ 1048576) :
    Calls Try.prog 3 #[v] w fun e w' => e = .returned (.bool true) ∧ Below w.heap.size w w' := by
  have HBIG := Lib.hid (big_any v n (code_slice hcode))
  have HD1 := Lib.hid (drawRowsToRemove_any w v n hn hcode)
  have HD2 := Lib.hid (drawParseDep_any w v n hn hcode)
  have hbig : decide (1048576 < (n : Int)) = false := by simp; omega
  obtain ⟨a, cap, rfl⟩ := code_slice hcode
  go_enter Try.func3, Try.ntmps3
  go_wp2_with fail
  refine (HBIG.out _).mono ?_
  rintro e w' ⟨rfl, rfl⟩
  go_wp2_with fail
  refine (HD1.out _ (Below.refl _ _)).mono ?_
  rintro e w1 ⟨cc, u, ll, md, x, y, md0, md1, x0, x1, y0, y1, rfl, hll, hlr, oss, hb⟩
  have HR := Lib.hid (rows_few6 hlr)
  have HL := Lib.hid hll
  obtain ⟨au, capu, rfl, -⟩ := oss.read
  have tb := TD.mk' (c := cc) (x := x) (y := y) oss.read
  have hb2 := hb.trans ((((Below.refl _ w1).alloc (Nat.le_refl _) (.cells #[.int .i64 cc, .slice au ll.length capu] 26)).alloc (by simp) (.cells #[.int .i64 x, .int .i64 y] 28)).mono hb.size)
  clear oss hlr hll hb
  obtain ⟨⟨c0, c1⟩, d0, d1⟩ := tb.all
  go_wp2_with fail
  obtain ⟨T, hTT⟩ : ∃ T, T = w1.heap.size := ⟨_, rfl⟩
  obtain ⟨w2, hw2⟩ : ∃ w2, w2 = (w1.alloc (.cells #[.int .i64 cc, .slice au ll.length capu] 26)).alloc (.cells #[.int .i64 x, .int .i64 y] 28) := ⟨_, rfl⟩
  rw [← hw2] at tb hb2 ⊢
  rw [← hTT] at tb ⊢
  clear hw2 hTT c0 c1 d0 d1
  have hl1 : ll.length ≤ 1048576 := by have := HL.out; omega
  have hr1 : ∀ i, i < ll.length → (ll.getD i []).length ≤ 1048576 := fun i hi => Nat.le_trans (HR.out i hi) (by omega)
  have mdw : (Lit.int .i64 md).wf = true := WalkArith.wf_i64 (by omega)
  have xw : (Lit.int .i64 x).wf = true := WalkArith.wf_i64 (by omega)
  have yw : (Lit.int .i64 y).wf = true := WalkArith.wf_i64 (by omega)
  obtain ⟨H, hH⟩ : ∃ H, H = holdsD cc ll md x y := ⟨_, rfl⟩
  obtain ⟨RM, hRM⟩ : ∃ RM, RM = remD cc ll md x y := ⟨_, rfl⟩
  obtain ⟨wi, hwi⟩ : ∃ wi, wi = witI cc ll md x y := ⟨_, rfl⟩
  obtain ⟨wk, hwk⟩ : ∃ wk, wk = witK cc ll md x y := ⟨_, rfl⟩
  obtain ⟨wb, hwb⟩ : ∃ wb, wb = witB cc ll md x y := ⟨_, rfl⟩
  obtain ⟨FD, hFD⟩ : ∃ FD, FD = fmtD x y := ⟨_, rfl⟩
  obtain ⟨ID, hID⟩ : ∃ ID, ID = depB cc x y := ⟨_, rfl⟩
  have HP := plain cc ll md x y
  rw [← hH, ← hRM, ← hwb] at HP
  have HP := Lib.hid HP
  have HH1 : Hid (∀ w', ReadSS w' (.slice au ll.length capu) ll → Calls Try.prog 6 #[.agg #[.int .i64 cc, .slice au ll.length capu], .int .i64 md, .agg #[.int .i64 x, .int .i64 y]] w' fun e w'' => e = .returned (.bool H) ∧ Below w'.heap.size w' w'') :=
    Lib.hid (fun w' hr => by rw [hH]; exact implHoldsDep_any cc md x y _ ll mdw xw yw w' hr hl1 hr1)
  have HH2 : Hid (∀ w', ReadSS w' (.slice au ll.length capu) ll → Calls Try.prog 10 #[.agg #[.int .i64 cc, .slice au ll.length capu], .int .i64 md, .agg #[.int .i64 x, .int .i64 y]] w' fun e w'' => e = .returned (.bool H) ∧ Below w'.heap.size w' w'') :=
    Lib.hid (fun w' hr => by rw [hH]; exact holdsDep_any cc md x y _ ll w' hr hl1 hr1)
  have HR1 : Hid (∀ w', ReadSS w' (.slice au ll.length capu) ll → Calls Try.prog 7 #[.agg #[.int .i64 cc, .slice au ll.length capu], .int .i64 md, .agg #[.int .i64 x, .int .i64 y]] w' fun e w'' => e = .returned (.int .i64 RM) ∧ Below w'.heap.size w' w'') :=
    Lib.hid (fun w' hr => by rw [hRM]; exact implRowsToRemove_any cc md x y _ ll mdw xw yw w' hr hl1 hr1)
  have HR2 : Hid (∀ w', ReadSS w' (.slice au ll.length capu) ll → Calls Try.prog 11 #[.agg #[.int .i64 cc, .slice au ll.length capu], .int .i64 md, .agg #[.int .i64 x, .int .i64 y]] w' fun e w'' => e = .returned (.int .i64 RM) ∧ Below w'.heap.size w' w'') :=
    Lib.hid (fun w' hr => by rw [hRM]; exact rowsToRemove_any cc md x y _ ll w' hr hl1 hr1)
  have HW1 : Hid (∀ w', ReadSS w' (.slice au ll.length capu) ll → Calls Try.prog 8 #[.agg #[.int .i64 cc, .slice au ll.length capu], .int .i64 md, .agg #[.int .i64 x, .int .i64 y]] w' fun e w'' => e = .returned (.tuple #[.int .i64 wi, .int .i64 wk, .bool wb]) ∧ Below w'.heap.size w' w'') :=
    Lib.hid (fun w' hr => by rw [hwi, hwk, hwb]; exact implWitnessOf_any cc md x y _ ll mdw xw yw w' hr hl1 hr1)
  have HW2 : Hid (∀ w', ReadSS w' (.slice au ll.length capu) ll → Calls Try.prog 9 #[.agg #[.int .i64 cc, .slice au ll.length capu], .int .i64 md, .agg #[.int .i64 x, .int .i64 y]] w' fun e w'' => e = .returned (.tuple #[.int .i64 wi, .int .i64 wk, .bool wb]) ∧ Below w'.heap.size w' w'') :=
    Lib.hid (fun w' hr => by rw [hwi, hwk, hwb]; exact witnessOf_any cc md x y _ ll w' hr hl1 hr1)
  have HF1 : Hid (∀ w', Calls Try.prog 12 #[.agg #[.int .i64 x, .int .i64 y]] w' fun e w'' => e = .returned (.string FD) ∧ Below w'.heap.size w' w'') := Lib.hid (fun w' => by rw [hFD]; exact implFormatDep_any x y xw yw w')
  have HF2 : Hid (∀ w', Calls Try.prog 13 #[.agg #[.int .i64 x, .int .i64 y]] w' fun e w'' => e = .returned (.string FD) ∧ Below w'.heap.size w' w'') := Lib.hid (fun w' => by rw [hFD]; exact formatDep_any x y w')
  have HI2 : Hid (∀ w', Calls Try.prog 15 #[.int .i64 cc, .agg #[.int .i64 x, .int .i64 y]] w' fun e w'' => e = .returned (.bool ID) ∧ Below w'.heap.size w' w'') := Lib.hid (fun w' => by rw [hID]; exact isDep_any cc x y w')
  have HSUB : Hid (∀ ll' v' w', ReadSS w' v' ll' → ll'.length ≤ 1048576 → (∀ i, i < ll'.length → (ll'.getD i []).length ≤ 1048576) → Calls Try.prog 10 #[.agg #[.int .i64 cc, v'], .int .i64 md, .agg #[.int .i64 x, .int .i64 y]] w' fun e w'' => e = .returned (.bool (holdsD cc ll' md x y)) ∧ Below w'.heap.size w' w'') :=
    Lib.hid (fun ll' v' w' hr hl ht => holdsDep_any cc md x y v' ll' w' hr hl ht)
  have HI1 : Hid (∀ w', Calls Try.prog 14 #[.int .i64 cc, .agg #[.int .i64 x, .int .i64 y]] w' fun e w'' => e = .returned (.bool ID) ∧ Below w'.heap.size w' w'') := Lib.hid (fun w' => by rw [hID]; exact implIsDep_all cc x y xw w')
  clear hH hRM hwi hwk hwb hFD hID hl1 hr1 mdw
  refine (HH1.out _ tb.s).mono ?_
  rintro e w3 ⟨rfl, b3⟩
  have hb3 := hb2.trans (b3.mono hb2.size)
  replace tb := tb.kept b3
  clear hb2 b3
  obtain ⟨⟨c0, c1⟩, d0, d1⟩ := tb.all
  go_wp2_with fail
  refine (HR1.out _ tb.s).mono ?_
  rintro e w4 ⟨rfl, b4⟩
  have hb4 := hb3.trans (b4.mono hb3.size)
  replace tb := tb.kept b4
  clear hb3 b4 c0 c1 d0 d1
  obtain ⟨⟨c0, c1⟩, d0, d1⟩ := tb.all
  go_wp2_with fail
  refine (HW1.out _ tb.s).mono ?_
  rintro e w5 ⟨rfl, b5⟩
  have hb5 := hb4.trans (b5.mono hb4.size)
  replace tb := tb.kept b5
  clear hb4 b5 c0 c1 d0 d1
  obtain ⟨⟨c0, c1⟩, d0, d1⟩ := tb.all
  go_wp2_with fail
  refine (HW2.out _ tb.s).mono ?_
  rintro e w6 ⟨rfl, b6⟩
  have hb6 := hb5.trans (b6.mono hb5.size)
  replace tb := tb.kept b6
  clear hb5 b6 c0 c1 d0 d1
  obtain ⟨⟨c0, c1⟩, d0, d1⟩ := tb.all
  go_wp2_with fail
  have G1 : Hid (∀ p : Bel w6, Calls Try.prog 10 #[.agg #[.int .i64 cc, .slice au ll.length capu], .int .i64 md, .agg #[.int .i64 x, .int .i64 y]] p.x fun e w'' => e = .returned (.bool H) ∧ ∃ q : Bel w6, w'' = q.x) := Lib.hid (fun p => Calls.bel (HH2.out _ (tb.bel p).s))
  have G2 : Hid (∀ p : Bel w6, Calls Try.prog 11 #[.agg #[.int .i64 cc, .slice au ll.length capu], .int .i64 md, .agg #[.int .i64 x, .int .i64 y]] p.x fun e w'' => e = .returned (.int .i64 RM) ∧ ∃ q : Bel w6, w'' = q.x) := Lib.hid (fun p => Calls.bel (HR2.out _ (tb.bel p).s))
  have G3 : Hid (∀ p : Bel w6, Calls Try.prog 12 #[.agg #[.int .i64 x, .int .i64 y]] p.x fun e w'' => e = .returned (.string FD) ∧ ∃ q : Bel w6, w'' = q.x) := Lib.hid (fun p => Calls.bel (HF1.out p.x))
  have G4 : Hid (∀ p : Bel w6, Calls Try.prog 13 #[.agg #[.int .i64 x, .int .i64 y]] p.x fun e w'' => e = .returned (.string FD) ∧ ∃ q : Bel w6, w'' = q.x) := Lib.hid (fun p => Calls.bel (HF2.out p.x))
  have G5 : Hid (∀ p : Bel w6, Calls Try.prog 14 #[.int .i64 cc, .agg #[.int .i64 x, .int .i64 y]] p.x fun e w'' => e = .returned (.bool ID) ∧ ∃ q : Bel w6, w'' = q.x) := Lib.hid (fun p => Calls.bel (HI1.out p.x))
  have G6 : Hid (∀ p : Bel w6, Calls Try.prog 15 #[.int .i64 cc, .agg #[.int .i64 x, .int .i64 y]] p.x fun e w'' => e = .returned (.bool ID) ∧ ∃ q : Bel w6, w'' = q.x) := Lib.hid (fun p => Calls.bel (HI2.out p.x))
  have e0 : ∀ p : Bel w6, p.x.cell? ⟨T, 0, none⟩ = some (.int .i64 cc) := fun p => (tb.bel p).t.cells.1.1
  have e1 : ∀ p : Bel w6, p.x.cell? ⟨T, 1, none⟩ = some (.slice au ll.length capu) := fun p => (tb.bel p).t.cells.1.2
  have e2 : ∀ p : Bel w6, p.x.cell? ⟨T + 1, 0, none⟩ = some (.int .i64 x) := fun p => (tb.bel p).d.cells.1.1
  have e3 : ∀ p : Bel w6, p.x.cell? ⟨T + 1, 1, none⟩ = some (.int .i64 y) := fun p => (tb.bel p).d.cells.1.2
  have k1 : (H != H) = false := bne_self_eq_false _
  have k2 : (RM != RM) = false := bne_self_eq_false _
  have k3 : (wb != wb) = false := bne_self_eq_false _
  have k4 : (wi != wi) = false := bne_self_eq_false _
  have k5 : (wk != wk) = false := bne_self_eq_false _
  have k7 : (ID != ID) = false := bne_self_eq_false _
  have TB6 := Lib.hid tb
  have HB6 := Lib.hid hb6
  clear c0 c1 d0 d1 tb hb6
  refine wp_region_bel (by kernel_rfl) (by kernel_rfl) ?_
  repeat (go_big_quiet_step (first | (go_at_call 10; exact G1.out _) | (go_at_call 11; exact G2.out _) | (go_at_call 12; exact G3.out _) | (go_at_call 13; exact G4.out _) | (go_at_call 14; exact G5.out _) | (go_at_call 15; exact G6.out _)))
  refine wpQuiet_nil ?_
  intro _ hw'
  obtain ⟨pq, hw''⟩ := hw'
  subst hw''
  have hb7 := HB6.out.trans (pq.h.mono HB6.out.size)
  have tb := TB6.out.bel pq
  obtain ⟨w7, hw7⟩ : ∃ w7, w7 = pq.x := ⟨_, rfl⟩
  rw [← hw7] at hb7 tb ⊢
  clear hw7 pq e0 e1 e2 e3 G1 G2 G3 G4 G5 G6 HB6 TB6
  by_cases hneg : RM < 0
  · obtain ⟨rfl, rfl⟩ := HP.out.neg hneg
    clear HH1 HH2 HR1 HR2 HW1 HW2 HF1 HF2 HI1 HI2 HSUB
    go_wp2_with fail
    go_ret
    exact ⟨rfl, hb7⟩
  · have hpos : 0 ≤ RM := by omega
    have hH1 := HP.out.wit hpos
    have hH2 := HP.out.zero hpos
    have HSB := Lib.hid (HP.out.sub hpos)
    have HHI := HP.out.hi
    have hcases : ((RM == 0) = true ∧ wb = false ∧ H = true ∧ (ll.length : Int) ≤ RM ∧ ¬ 0 < RM) ∨ ((RM == 0) = true ∧ wb = false ∧ H = true ∧ ¬ (ll.length : Int) ≤ RM ∧ ¬ 0 < RM) ∨ ((RM == 0) = false ∧ wb = true ∧ H = false ∧ ¬ (ll.length : Int) ≤ RM ∧ 0 < RM) := by
      by_cases hz : RM = 0
      · rw [decide_eq_true hz] at hH2
        rw [hH2] at hH1
        have hw : wb = false := by revert hH1; cases wb <;> decide
        by_cases hl0 : (ll.length : Int) ≤ RM
        · exact .inl ⟨by simpa using hz, hw, hH2, hl0, by omega⟩
        · exact .inr (.inl ⟨by simpa using hz, hw, hH2, hl0, by omega⟩)
      · rw [decide_eq_false hz] at hH2
        rw [hH2] at hH1
        have hw : wb = true := by revert hH1; cases wb <;> decide
        have := HP.out.few (by omega)
        exact .inr (.inr ⟨by simpa using hz, hw, hH2, by omega, by omega⟩)
    have HTL := Lib.hid (show ll.length ≤ 20 from HL.out)
    have HTB := Lib.hid tb
    clear hH1 hH2 HH1 HH2 HR1 HR2 HW1 HW2 HF2 HI1 HI2 HP k1 k2 k3 k4 k5 k7
    go_upto_region 12 with fail
    go_cut [129] (fun s129 wx => s129 = .bool false ∧ Hid (TD wx T cc (.slice au ll.length capu) x y ll) ∧ Below w.heap.size w wx)
    case first =>
      obtain ⟨⟨c0, c1⟩, d0, d1⟩ := tb.all
      clear tb
      rcases hcases with ⟨q0, rfl, rfl, q1, q2⟩ | ⟨q0, rfl, rfl, q1, q2⟩ | ⟨q0, rfl, rfl, q1, q2⟩
      all_goals
        go_wp2_with fail
        go_meet
        case rel => exact ⟨rfl, HTB, hb7⟩
    case rest =>
      clear hcases tb HTB hb7
      obtain ⟨hs129, HTB, hb7⟩ := hcut
      subst hs129
      obtain ⟨N, hN⟩ : ∃ N, N = 2 ^ ll.length := ⟨_, rfl⟩
      have HN := Lib.hid hN
      clear hN
      go_upto_block 0 with fail
      go_cut [14] (fun sm wx => Below w.heap.size w wx)
      case first =>
        go_wp2_with fail
        go_loopw [14] (fun mv wr => ∃ i : Nat, mv = .int .i64 (i : Int) ∧ i ≤ N ∧ Hid (TD wr T cc (.slice au ll.length capu) x y ll) ∧ Below w.heap.size w wr) (fun mv _ => N - (intOf mv).toNat)
        case atStart => exact ⟨0, rfl, Nat.zero_le _, HTB, hb7⟩
        case round =>
          clear hb7 HTB
          obtain ⟨i, rfl, hi, HT, hb⟩ := hrel
          obtain ⟨w8, hw8⟩ : ∃ w', w' = wr := ⟨_, rfl⟩
          rw [← hw8] at HT hb ⊢
          clear hw8
          obtain ⟨⟨c0, c1⟩, d0, d1⟩ := HT.out.all
          by_cases h7 : ll.length ≤ 7
          · by_cases hlt : i < N
            · have g1 : (i : Int) < (N : Int) := by omega
              have g3 : (ll.length : Int) ≤ 7 := by omega
              go_wp2_with (refine wpList_shl1 _ rfl _ _ _ _ rfl ll.length N HN.out rfl rfl HTL.out ?_)
              have hbx : BoxIs (w8.alloc (.cells #[.int .i64 cc, .slice none 0 0] 26)) w8.heap.size cc (.slice none 0 0) := heap_alloc_new w8 _
              have hb9 : Below w8.heap.size w8 (w8.alloc (.cells #[.int .i64 cc, .slice none 0 0] 26)) := (Below.refl _ _).alloc (Nat.le_refl _) _
              obtain ⟨j0, hj, hz0, hz1, hz2⟩ := info_parts infoSj
              have HJ : Hid (_ ∧ _ ∧ _ ∧ _) := Lib.hid ⟨hj, hz0, hz1, hz2⟩
              have hN20 : ll.length ≤ 20 := HTL.out
              have HLT := Lib.hid hlt
              have hNb : N ≤ 1048576 := by
                rw [HN.out]
                exact Nat.pow_le_pow_right (n := 2) (by omega) hN20
              have hi20 : i < 1048576 := by omega
              clear hNb
              clear c0 c1 d0 d1 hj hz0 hz1 hz2
              go_loopw [16] (fun rv wr => ∃ (k : Nat) (P : List (Value × List Int)) (xa : Option Addr) (xc : Nat), k ≤ ll.length ∧ rv = .int .i64 (k : Int) ∧ Hid (BoxIs wr w8.heap.size cc (.slice xa P.length xc)) ∧ Hid (wr.ownsRow (w8.heap.size + 1) 37 1 (.slice xa P.length xc) P.length (P.map (·.1))) ∧ Hid ((∀ p ∈ P, ReadI w8 p.1 p.2) ∧ P.map (·.2) = subT (bitB i) ll k) ∧ P.length ≤ k ∧ Below w8.heap.size w8 wr ∧ w8.heap.size < wr.heap.size) (fun rv _ => ll.length - (intOf rv).toNat)
              case atStart => exact ⟨0, [], none, 0, by omega, rfl, Lib.hid hbx, Lib.hid (World.ownsRow_nil _ _ _ _), Lib.hid ⟨(fun p hp => by cases hp), rfl⟩, Nat.le_refl _, hb9, by simp⟩
              case round =>
                clear hbx hb9
                obtain ⟨k, P, xa, xc, hk, rfl, HX, HO, HPP, hPl, hbr, hsr⟩ := hrel
                obtain ⟨w9, hw9⟩ : ∃ w', w' = wr := ⟨_, rfl⟩
                rw [← hw9] at HX HO hbr hsr ⊢
                clear hw9
                have HTD := Lib.hid (HT.out.kept hbr)
                by_cases hlk : k < ll.length
                · have z0 : (0 : Int) ≤ (k : Int) := by omega
                  have z1 : (k : Int) < (ll.length : Int) := by omega
                  obtain ⟨⟨c0, c1⟩, d0, d1⟩ := HTD.out.all
                  obtain ⟨⟨x0, x1⟩, y0, y1⟩ := HX.out.cells
                  obtain ⟨Z, hZ⟩ : ∃ Z, Z = i / 2 ^ k := ⟨_, rfl⟩
                  have HZ := Lib.hid hZ
                  have hzb := bit_of i k Z hZ
                  clear hZ
                  cases hbit : bitB i k with
                  | false =>
                    rw [hbit] at hzb
                    have HPN : Hid ((∀ p ∈ P, ReadI w8 p.1 p.2) ∧ P.map (·.2) = subT (bitB i) ll (k + 1)) := Lib.hid ⟨HPP.out.1, by rw [HPP.out.2, subT_succ, if_neg (by rw [hbit]; decide)]⟩
                    clear hbit
                    go_wp2_with (refine wpList_shr _ rfl _ _ _ _ rfl i k Z HZ.out rfl rfl (by omega) ?_)
                    go_roundw
                    case rel => exact ⟨k + 1, P, xa, xc, by omega, by go_num, HX, HO, HPN, by omega, hbr, hsr⟩
                    case measure => simp [intOf]; omega
                  | true =>
                    rw [hbit] at hzb
                    have hsT := subT_succ (M := bitB i) (ll := ll) k
                    rw [if_pos hbit] at hsT
                    have HST := Lib.hid hsT
                    obtain ⟨a2, cap2, hv2, ha2⟩ := HT.out.s
                    simp only [Value.slice.injEq] at hv2
                    obtain ⟨rfl, -, rfl⟩ := hv2
                    obtain ⟨xx, uu, rfl, hx, hu⟩ := ha2 k hlk
                    have HU := Lib.hid hu
                    obtain ⟨ua, ucap, rfl, -⟩ := hu
                    have hxr := (hbr.cell (World.block_lt_of_cell? _ _ hx)).trans hx
                    obtain ⟨row, hrow⟩ : ∃ row, row = ll.getD k [] := ⟨_, rfl⟩
                    rw [← hrow] at hxr HU HST
                    have HXD : Hid (BoxIs w9.drew w8.heap.size cc (.slice xa P.length xc)) := Lib.hid HX.out
                    have HOD : Hid (w9.drew.ownsRow (w8.heap.size + 1) 37 1 (.slice xa P.length xc) P.length (P.map (·.1))) := Lib.hid HO.out
                    have hSA : (w9.alloc (.cells #[.slice ua row.length ucap] 37)).heap.size = w9.heap.size + 1 := World.size_alloc _ _
                    clear hbit hsT ha2 hx hrow
                    go_wp2_with (refine wpList_shr _ rfl _ _ _ _ rfl i k Z HZ.out rfl rfl (by omega) ?_)
                    go_region_law (refine step_append_lies _ (by rfl) _ _ _ (by rfl) (w8.heap.size + 1) 37 j0 (.slice none 0 0) 1 24 Try.underlying24 HJ.out.1 HJ.out.2.1 HJ.out.2.2.1 HJ.out.2.2.2 rfl (by decide) _ _ _ (by rfl) (World.ownsRow.alloc HOD.out (.cells #[.slice ua row.length ucap] 37)) ⟨w9.heap.size, 0, none⟩ 1 1 [.slice ua row.length ucap] (by rfl) (by rfl) (cell_one_new _ _ _) (one_slice _ _ _) (by omega) (by unfold maxLen; omega) (by omega) (by show w8.heap.size + 1 ≤ (w9.alloc (.cells #[.slice ua row.length ucap] 37)).heap.size; omega) (w9.heap.size + 1) hSA ?_; intro gg gcap w10 hown' hgrow hat hltg; have HGG := Lib.hid ((World.ownsRow.lt hown' gg rfl).1); have HXN := Lib.hid ((HXD.out.grown (World.grownBy_alloc w9.drew (.cells #[.slice ua row.length ucap] 37) none) (by simp)).grown hgrow (fun e => by have := (World.ownsRow.lt HOD.out _ e).1; omega)); have HBN := Lib.hid (((hbr.drew.alloc hbr.size (.cells #[.slice ua row.length ucap] 37)).grown hgrow (by show w8.heap.size ≤ (w9.alloc (.cells #[.slice ua row.length ucap] 37)).heap.size; omega) (fun j hj => by have := (World.ownsRow.lt HOD.out j hj).1; omega))); have HON := Lib.hid hown'; have s10 : w9.heap.size + 1 ≤ w10.heap.size := (by rw [← hSA]; exact hgrow.size); obtain ⟨⟨b0, b1⟩, f0, f1⟩ := HXN.out.cells; clear hown' hgrow hat hltg)
                    all_goals
                      have hz10 : w8.heap.size < w10.heap.size := by omega
                      have HXS := Lib.hid (HXN.out.set (rv' := .slice (some ⟨gg, 0, none⟩) (P.length + 1) gcap))
                      have HBS := HBN.out.setCell (p := ⟨w8.heap.size, 1, none⟩) (Nat.le_refl _) (.slice (some ⟨gg, 0, none⟩) (P.length + 1) gcap)
                      have HOS : Hid ((w10.setCell ⟨w8.heap.size, 1, none⟩ (.slice (some ⟨gg, 0, none⟩) (P.length + 1) gcap)).ownsRow (w8.heap.size + 1) 37 1 (.slice (some ⟨gg, 0, none⟩) (P ++ [(Value.slice ua row.length ucap, row)]).length gcap) (P ++ [(Value.slice ua row.length ucap, row)]).length ((P ++ [(Value.slice ua row.length ucap, row)]).map (·.1))) := Lib.hid (by
                        rw [List.map_append, List.length_append]
                        exact ownsRow_same HON.out (fun g hg => by cases hg; exact Below.heap_setCell _ _ _ _ (by show gg ≠ w8.heap.size; have := HGG.out; omega)))
                      have HPN : Hid ((∀ p ∈ P ++ [(Value.slice ua row.length ucap, row)], ReadI w8 p.1 p.2) ∧ (P ++ [(Value.slice ua row.length ucap, row)]).map (·.2) = subT (bitB i) ll (k + 1)) := Lib.hid ⟨fun p hp => by
                        rcases List.mem_append.1 hp with h | h
                        · exact HPP.out.1 p h
                        · rw [List.mem_singleton] at h; subst h; exact HU.out, by rw [List.map_append, HPP.out.2, HST.out]; rfl⟩
                      clear b0 b1 f0 f1 c0 c1 d0 d1 x0 x1 y0 y1 hxr
                      go_wp2_with fail
                      go_roundw
                      case rel => exact ⟨k + 1, P ++ [(Value.slice ua row.length ucap, row)], some ⟨gg, 0, none⟩, gcap, by omega, by go_num, Lib.hid (by rw [List.length_append]; exact HXS.out), HOS, HPN, by rw [List.length_append]; simp; omega, HBS, by simpa using hz10⟩
                      case measure => simp [intOf]; omega
                · obtain rfl : k = ll.length := by omega
                  have hlP : (subT (bitB i) ll ll.length).length = P.length := by rw [← HPP.out.2, List.length_map]
                  have hrx := rows_read HO.out hbr HPP.out.1 HPP.out.2
                  have hsub := HSB.out (bitB i)
                  have hrows : ∀ j, j < (subT (bitB i) ll ll.length).length → ((subT (bitB i) ll ll.length).getD j []).length ≤ 1048576 := fun j hj => by
                    obtain ⟨i', hi', -, e⟩ := subT_mem (M := bitB i) (ll := ll) ll.length ((subT (bitB i) ll ll.length).getD j []) (by rw [List.getD_eq_getElem?_getD, List.getElem?_eq_getElem hj]; exact List.getElem_mem _)
                    rw [e]
                    have := HR.out i' hi'
                    omega
                  obtain ⟨ST, hST⟩ : ∃ ST, ST = subT (bitB i) ll ll.length := ⟨_, rfl⟩
                  rw [← hST] at hlP hrx hsub hrows
                  obtain ⟨qb, hqb⟩ : ∃ qb, qb = holdsD cc ST md x y := ⟨_, rfl⟩
                  rw [← hqb, hlP] at hsub
                  have HTD := Lib.hid (HT.out.kept hbr)
                  have G1 : Hid (Calls Try.prog 10 #[.agg #[.int .i64 cc, .slice xa P.length xc], .int .i64 md, .agg #[.int .i64 x, .int .i64 y]] w9 fun e w'' => e = .returned (.bool qb) ∧ Below w9.heap.size w9 w'') :=
                    Lib.hid (by rw [hqb]; exact HSUB.out ST _ w9 hrx (by omega) hrows)
                  have hwr : IntKind.i64.wrap ((ll.length : Int) - (P.length : Int)) = (ll.length : Int) - (P.length : Int) := IntWalk.i64_in _ (by omega)
                  have HB9 := Lib.hid (hb.trans (hbr.mono hb.size))
                  obtain ⟨⟨c0, c1⟩, d0, d1⟩ := HTD.out.all
                  obtain ⟨⟨x0, x1⟩, -, -⟩ := HX.out.cells
                  clear hqb hST hrx hrows hlP HO HPP
                  by_cases hfew : (ll.length : Int) - (P.length : Int) < RM
                  · have hq2 : qb = false := by
                      cases hqq : qb with
                      | false => rfl
                      | true => have := hsub hqq; omega
                    subst hq2
                    clear hsub
                    go_wp2_with fail
                    refine G1.out.mono ?_
                    rintro e w11 ⟨rfl, b11⟩
                    have hbe := HB9.out.trans (b11.mono HB9.out.size)
                    have HTE := Lib.hid (HTD.out.kept b11)
                    clear b11 c0 c1 d0 d1 x0 x1 G1
                    go_wp2_with fail
                    go_roundw
                    case rel => exact ⟨i + 1, by go_num, HLT.out, HTE, hbe⟩
                    case measure => have := HLT.out; simp [intOf]; omega
                  · clear hsub
                    go_wp2_with fail
                    go_roundw
                    case rel => exact ⟨i + 1, by go_num, HLT.out, HTD, HB9.out⟩
                    case measure => have := HLT.out; simp [intOf]; omega
            · have g1 : ¬ (i : Int) < (N : Int) := by omega
              go_wp2_with (refine wpList_shl1 _ rfl _ _ _ _ rfl ll.length N HN.out rfl rfl HTL.out ?_)
              go_meet
              case rel => exact hb
          · have g3 : ¬ (ll.length : Int) ≤ 7 := by omega
            by_cases hlt : i < N
            · have g1 : (i : Int) < (N : Int) := by omega
              go_wp2_with (refine wpList_shl1 _ rfl _ _ _ _ rfl ll.length N HN.out rfl rfl HTL.out ?_)
              go_meet
              case rel => exact hb
            · have g1 : ¬ (i : Int) < (N : Int) := by omega
              go_wp2_with (refine wpList_shl1 _ rfl _ _ _ _ rfl ll.length N HN.out rfl rfl HTL.out ?_)
              go_meet
              case rel => exact hb
      case rest =>
        clear hb7 HTB HTL HN HSB HHI HSUB HR HL
        go_wp2_with fail
        refine (HD2.out _ hcut).mono ?_
        rintro e w8 ⟨q, s, hq0, hq6, hss, rfl, b8⟩
        have hb8 := hcut.trans (b8.mono hcut.size)
        have qw : (Lit.int .i64 q).wf = true := WalkArith.wf_i64 (by omega)
        have HP1 := Lib.hid (fun w' => implParseDep_any q s qw w' (by omega))
        have HP2 := Lib.hid (fun w' => parseDep_any q s w' (by omega))
        have HFT := Lib.hid (fun (h : okP q s = true) => fmt_parse h)
        obtain ⟨ok, hok⟩ : ∃ ok, ok = okP q s := ⟨_, rfl⟩
        obtain ⟨pl, hpl⟩ : ∃ pl, pl = pdL q s := ⟨_, rfl⟩
        obtain ⟨pr, hpr⟩ : ∃ pr, pr = pdR q s := ⟨_, rfl⟩
        rw [← hok, ← hpl, ← hpr] at HP1 HP2 HFT
        have hbd := pd_bd q s
        rw [← hpl, ← hpr] at hbd
        have plw : (Lit.int .i64 pl).wf = true := WalkArith.wf_i64 (by omega)
        have prw : (Lit.int .i64 pr).wf = true := WalkArith.wf_i64 (by omega)
        clear hok hpl hpr b8 hbd
        go_wp2_with fail
        refine (HP1.out _).mono ?_
        rintro e w9 ⟨rfl, b9⟩
        have hb9 := hb8.trans (b9.mono hb8.size)
        clear b9
        go_wp2_with fail
        refine (HP2.out _).mono ?_
        rintro e w10 ⟨rfl, b10⟩
        have hb10 := (hb9.alloc hb9.size (.cells #[.int .i64 pl, .int .i64 pr] 28)).trans (b10.mono (hb9.alloc hb9.size (.cells #[.int .i64 pl, .int .i64 pr] 28)).size)
        have hE : DBox w10 w9.heap.size pl pr := (b10.block _ (by simp)).trans (heap_alloc_new w9 _)
        have hF : DBox (w10.alloc (.cells #[.int .i64 pl, .int .i64 pr] 28)) w10.heap.size pl pr := heap_alloc_new w10 _
        have hE2 := hE.grown (World.grownBy_alloc w10 (.cells #[.int .i64 pl, .int .i64 pr] 28) none) (by simp)
        have hb11 := hb10.alloc hb10.size (.cells #[.int .i64 pl, .int .i64 pr] 28)
        obtain ⟨⟨c0, c1⟩, -, -⟩ := hE2.cells
        obtain ⟨⟨d0, d1⟩, -, -⟩ := hF.cells
        clear b10 hE hb10
        cases ok with
        | false =>
          go_wp2_with fail
          go_ret
          exact ⟨rfl, hb11⟩
        | true =>
          have HFD := Lib.hid (fun w' => implFormatDep_any pl pr plw prw w')
          rw [HFT.out rfl] at HFD
          go_wp2_with fail
          refine (HFD.out _).mono ?_
          rintro e w12 ⟨rfl, b12⟩
          have hbe := hb11.trans (b12.mono hb11.size)
          clear b12 c0 c1 d0 d1
          go_wp2_with fail
          go_ret
          exact ⟨rfl, hbe⟩
end Go.Proofs.Ytfndnaldgaaieaa
