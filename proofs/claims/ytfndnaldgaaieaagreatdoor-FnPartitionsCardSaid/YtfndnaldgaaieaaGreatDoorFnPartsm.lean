/- FnPartitions, the walk. Conditions: the code is a readable slice of at most 1048576 bytes; the table of powers of ten reads as it is laid. -/
import Derived.Test.YtfndnaldgaaieaaGreatDoorSi36
import Derived.Deep.RegionLaw
namespace Go.Proofs.YtfndnaldgaaieaaGreatDoor
open Go.RowKit

theorem prtS_i64 {c : Int} {ll : List (List Int)} {m s : Int} (hl : ll.length ≤ 20) : I64ss (prtS c ll m s) := by
  unfold prtS
  split
  · intro i hi x hx
    obtain ⟨k, hk, rfl⟩ := List.mem_iff_getElem.1 hx
    obtain ⟨q, hq, hql⟩ := clSt_rows hi hk
    rw [← get_getD _ k hk] at hq
    rw [hq]
    omega
  · intro i hi; simp at hi
set_option maxRecDepth 100000 in
set_option maxHeartbeats 3200000 in
theorem law_walk (v : Value) (n : Nat) (w : World) (hcode : CodeAt w v n) (hn : n ≤ 1048576) (hT : Tab w.heap.size w) :
    Calls Tryz.prog 3 #[v] w fun e w' => e = .returned (.bool true) ∧ Below w.heap.size w w' := by
  have HBIG := Lib.hid (big_any v n (code_slice hcode))
  have HD1 := Lib.hid (drawHoldsDep_any w v n hn hcode)
  have HD2 := Lib.hid (dDrawProductOf_any w v n hn hcode)
  have HD3 := Lib.hid (dDrawIsPartition_any w v n hn hcode)
  have HD4 := Lib.hid (dDrawIsFiner_any w v n hn hcode)
  have HTAB := Lib.hid hT
  have hbig : decide (1048576 < (n : Int)) = false := by simp; omega
  clear hT
  obtain ⟨a, cap, rfl⟩ := code_slice hcode
  go_enter Tryz.func3, Tryz.ntmps3
  go_wp2_with fail
  refine (HBIG.out _).mono ?_
  rintro e w' ⟨rfl, rfl⟩
  go_wp2_with fail
  refine (HD1.out _ (Below.refl _ _)).mono ?_
  rintro e w1 ⟨cc, u, ll, md, x, y, md0, md1, x0, x1, y0, y1, rfl, hll, hlr, oss, hb⟩
  have HR := Lib.hid (rows_few6 hlr)
  have HL := Lib.hid hll
  obtain ⟨au, capu, rfl, -⟩ := oss.read
  have tb := TD.mk' (c := cc) (x := x) (y := y) oss.read
  have hb2 := hb.trans ((((Below.refl _ w1).alloc (Nat.le_refl _) (.cells #[.int .i64 cc, .slice au ll.length capu] 26)).alloc (by simp) (.cells #[.int .i64 x, .int .i64 y] 28)).mono hb.size)
  clear oss hlr hll hb
  obtain ⟨⟨c0, c1⟩, d0, d1⟩ := tb.all
  go_wp2_with fail
  obtain ⟨T, hTT⟩ : ∃ T, T = w1.heap.size := ⟨_, rfl⟩
  obtain ⟨w2, hw2⟩ : ∃ w2, w2 = (w1.alloc (.cells #[.int .i64 cc, .slice au ll.length capu] 26)).alloc (.cells #[.int .i64 x, .int .i64 y] 28) := ⟨_, rfl⟩
  rw [← hw2] at tb hb2 c0 c1 d0 d1 ⊢
  rw [← hTT] at tb c0 c1 d0 d1 ⊢
  clear hw2 hTT
  have hl1 : ll.length ≤ 1048576 := by have := HL.out; omega
  have hr1 : ∀ i, i < ll.length → (ll.getD i []).length ≤ 1048576 := fun i hi => Nat.le_trans (HR.out i hi) (by omega)
  have HP1 : Hid (∀ (s : Int) w', -9223372036854775808 ≤ s → s ≤ 9223372036854775807 → ReadSS w' (.slice au ll.length capu) ll → Calls Tryz.prog 6 #[.agg #[.int .i64 cc, .slice au ll.length capu], .int .i64 md, .int .i64 s] w' (RetSS (prtS cc ll md s) w')) :=
    Lib.hid (fun s w' h0 h1 hr => implPartitionOf_any cc md s _ ll w' hr hl1 hr1 h0 h1)
  have HP2 : Hid (∀ (s : Int) w', ReadSS w' (.slice au ll.length capu) ll → Calls Tryz.prog 8 #[.agg #[.int .i64 cc, .slice au ll.length capu], .int .i64 md, .int .i64 s] w' (RetSS (prtS cc ll md s) w')) :=
    Lib.hid (fun s w' hr => partitionOf_any cc md s _ ll w' hr hl1 hr1)
  have HPB := Lib.hid (fun s => prtS_bd cc ll md s)
  have HPI := Lib.hid (fun s => prtS_i64 (c := cc) (ll := ll) (m := md) (s := s) HL.out)
  have HSM : Hid (∀ v v' p w', p.length ≤ 1048576 → tot p ≤ 1048576 → ReadSS w' v p → ReadSS w' v' p → Calls Tryz.prog 7 #[v, v'] w' fun e w'' => e = .returned (.bool true) ∧ Below w'.heap.size w' w'') :=
    Lib.hid (fun v v' p w' hl ht h h' => samePart_any v v' p w' h h' hl ht)
  refine (HP1.out x _ (by omega) (by omega) tb.s).mono ?_
  rintro e w3 ⟨pv, rfl, op, b3⟩
  have hb3 := hb2.trans (b3.mono hb2.size)
  replace tb := tb.kept b3
  have RP := Lib.hid op.read
  clear hb2 b3 op c0 c1 d0 d1
  obtain ⟨⟨c0, c1⟩, d0, d1⟩ := tb.all
  obtain ⟨P, hP⟩ : ∃ P, P = prtS cc ll md x := ⟨_, rfl⟩
  have hPB : P.length ≤ 40 ∧ tot P ≤ 1600 := by rw [hP]; exact HPB.out x
  have HPIx : Hid (I64ss P) := Lib.hid (by rw [hP]; exact HPI.out x)
  have HPX := Lib.hid hP
  have HPP : Hid (∀ w', ReadSS w' (.slice au ll.length capu) ll → Calls Tryz.prog 8 #[.agg #[.int .i64 cc, .slice au ll.length capu], .int .i64 md, .int .i64 x] w' (RetSS P w')) := Lib.hid (fun w' h => by rw [hP]; exact HP2.out x w' h)
  rw [← hP] at RP
  clear hP
  go_wp2_with fail
  refine (HPP.out _ tb.s).mono ?_
  rintro e w4 ⟨pv2, rfl, op2, b4⟩
  have hb4 := hb3.trans (b4.mono hb3.size)
  replace tb := tb.kept b4
  replace RP := Lib.hid (RP.out.kept b4)
  have RP2 := Lib.hid op2.read
  clear hb3 b4 op2 c0 c1 d0 d1 HPP
  go_wp2_with fail
  refine (HSM.out _ _ P _ (by omega) (by omega) RP.out RP2.out).mono ?_
  rintro e w5 ⟨rfl, b5⟩
  have hb5 := hb4.trans (b5.mono hb4.size)
  replace tb := tb.kept b5
  replace RP := Lib.hid (RP.out.kept b5)
  have HFI := Lib.hid (implFormatPartition_any pv P w5 RP.out (by omega) (by omega) HPIx.out (fun w' h' => HTAB.out w' (hb5.trans (h'.mono hb5.size))))
  clear hb4 b5 RP2
  go_wp2_with fail
  refine HFI.out.mono ?_
  rintro e w6 ⟨rfl, b6⟩
  have hb6 := hb5.trans (b6.mono hb5.size)
  replace tb := tb.kept b6
  replace RP := Lib.hid (RP.out.kept b6)
  have HFS := Lib.hid (formatPartition_any pv P w6 RP.out (by omega) (by omega) HPIx.out)
  clear hb5 b6 HFI
  go_wp2_with fail
  refine HFS.out.mono ?_
  rintro e w7 ⟨rfl, b7⟩
  have hb7 := hb6.trans (b7.mono hb6.size)
  replace tb := tb.kept b7
  replace RP := Lib.hid (RP.out.kept b7)
  clear hb6 b7 HFS
  obtain ⟨b1, hb1⟩ : ∃ b, b = isT cc ll := ⟨_, rfl⟩
  obtain ⟨b2, hb2⟩ : ∃ b, b = depB cc x y := ⟨_, rfl⟩
  have HIT : Hid (∀ w', ReadSS w' (.slice au ll.length capu) ll → Calls Tryz.prog 11 #[.agg #[.int .i64 cc, .slice au ll.length capu]] w' fun e w'' => e = .returned (.bool b1) ∧ Below w'.heap.size w' w'') :=
    Lib.hid (fun w' hr => by rw [hb1]; exact isTable_any cc _ ll w' hr hl1 hr1)
  have HID : Hid (∀ w', Calls Tryz.prog 12 #[.int .i64 cc, .agg #[.int .i64 x, .int .i64 y]] w' fun e w'' => e = .returned (.bool b2) ∧ Below w'.heap.size w' w'') :=
    Lib.hid (fun w' => by rw [hb2]; exact isDep_any cc x y w')
  obtain ⟨bb, hbb⟩ : ∃ bb, bb = (b1 && (b2 && (decide (0 ≤ md) && decide (md ≤ 1)))) := ⟨_, rfl⟩
  have HOK : Hid (bb = true → okD cc ll md x y = true) := Lib.hid (fun h => by
    rw [okD_parts]
    rw [hbb, hb1, hb2, Bool.and_eq_true, Bool.and_eq_true, Bool.and_eq_true, decide_eq_true_iff, decide_eq_true_iff] at h
    obtain ⟨h1, h2, h3, h4⟩ := h
    rw [Bool.and_eq_true, Bool.and_eq_true]
    refine ⟨?_, h1, h2⟩
    unfold modeOk
    simp
    omega)
  have HBB := Lib.hid hbb
  have HTB := Lib.hid tb
  clear hb1 hb2 hbb
  go_upto_region 7 with fail
  go_cut [61] (fun s61 wx => s61 = .bool bb ∧ Hid (TD wx T cc (.slice au ll.length capu) x y ll) ∧ Hid (ReadSS wx pv P) ∧ Below w.heap.size w wx)
  case first =>
    obtain ⟨⟨c0, c1⟩, d0, d1⟩ := tb.all
    clear tb
    cases b1 with
    | false =>
      go_wp2_with fail
      refine (HIT.out _ HTB.out.s).mono ?_
      rintro e w8 ⟨rfl, b8⟩
      have hb8 := hb7.trans (b8.mono hb7.size)
      have HTB8 := Lib.hid (HTB.out.kept b8)
      have RP8 := Lib.hid (RP.out.kept b8)
      clear hb7 b8 c0 c1 d0 d1
      go_wp2_with fail
      go_meet
      case rel => exact ⟨by rw [HBB.out]; simp, HTB8, RP8, hb8⟩
    | true =>
      cases b2 with
      | false =>
        go_wp2_with fail
        refine (HIT.out _ HTB.out.s).mono ?_
        rintro e w8 ⟨rfl, b8⟩
        have hb8 := hb7.trans (b8.mono hb7.size)
        have HTB8 := Lib.hid (HTB.out.kept b8)
        have RP8 := Lib.hid (RP.out.kept b8)
        obtain ⟨⟨c0, c1⟩, d0, d1⟩ := HTB8.out.all
        clear hb7 b8
        go_wp2_with fail
        refine (HID.out _).mono ?_
        rintro e w9 ⟨rfl, b9⟩
        have hb9 := hb8.trans (b9.mono hb8.size)
        have HTB9 := Lib.hid (HTB8.out.kept b9)
        have RP9 := Lib.hid (RP8.out.kept b9)
        clear hb8 b9 c0 c1 d0 d1
        go_wp2_with fail
        go_meet
        case rel => exact ⟨by rw [HBB.out]; simp, HTB9, RP9, hb9⟩
      | true =>
        rcases (show md < 0 ∨ (0 ≤ md ∧ md ≤ 1) ∨ 1 < md by omega) with hm | ⟨hm, hm'⟩ | hm
        all_goals
          have HM := Lib.hid hm
          go_wp2_with fail
          refine (HIT.out _ HTB.out.s).mono ?_
          rintro e w8 ⟨rfl, b8⟩
          have hb8 := hb7.trans (b8.mono hb7.size)
          have HTB8 := Lib.hid (HTB.out.kept b8)
          have RP8 := Lib.hid (RP.out.kept b8)
          obtain ⟨⟨c0, c1⟩, d0, d1⟩ := HTB8.out.all
          clear hb7 b8
          go_wp2_with fail
          refine (HID.out _).mono ?_
          rintro e w9 ⟨rfl, b9⟩
          have hb9 := hb8.trans (b9.mono hb8.size)
          have HTB9 := Lib.hid (HTB8.out.kept b9)
          have RP9 := Lib.hid (RP8.out.kept b9)
          clear hb8 b9 c0 c1 d0 d1
          go_wp2_with fail
          go_meet
          case rel => exact ⟨by rw [HBB.out]; have := HM.out; simp; omega, HTB9, RP9, hb9⟩
  case rest =>
    obtain ⟨hs61, HTB2, RP2, hb8⟩ := hcut
    subst hs61
    clear tb HTB RP hb7 HBB HIT HID
    have HBD8 := Lib.hid hb8
    go_upto_if 61 with fail
    go_cut [] (fun wx => Below w.heap.size w wx)
    case first =>
      cases bb with
      | false =>
        go_wp2_with fail
        go_meet
        case rel => exact hb8
      | true =>
        have hk := HOK.out rfl
        obtain ⟨hTt, hmd, L, R, rfl, rfl, hL, hR⟩ := okD_facts hk
        have hc5 := (isT_bd hTt).2.1
        have hR20 : R ≤ 20 := by omega
        have pf := pfacts hk
        obtain ⟨⟨c0, c1⟩, d0, d1⟩ := HTB2.out.all
        obtain ⟨G, hG⟩ : ∃ G, G = 2 ^ R := ⟨_, rfl⟩
        have hw : IntKind.i64.wrap (2 ^ R) = (G : Int) := by rw [IntWalk.i64_left, hG]; exact sh_small hR20
        have hL32 : L < 32 := lt32 (show cc.toNat ≤ 5 by omega) hL
        have hG32 : G < 32 := by
          rw [hG]
          exact Nat.lt_of_le_of_lt (Nat.pow_le_pow_right (by omega) (show R ≤ 4 by omega)) (by decide)
        have hor : bits .or .i64 (L : Int) (G : Int) = ((L ||| G : Nat) : Int) := or_small hL32 hG32
        obtain ⟨q1, q2, q3, q4, q5⟩ := pf
        obtain ⟨hd, hhd⟩ : ∃ hd, hd = holdsD cc ll md (L : Int) (R : Int) := ⟨_, rfl⟩
        obtain ⟨Q, hQ⟩ : ∃ Q, Q = prtS cc ll md (G : Int) := ⟨_, rfl⟩
        obtain ⟨B, hB⟩ : ∃ B, B = prtS cc ll md ((L ||| G : Nat) : Int) := ⟨_, rfl⟩
        rw [← hG, ← HPX.out, ← hQ, ← hB] at q1
        rw [← hG, ← HPX.out, ← hB, ← hhd] at q2
        rw [← hG, ← HPX.out, ← hQ, ← hhd] at q3
        rw [← hG, ← HPX.out, ← hB] at q4
        rw [← HPX.out] at q5
        have hQB : Q.length ≤ 40 ∧ tot Q ≤ 1600 := by rw [hQ]; exact HPB.out _
        have hBB : B.length ≤ 40 ∧ tot B ≤ 1600 := by rw [hB]; exact HPB.out _
        have hQI : I64ss Q := by rw [hQ]; exact HPI.out _
        have hBI : I64ss B := by rw [hB]; exact HPI.out _
        have K8 : Hid (∀ w', ReadSS w' (.slice au ll.length capu) ll → Calls Tryz.prog 6 #[.agg #[.int .i64 cc, .slice au ll.length capu], .int .i64 md, .int .i64 (IntKind.i64.wrap (2 ^ R))] w' (RetSS Q w')) :=
          Lib.hid (fun w' h => by rw [hw, hQ]; exact HP1.out _ w' (by omega) (by omega) h)
        have K9 : Hid (∀ v' w', ReadSS w' pv P → ReadSS w' v' Q → Calls Tryz.prog 13 #[pv, v', .int .i64 (ll.length : Int)] w' (RetSS B w')) :=
          Lib.hid (fun v' w' h h' => by rw [← q1]; exact implProductOf_any pv v' P Q _ w' h h' (by omega) (by omega) (by omega) (by omega))
        have K10 : Hid (∀ w', ReadSS w' (.slice au ll.length capu) ll → Calls Tryz.prog 8 #[.agg #[.int .i64 cc, .slice au ll.length capu], .int .i64 md, .int .i64 (bits .or .i64 (L : Int) (IntKind.i64.wrap (2 ^ R)))] w' (RetSS B w')) :=
          Lib.hid (fun w' h => by rw [hw, hor, hB]; exact HP2.out _ w' h)
        have K11 : Hid (∀ w', ReadSS w' (.slice au ll.length capu) ll → Calls Tryz.prog 14 #[.agg #[.int .i64 cc, .slice au ll.length capu], .int .i64 md, .agg #[.int .i64 (L : Int), .int .i64 (R : Int)]] w' fun e w'' => e = .returned (.bool hd) ∧ Below w'.heap.size w' w'') :=
          Lib.hid (fun w' h => by rw [hhd]; exact implHoldsDep_any cc md _ _ _ ll (WalkArith.wf_i64 (by omega)) (WalkArith.wf_i64 (by omega)) (WalkArith.wf_i64 (by omega)) w' h hl1 hr1)
        have K12 : Hid (∀ v v' w', ReadSS w' v B → ReadSS w' v' B → Calls Tryz.prog 7 #[v, v'] w' fun e w'' => e = .returned (.bool true) ∧ Below w'.heap.size w' w'') :=
          Lib.hid (fun v v' w' h h' => HSM.out v v' B w' (by omega) (by omega) h h')
        obtain ⟨e1, he1⟩ : ∃ e1 : Int, e1 = errTo P P.length := ⟨_, rfl⟩
        obtain ⟨e2, he2⟩ : ∃ e2 : Int, e2 = errTo B B.length := ⟨_, rfl⟩
        have K13 := Lib.hid (fun w' (h : ReadSS w' pv P) => implErrorOf_any pv P w' h (by omega) (by omega))
        have K14 := Lib.hid (fun v' w' (h : ReadSS w' v' B) => implErrorOf_any v' B w' h (by omega) (by omega))
        have K15 := Lib.hid (fun v' w' (h : ReadSS w' pv P) (h' : ReadSS w' v' Q) => implIsFiner_any pv v' P Q w' h h' (by omega) (by omega) HPIx.out (by omega) (by omega) hQI)
        have K16 := Lib.hid (fun v' w' (h : ReadSS w' pv P) (h' : ReadSS w' v' B) => implIsFiner_any v' pv B P w' h' h (by omega) (by omega) hBI (by omega) (by omega) HPIx.out)
        have K17 := Lib.hid (fun w' (h : ReadSS w' pv P) => implIsPartition_any pv P (ll.length : Int) w' h (by omega) (by omega))
        rw [← he1] at K13 q2
        rw [← he2] at K14 q2
        rw [q3] at K15
        rw [q4] at K16
        rw [q5] at K17
        obtain ⟨w9, hw9⟩ : ∃ w', w' = wc := ⟨_, rfl⟩
        rw [← hw9] at HTB2 RP2 hb8 HBD8 c0 c1 d0 d1 ⊢
        clear hw9 hG q1 q3 q4 q5 hhd hQ hB hQI hBI he1 he2 hw hor HP1 HP2 HPB HPI HSM hQB hBB hPB HPX HPIx HOK
        have hwc : True := trivial
        go_upto_region 8 with fail
        go_cut [7] (fun s7 wx => Hid (TD wx T cc (.slice au ll.length capu) (L : Int) (R : Int) ll) ∧ Hid (ReadSS wx pv P) ∧ Hid (ReadSS wx s7 Q) ∧ Below w.heap.size w wx)
        case first =>
          go_region_law (go_simp; go_at_call 6; refine (K8.out w9.drew HTB2.out.drew.s).mono ?_; rintro e w10 ⟨vq, rfl, oq, b10⟩; have hb10 := HBD8.out.drew.trans (b10.mono HBD8.out.drew.size); have HTB3 := Lib.hid (HTB2.out.drew.kept b10); have RP3 := Lib.hid ((RP2.out.kept (Below.refl _ _).drew).kept b10); have RQ3 := Lib.hid oq.read; clear c0 c1 d0 d1 oq b10)
          all_goals
            go_wp2_with fail
            go_meet
            case rel => exact ⟨HTB3, RP3, RQ3, hb10⟩
        case rest =>
          clear HTB2 RP2 hb8 HBD8 c0 c1 d0 d1 K8
          obtain ⟨HTB2, RP2, RQ2, hb8⟩ := hcut
          obtain ⟨⟨c0, c1⟩, d0, d1⟩ := HTB2.out.all
          go_wp2_with fail
          refine (K9.out _ _ RP2.out RQ2.out).mono ?_
          rintro e w11 ⟨vx, rfl, ox, b11⟩
          have hb11 := hb8.trans (b11.mono hb8.size)
          have HTB3 := Lib.hid (HTB2.out.kept b11)
          have RP3 := Lib.hid (RP2.out.kept b11)
          have RQ3 := Lib.hid (RQ2.out.kept b11)
          have RX3 := Lib.hid ox.read
          have HBD := Lib.hid hb11
          clear HTB2 RP2 RQ2 hb8 c0 c1 d0 d1 ox b11 K9
          go_upto_region 10 with fail
          go_cut [9] (fun s9 wx => Hid (TD wx T cc (.slice au ll.length capu) (L : Int) (R : Int) ll) ∧ Hid (ReadSS wx pv P) ∧ Hid (ReadSS wx u7 Q) ∧ Hid (ReadSS wx vx B) ∧ Hid (ReadSS wx s9 B) ∧ Below w.heap.size w wx)
          case first =>
            obtain ⟨⟨c0, c1⟩, d0, d1⟩ := HTB3.out.all
            go_region_law (go_simp; go_at_call 8; refine (K10.out w11.drew HTB3.out.drew.s).mono ?_; rintro e w12 ⟨vb, rfl, ob, b12⟩; have hb12 := HBD.out.drew.trans (b12.mono HBD.out.drew.size); have HTB4 := Lib.hid (HTB3.out.drew.kept b12); have RP4 := Lib.hid ((RP3.out.kept (Below.refl _ _).drew).kept b12); have RQ4 := Lib.hid ((RQ3.out.kept (Below.refl _ _).drew).kept b12); have RX4 := Lib.hid ((RX3.out.kept (Below.refl _ _).drew).kept b12); have RB4 := Lib.hid ob.read; clear c0 c1 d0 d1 ob b12)
            all_goals
              go_wp2_with fail
              go_meet
              case rel => exact ⟨HTB4, RP4, RQ4, RX4, RB4, hb12⟩
          case rest =>
            clear HTB3 RP3 RQ3 RX3 hb11 HBD K10
            obtain ⟨HTB2, RP2, RQ2, RX2, RB2, hb8⟩ := hcut
            obtain ⟨⟨c0, c1⟩, d0, d1⟩ := HTB2.out.all
            go_wp2_with fail
            refine (K11.out _ HTB2.out.s).mono ?_
            rintro e w13 ⟨rfl, b13⟩
            have hb13 := hb8.trans (b13.mono hb8.size)
            replace HTB2 := Lib.hid (HTB2.out.kept b13)
            replace RP2 := Lib.hid (RP2.out.kept b13)
            replace RQ2 := Lib.hid (RQ2.out.kept b13)
            replace RX2 := Lib.hid (RX2.out.kept b13)
            replace RB2 := Lib.hid (RB2.out.kept b13)
            obtain ⟨⟨c0, c1⟩, d0, d1⟩ := HTB2.out.all
            clear hb8 b13 K11
            go_wp2_with fail
            clear c0 c1 d0 d1
            by_cases he : e1 = e2
            all_goals
              have hh : hd = decide (e1 = e2) := by rw [← q2]; simp [he]
              simp only [he, decide_true, decide_false] at hh
              subst hh
              refine (K12.out _ _ _ RX2.out RB2.out).mono ?_
              rintro e w14 ⟨rfl, b14⟩
              have hb14 := hb13.trans (b14.mono hb13.size)
              replace HTB2 := Lib.hid (HTB2.out.kept b14)
              replace RP2 := Lib.hid (RP2.out.kept b14)
              replace RQ2 := Lib.hid (RQ2.out.kept b14)
              replace RB2 := Lib.hid (RB2.out.kept b14)
              clear hb13 b14 K12
              go_wp2_with fail
              refine (K13.out _ RP2.out).mono ?_
              rintro e w15 ⟨rfl, b15⟩
              have hb15 := hb14.trans (b15.mono hb14.size)
              replace HTB2 := Lib.hid (HTB2.out.kept b15)
              replace RP2 := Lib.hid (RP2.out.kept b15)
              replace RQ2 := Lib.hid (RQ2.out.kept b15)
              replace RB2 := Lib.hid (RB2.out.kept b15)
              clear hb14 b15 K13
              go_wp2_with fail
              refine (K14.out _ _ RB2.out).mono ?_
              rintro e w16 ⟨rfl, b16⟩
              have hb16 := hb15.trans (b16.mono hb15.size)
              replace HTB2 := Lib.hid (HTB2.out.kept b16)
              replace RP2 := Lib.hid (RP2.out.kept b16)
              replace RQ2 := Lib.hid (RQ2.out.kept b16)
              replace RB2 := Lib.hid (RB2.out.kept b16)
              clear hb15 b16 K14
              go_wp2_with fail
              refine (K15.out _ _ RP2.out RQ2.out).mono ?_
              rintro e w17 ⟨rfl, b17⟩
              have hb17 := hb16.trans (b17.mono hb16.size)
              replace HTB2 := Lib.hid (HTB2.out.kept b17)
              replace RP2 := Lib.hid (RP2.out.kept b17)
              replace RQ2 := Lib.hid (RQ2.out.kept b17)
              replace RB2 := Lib.hid (RB2.out.kept b17)
              clear hb16 b17 K15
              go_wp2_with fail
              refine (K16.out _ _ RP2.out RB2.out).mono ?_
              rintro e w18 ⟨rfl, b18⟩
              have hb18 := hb17.trans (b18.mono hb17.size)
              replace HTB2 := Lib.hid (HTB2.out.kept b18)
              replace RP2 := Lib.hid (RP2.out.kept b18)
              obtain ⟨⟨c0, c1⟩, d0, d1⟩ := HTB2.out.all
              clear hb17 b18 K16
              go_wp2_with fail
              refine (K17.out _ RP2.out).mono ?_
              rintro e w19 ⟨rfl, b19⟩
              have hb19 := hb18.trans (b19.mono hb18.size)
              clear hb18 b19 K17
              go_wp2_with fail
              go_meet
              case rel => exact hb19
    case rest =>
      clear HTB2 RP2 hb8 HBD8
      have hb10 := hcut
      clear hcut HP1 HP2 HPB HPI HPX HPIx HOK hPB
      go_wp2_with fail
      refine (HD2.out _ hb10).mono ?_
      rintro e w11 ⟨va, vb, A, B, N, rfl, hN, hA, hB, ra, rb, b11⟩
      have hb11 := hb10.trans (b11.mono hb10.size)
      have RA := Lib.hid ra
      have RB := Lib.hid rb
      have HA := Lib.hid hA
      have HB := Lib.hid hB
      clear hb10 b11 ra rb hA hB
      go_wp2_with fail
      refine (HD3.out _ hb11).mono ?_
      rintro e w12 ⟨vc, vd, C, D, M, rfl, hM, hC, hD, rc, rd, b12⟩
      have hb12 := hb11.trans (b12.mono hb11.size)
      replace RA := Lib.hid (RA.out.kept b12)
      replace RB := Lib.hid (RB.out.kept b12)
      have RC := Lib.hid rc
      have HC := Lib.hid hC
      clear hb11 b12 rc rd hC hD
      go_wp2_with fail
      refine (HD4.out _ hb12).mono ?_
      rintro e w13 ⟨vu, vv, U, V, K, rfl, hK, hU, hV, ru, rv, b13⟩
      have hb13 := hb12.trans (b13.mono hb12.size)
      replace RA := Lib.hid (RA.out.kept b13)
      replace RB := Lib.hid (RB.out.kept b13)
      replace RC := Lib.hid (RC.out.kept b13)
      have RU := Lib.hid ru
      have RV := Lib.hid rv
      have HU := Lib.hid hU
      have HV := Lib.hid hV
      clear hb12 b13 ru rv hU hV HD2 HD3 HD4 HD1 HBIG
      go_wp2_with fail
      have lA := HA.out.1
      have tA := HA.out.2.1
      have lB := HB.out.1
      have tB := HB.out.2.1
      have lC := HC.out.1
      have tC := HC.out.2.1
      have lU := HU.out.1
      have tU := HU.out.2.1
      have lV := HV.out.1
      have tV := HV.out.2.1
      obtain ⟨S, hS⟩ : ∃ S, S = proS A B (N : Int) := ⟨_, rfl⟩
      have hSb : S.length ≤ 40 ∧ tot S ≤ 1600 := by rw [hS]; exact proS_bd _ _ _
      obtain ⟨c1, hc1⟩ : ∃ c1, c1 = partP C (M : Int) := ⟨_, rfl⟩
      obtain ⟨c2, hc2⟩ : ∃ c2, c2 = finB U V := ⟨_, rfl⟩
      obtain ⟨c3, hc3⟩ : ∃ c3 : Int, c3 = errTo C C.length := ⟨_, rfl⟩
      have KI1 := Lib.hid (fun w' (h1 : ReadSS w' va A) (h2 : ReadSS w' vb B) => implProductOf_any va vb A B (N : Int) w' h1 h2 (by omega) (by omega) (by omega) (by omega))
      have KS1 := Lib.hid (fun w' (h1 : ReadSS w' va A) (h2 : ReadSS w' vb B) => productOf_any2 va vb A B (N : Int) w' h1 h2 (by omega) (by omega) (by omega) (by omega))
      have KI2 := Lib.hid (fun w' (h1 : ReadSS w' vc C) => implIsPartition_any vc C (M : Int) w' h1 (by omega) (by omega))
      have KS2 := Lib.hid (fun w' (h1 : ReadSS w' vc C) => isPartition_any2 vc C (M : Int) w' h1 (by omega) (by omega))
      have KI3 := Lib.hid (fun w' (h1 : ReadSS w' vu U) (h2 : ReadSS w' vv V) => implIsFiner_any vu vv U V w' h1 h2 (by omega) (by omega) HU.out.2.2 (by omega) (by omega) HV.out.2.2)
      have KS3 := Lib.hid (fun w' (h1 : ReadSS w' vu U) (h2 : ReadSS w' vv V) => isFiner_any2 vu vv U V w' h1 h2 (by omega) (by omega) (by omega) (by omega))
      have KI4 := Lib.hid (fun w' (h1 : ReadSS w' vc C) => implErrorOf_any vc C w' h1 (by omega) (by omega))
      have KS4 := Lib.hid (fun w' (h1 : ReadSS w' vc C) => errorOf_any2 vc C w' h1 (by omega) (by omega))
      rw [← hS] at KI1 KS1
      rw [← hc1] at KI2 KS2
      rw [← hc2] at KI3 KS3
      rw [← hc3] at KI4 KS4
      clear hS hc1 hc2 hc3
      refine (KI1.out _ RA.out RB.out).mono ?_
      rintro e w14 ⟨vs, rfl, os, b14⟩
      have hb14 := hb13.trans (b14.mono hb13.size)
      have RS := Lib.hid os.read
      replace RA := Lib.hid (RA.out.kept b14)
      replace RB := Lib.hid (RB.out.kept b14)
      replace RC := Lib.hid (RC.out.kept b14)
      replace RU := Lib.hid (RU.out.kept b14)
      replace RV := Lib.hid (RV.out.kept b14)
      clear hb13 b14 os KI1
      go_wp2_with fail
      refine (KS1.out _ RA.out RB.out).mono ?_
      rintro e w15 ⟨vs2, rfl, os, b15⟩
      have hb15 := hb14.trans (b15.mono hb14.size)
      have RS2 := Lib.hid os.read
      replace RS := Lib.hid (RS.out.kept b15)
      replace RC := Lib.hid (RC.out.kept b15)
      replace RU := Lib.hid (RU.out.kept b15)
      replace RV := Lib.hid (RV.out.kept b15)
      clear hb14 b15 os KS1 RA RB
      go_wp2_with fail
      refine (HSM.out _ _ S _ (by omega) (by omega) RS.out RS2.out).mono ?_
      rintro e w16 ⟨rfl, b16⟩
      have hb16 := hb15.trans (b16.mono hb15.size)
      replace RC := Lib.hid (RC.out.kept b16)
      replace RU := Lib.hid (RU.out.kept b16)
      replace RV := Lib.hid (RV.out.kept b16)
      clear hb15 b16 RS RS2 HSM hSb
      go_wp2_with fail
      refine (KI2.out _ RC.out).mono ?_
      rintro e w17 ⟨rfl, b17⟩
      have hb17 := hb16.trans (b17.mono hb16.size)
      replace RC := Lib.hid (RC.out.kept b17)
      replace RU := Lib.hid (RU.out.kept b17)
      replace RV := Lib.hid (RV.out.kept b17)
      clear hb16 b17 KI2
      go_wp2_with fail
      refine (KS2.out _ RC.out).mono ?_
      rintro e w18 ⟨rfl, b18⟩
      have hb18 := hb17.trans (b18.mono hb17.size)
      replace RC := Lib.hid (RC.out.kept b18)
      replace RU := Lib.hid (RU.out.kept b18)
      replace RV := Lib.hid (RV.out.kept b18)
      clear hb17 b18 KS2
      go_wp2_with fail
      refine (KI3.out _ RU.out RV.out).mono ?_
      rintro e w19 ⟨rfl, b19⟩
      have hb19 := hb18.trans (b19.mono hb18.size)
      replace RC := Lib.hid (RC.out.kept b19)
      replace RU := Lib.hid (RU.out.kept b19)
      replace RV := Lib.hid (RV.out.kept b19)
      clear hb18 b19 KI3
      go_wp2_with fail
      refine (KS3.out _ RU.out RV.out).mono ?_
      rintro e w20 ⟨rfl, b20⟩
      have hb20 := hb19.trans (b20.mono hb19.size)
      replace RC := Lib.hid (RC.out.kept b20)
      clear hb19 b20 KS3 RU RV
      go_wp2_with fail
      refine (KI4.out _ RC.out).mono ?_
      rintro e w21 ⟨rfl, b21⟩
      have hb21 := hb20.trans (b21.mono hb20.size)
      replace RC := Lib.hid (RC.out.kept b21)
      clear hb20 b21 KI4
      go_wp2_with fail
      refine (KS4.out _ RC.out).mono ?_
      rintro e w22 ⟨rfl, b22⟩
      have hb22 := hb21.trans (b22.mono hb21.size)
      clear hb21 b22 KS4
      go_wp2_with fail
      go_ret
      exact ⟨by simp, hb22⟩
end Go.Proofs.YtfndnaldgaaieaaGreatDoor
