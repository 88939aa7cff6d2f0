/- FnAgrees, the walk. Conditions: the code is a readable slice of at most 1048576 bytes. -/
import Derived.Test.YtchdceglcjjggaaFnAgrA
import Derived.Deep.RegionLaw
import Derived.Deep.CutBlock
import Derived.Deep.DeepCutAuto
namespace Go.Proofs.Ytchdceglcjjggaa
open Go.RowKit

set_option maxRecDepth 100000 in
set_option maxHeartbeats 1600000 in
theorem law_walk (v : Value) (n : Nat) (w : World) (hcode : CodeAt w v n) (hn : n ≤ 1048576) :
    Calls Try.prog 3 #[v] w fun e w' => e = .returned (.bool true) ∧ Below w.heap.size w w' := by
  have HBIG := Lib.hid (big_any v n (code_slice hcode))
  have HD1 := Lib.hid (drawDifferenceSets_any w v n hn hcode)
  have HD2 := Lib.hid (drawMaximalSets_any w v n hn hcode)
  have HD3 := Lib.hid (drawEqualCells_any w v n hn hcode)
  have hbig : decide (1048576 < (n : Int)) = false := by simp; omega
  obtain ⟨a, cap, rfl⟩ := code_slice hcode
  go_enter Try.func3, Try.ntmps3
  go_wp2_with fail
  refine (HBIG.out _).mono ?_
  rintro e w' ⟨rfl, rfl⟩
  go_wp2_with fail
  refine (HD1.out _ (Below.refl _ _)).mono ?_
  rintro e w1 ⟨cc, u, ll, md, q, md0, md1, q0, q1, rfl, hll, hlr, oss, hb⟩
  have HR := Lib.hid (rows_few hlr)
  have HL := Lib.hid hll
  have HCAP := Lib.hid oss.capOk
  obtain ⟨au, capu, rfl, -⟩ := oss.read
  have tb := TB.mk' (c := cc) oss.read
  have hb2 := hb.trans ((box_new w1 (.cells #[.int .i64 cc, .slice au ll.length capu] 26)).mono hb.size)
  clear oss hlr hll hb
  obtain ⟨⟨c0, c1⟩, f0, f1⟩ := tb.1.cells
  go_wp2_with fail
  obtain ⟨T, hTT⟩ : ∃ T, T = w1.heap.size := ⟨_, rfl⟩
  obtain ⟨w2, hw2⟩ : ∃ w2, w2 = w1.alloc (.cells #[.int .i64 cc, .slice au ll.length capu] 26) := ⟨_, rfl⟩
  rw [← hw2] at tb hb2 ⊢
  rw [← hTT] at tb ⊢
  clear hw2 hTT c0 c1 f0 f1
  have hl1 : ll.length ≤ 1048576 := by have := HL.out; omega
  have hr1 : ∀ i, i < ll.length → (ll.getD i []).length ≤ 1048576 := fun i hi => Nat.le_trans (HR.out i hi) (by omega)
  obtain ⟨A, hA⟩ : ∃ A, A = agrS cc ll md := ⟨_, rfl⟩
  obtain ⟨D, hD⟩ : ∃ D, D = difS cc ll md q := ⟨_, rfl⟩
  have HAL : Hid (A.length ≤ 1600) := Lib.hid (by rw [hA]; exact agrS_len _ _ _)
  have HDL : Hid (D.length ≤ 32) := Lib.hid (by rw [hD]; exact difS_len _ _ _ _)
  have HA1 : Hid (∀ w', ReadSS w' (.slice au ll.length capu) ll → Calls Try.prog 13 #[.agg #[.int .i64 cc, .slice au ll.length capu], .int .i64 md] w' (RetI A w')) :=
    Lib.hid (fun w' hr => by rw [hA]; exact implAgreeSetsM_any cc md _ ll w' hr hl1 hr1 HCAP.out)
  have HA2 : Hid (∀ w', ReadSS w' (.slice au ll.length capu) ll → Calls Try.prog 16 #[.agg #[.int .i64 cc, .slice au ll.length capu], .int .i64 md] w' (RetI A w')) :=
    Lib.hid (fun w' hr => by rw [hA]; exact agreeSets_any cc md _ ll w' hr hl1 hr1)
  have HD4 : Hid (∀ w', ReadSS w' (.slice au ll.length capu) ll → Calls Try.prog 14 #[.agg #[.int .i64 cc, .slice au ll.length capu], .int .i64 md, .int .i64 q] w' (RetI D w')) :=
    Lib.hid (fun w' hr => by rw [hD]; exact implDifferenceSetsM_any cc md q _ ll w' hr hl1 hr1 HCAP.out)
  have HD5 : Hid (∀ w', ReadSS w' (.slice au ll.length capu) ll → Calls Try.prog 17 #[.agg #[.int .i64 cc, .slice au ll.length capu], .int .i64 md, .int .i64 q] w' (RetI D w')) :=
    Lib.hid (fun w' hr => by rw [hD]; exact differenceSets_any cc md q _ ll w' hr hl1 hr1)
  have HSM : Hid (∀ X v v' w', X.length ≤ 1600 → ReadI w' v X → ReadI w' v' X → Calls Try.prog 15 #[v, v'] w' fun e w'' => e = .returned (.bool true) ∧ Below w'.heap.size w' w'') :=
    Lib.hid fun X v v' w' hX h h' => (sameInts_any v v' X X w' h h' (by omega)).mono fun _ _ ⟨x, m, y⟩ => ⟨by rw [x, eqB_same], by rw [y]; exact below_draws _ _⟩
  have HIN : Hid (∀ i k : Nat, fineT cc ll md = true → i < k → k < ll.length → agrOf cc ll md i k ∈ A) := Lib.hid (fun i k h1 h2 h3 => by rw [hA]; exact agrOf_in cc ll md i k h1 h2 h3)
  have HAG : Hid (∀ i k w', ReadSS w' (.slice au ll.length capu) ll → Calls Try.prog 20 #[.agg #[.int .i64 cc, .slice au ll.length capu], .int .i64 md, .int .i64 i, .int .i64 k] w' fun e w'' => e = .returned (.int .i64 (agrOf cc ll md i k)) ∧ Below w'.heap.size w' w'') :=
    Lib.hid (fun i k w' hr => implAgreeOf_any cc md i k _ ll w' hr hl1 hr1)
  have HIT : Hid (∀ w', ReadSS w' (.slice au ll.length capu) ll → Calls Try.prog 18 #[.agg #[.int .i64 cc, .slice au ll.length capu]] w' fun e w'' => e = .returned (.bool (isT cc ll)) ∧ Below w'.heap.size w' w'') :=
    Lib.hid (fun w' hr => isTable_any cc _ ll w' hr hl1 hr1)
  clear hA hD hl1 hr1
  refine (HA1.out _ tb.2).mono ?_
  rintro e w3 ⟨va, rfl, oa, b3⟩
  have hb3 := hb2.trans (b3.mono hb2.size)
  replace tb := tb.kept b3
  have ra := Lib.hid oa.read
  clear hb2 b3 oa
  obtain ⟨⟨c0, c1⟩, -, -⟩ := tb.1.cells
  go_wp2_with fail
  refine (HD4.out _ tb.2).mono ?_
  rintro e w4 ⟨vd, rfl, od, b4⟩
  have hb4 := hb3.trans (b4.mono hb3.size)
  replace tb := tb.kept b4
  have rd := Lib.hid od.read
  replace ra := Lib.hid (ra.out.kept b4)
  clear hb3 b4 od c0 c1
  obtain ⟨⟨c0, c1⟩, -, -⟩ := tb.1.cells
  go_wp2_with fail
  refine (HA2.out _ tb.2).mono ?_
  rintro e w5 ⟨vs, rfl, os, b5⟩
  have hb5 := hb4.trans (b5.mono hb4.size)
  replace tb := tb.kept b5
  replace ra := Lib.hid (ra.out.kept b5)
  replace rd := Lib.hid (rd.out.kept b5)
  have rs := Lib.hid os.read
  clear hb4 b5 os c0 c1
  go_wp2_with fail
  refine (HSM.out A _ _ _ HAL.out ra.out rs.out).mono ?_
  rintro e w6 ⟨rfl, b6⟩
  have hb6 := hb5.trans (b6.mono hb5.size)
  replace tb := tb.kept b6
  replace ra := Lib.hid (ra.out.kept b6)
  replace rd := Lib.hid (rd.out.kept b6)
  clear hb5 b6 rs
  obtain ⟨⟨c0, c1⟩, -, -⟩ := tb.1.cells
  go_wp2_with fail
  refine (HD5.out _ tb.2).mono ?_
  rintro e w7 ⟨vt, rfl, ot, b7⟩
  have hb7 := hb6.trans (b7.mono hb6.size)
  replace tb := tb.kept b7
  replace ra := Lib.hid (ra.out.kept b7)
  replace rd := Lib.hid (rd.out.kept b7)
  have rt := Lib.hid ot.read
  clear hb6 b7 ot c0 c1
  go_wp2_with fail
  refine (HSM.out D _ _ _ (by have := HDL.out; omega) rd.out rt.out).mono ?_
  rintro e w8 ⟨rfl, b8⟩
  have hb8 := hb7.trans (b8.mono hb7.size)
  replace tb := tb.kept b8
  replace ra := Lib.hid (ra.out.kept b8)
  clear hb7 b8 rt rd HA1 HA2 HD4 HD5 HDL
  go_upto_block 0 with fail
  go_cut [8] (fun s8 wx => Below w.heap.size w wx)
  case first =>
    obtain ⟨⟨c0, c1⟩, -, -⟩ := tb.1.cells
    go_wp2_with fail
    go_loopw [8] (fun iv wr => ∃ i : Nat, i ≤ ll.length ∧ iv = .int .i64 (i : Int) ∧ Hid (TB wr T cc (.slice au ll.length capu) ll) ∧ Hid (ReadI wr va A) ∧ Below w.heap.size w wr) (fun iv _ => ll.length - (intOf iv).toNat)
    case atStart => exact ⟨0, by omega, rfl, tb, ra, hb8⟩
    case round =>
      clear tb ra hb8 c0 c1
      obtain ⟨i, hi, rfl, tb, ra, hb⟩ := hrel
      obtain ⟨⟨c0, c1⟩, -, -⟩ := tb.out.1.cells
      by_cases hlt : i < ll.length
      · have z1 : (i : Int) < (ll.length : Int) := by omega
        have hi20 : (i : Int) ≤ 20 := by have := HL.out; omega
        go_wp2_with fail
        refine (HIT.out _ tb.out.2).mono ?_
        rintro e w9 ⟨rfl, b9⟩
        have hb9 := hb.trans (b9.mono hb.size)
        have tb9 := Lib.hid (tb.out.kept b9)
        have ra9 := Lib.hid (ra.out.kept b9)
        clear tb ra hb b9 c0 c1
        by_cases hm0 : 0 ≤ md
        · by_cases hm1 : md ≤ 1
          · cases hbt : isT cc ll with
            | true =>
              have HFI : Hid (fineT cc ll md = true) := Lib.hid (by unfold fineT modeOk; rw [hbt]; simp; omega)
              clear hbt
              go_wp2_with fail
              go_loopw [9] (fun kv wr => ∃ k : Nat, i + 1 ≤ k ∧ k ≤ ll.length ∧ kv = .int .i64 (k : Int) ∧ Hid (TB wr T cc (.slice au ll.length capu) ll) ∧ Hid (ReadI wr va A) ∧ Below w.heap.size w wr) (fun kv _ => ll.length - (intOf kv).toNat)
              case atStart => exact ⟨i + 1, by omega, by omega, by go_num, tb9, ra9, hb9⟩
              case round =>
                clear tb9 ra9 hb9
                obtain ⟨k, hk1, hk, rfl, tb, ra, hb⟩ := hrel
                obtain ⟨⟨c0, c1⟩, -, -⟩ := tb.out.1.cells
                by_cases hlk : k < ll.length
                · have y1 : (k : Int) < (ll.length : Int) := by omega
                  have hk20 : (k : Int) ≤ 20 := by have := HL.out; omega
                  obtain ⟨w10, rfl⟩ : ∃ w10 : World, w10 = wr := ⟨_, rfl⟩
                  have HX : Hid (agrOf cc ll md (i : Int) (k : Int) ∈ A) := Lib.hid (HIN.out i k HFI.out (by omega) hlk)
                  have HG1 : Hid (∀ (y z : Int) (p : Bel w10), Calls Try.prog 20 #[.agg #[.int .i64 cc, .slice au ll.length capu], .int .i64 md, .int .i64 y, .int .i64 z] p.x fun e w'' => e = .returned (.int .i64 (agrOf cc ll md y z)) ∧ ∃ q : Bel w10, w'' = q.x) :=
                    Lib.hid fun y z p => Calls.bel (HAG.out y z p.x (tb.out.bel p).2)
                  have HHS : Hid (∀ p : Bel w10, Calls Try.prog 19 #[va, .int .i64 (agrOf cc ll md (i : Int) (k : Int))] p.x fun e w'' => e = .returned (.bool true) ∧ ∃ q : Bel w10, w'' = q.x) :=
                    Lib.hid fun p => Calls.bel ((lawHas_any va A _ p.x (ra.out.kept p.h) (by have := HAL.out; omega) HX.out).mono fun _ _ ⟨y, z⟩ => ⟨y, by rw [← z]; exact Below.refl _ _⟩)
                  have hxx : (agrOf cc ll md (i : Int) (k : Int) != agrOf cc ll md (k : Int) (i : Int)) = false := by rw [agrOf_swap cc ll md (k : Int) (i : Int)]; simp
                  have e0 : ∀ p : Bel w10, p.x.cell? ⟨T, 0, none⟩ = some (.int .i64 cc) := fun p => (tb.out.bel p).1.cells.1.1
                  have e1 : ∀ p : Bel w10, p.x.cell? ⟨T, 1, none⟩ = some (.slice au ll.length capu) := fun p => (tb.out.bel p).1.cells.1.2
                  go_wp2_with fail
                  refine wp_region_bel (by kernel_rfl) (by kernel_rfl) ?_
                  repeat (go_big_quiet_step (first | (go_at_call 20; exact HG1.out _ _ _) | (go_at_call 19; exact HHS.out _)))
                  refine wpQuiet_nil ?_
                  intro _ hw'
                  obtain ⟨pq, hw''⟩ := hw'
                  subst hw''
                  have hb11 := hb.trans (pq.h.mono hb.size)
                  have tb11 := Lib.hid (tb.out.bel pq)
                  have ra11 := Lib.hid (ra.out.kept pq.h)
                  obtain ⟨w11, hw11⟩ : ∃ w11, w11 = pq.x := ⟨_, rfl⟩
                  rw [← hw11] at hb11 tb11 ra11 ⊢
                  clear hw11 e0 e1 c0 c1 tb ra hb HG1 HHS pq
                  go_wp2_with fail
                  go_roundw
                  case rel => exact ⟨k + 1, by omega, by omega, by go_num, tb11, ra11, hb11⟩
                  case measure => simp [intOf]; omega
                · obtain rfl : k = ll.length := by omega
                  go_wp2_with fail
                  go_roundw
                  case rel => exact ⟨i + 1, by omega, by go_num, tb, ra, hb⟩
                  case measure => simp [intOf]; omega
            | false =>
              clear hbt
              go_wp2_with fail
              go_meet
              case rel => exact hb9
          · cases hbt : isT cc ll with
            | true =>
              clear hbt
              go_wp2_with fail
              go_meet
              case rel => exact hb9
            | false =>
              clear hbt
              go_wp2_with fail
              go_meet
              case rel => exact hb9
        · cases hbt : isT cc ll with
          | true =>
            clear hbt
            go_wp2_with fail
            go_meet
            case rel => exact hb9
          | false =>
            clear hbt
            go_wp2_with fail
            go_meet
            case rel => exact hb9
      · obtain rfl : i = ll.length := by omega
        go_wp2_with fail
        go_meet
        case rel => exact hb
  case rest =>
    clear tb ra hb8 HCAP HAL HIN HAG HIT HR HL
    go_wp2_with fail
    refine (HD2.out _ hcut).mono ?_
    rintro e w10 ⟨ul, l, rfl, hl7, hlb, ol, b10⟩
    have hb10 := hcut.trans (b10.mono hcut.size)
    have rl := Lib.hid ol.read
    have HL7 := Lib.hid hl7
    have HI64 : Hid (I64s l) := Lib.hid (fun x hx => by have := hlb x hx; omega)
    clear b10 ol hl7 hlb HD1 HBIG hbig hcut
    obtain ⟨X, hX⟩ : ∃ X, X = maxS l := ⟨_, rfl⟩
    obtain ⟨Y, hY⟩ : ∃ Y, Y = minS l := ⟨_, rfl⟩
    have HXL : Hid (X.length ≤ 32) := Lib.hid (by rw [hX]; exact maxS_len l)
    have HYL : Hid (Y.length ≤ 32) := Lib.hid (by rw [hY]; exact minS_len l)
    have HXF : Hid (∀ y ∈ X, ∀ z ∈ l, z = y ∨ (bits .and .i64 z y == y) = false) := Lib.hid (by rw [hX]; exact fun y hy z hz => max_fact hy hz)
    have HYF : Hid (∀ y ∈ Y, ∀ z ∈ l, z = y ∨ (bits .and .i64 z y == z) = false) := Lib.hid (by rw [hY]; exact fun y hy z hz => min_fact hy hz)
    have HM1 : Hid (∀ w', ReadI w' ul l → Calls Try.prog 22 #[ul] w' (RetI X w')) := Lib.hid (by rw [hX]; exact fun w' h => implMaximalM_any ul l w' h (by have := HL7.out; omega) HI64.out)
    have HM2 : Hid (∀ w', ReadI w' ul l → Calls Try.prog 23 #[ul] w' (RetI Y w')) := Lib.hid (by rw [hY]; exact fun w' h => implMinimalM_any ul l w' h (by have := HL7.out; omega) HI64.out)
    have HM3 : Hid (∀ w', ReadI w' ul l → Calls Try.prog 25 #[ul] w' (RetI X w')) := Lib.hid (by rw [hX]; exact fun w' h => maximalSets_any ul l w' h (by have := HL7.out; omega))
    have HM4 : Hid (∀ w', ReadI w' ul l → Calls Try.prog 26 #[ul] w' (RetI Y w')) := Lib.hid (by rw [hY]; exact fun w' h => minimalSets_any ul l w' h (by have := HL7.out; omega))
    clear hX hY
    go_wp2_with fail
    refine (HM1.out _ rl.out).mono ?_
    rintro e w11 ⟨vx, rfl, ox, b11⟩
    have hb11 := hb10.trans (b11.mono hb10.size)
    have rl1 := Lib.hid (rl.out.kept b11)
    have rx := Lib.hid ox.read
    clear b11 ox hb10 rl
    go_wp2_with fail
    refine (HM2.out _ rl1.out).mono ?_
    rintro e w12 ⟨vy, rfl, oy, b12⟩
    have hb12 := hb11.trans (b12.mono hb11.size)
    have rl2 := Lib.hid (rl1.out.kept b12)
    have rx2 := Lib.hid (rx.out.kept b12)
    have ry2 := Lib.hid oy.read
    clear b12 oy hb11 rl1 rx
    obtain ⟨al, cl, rfl, hal⟩ := rl2.out
    obtain ⟨ax, cx, rfl, hax⟩ := rx2.out
    obtain ⟨ay, cy, rfl, hay⟩ := ry2.out
    have HCL := Lib.hid hal
    have HCX := Lib.hid hax
    have HCY := Lib.hid hay
    clear hal hax hay
    go_wp2_with fail
    go_loopw [13] (fun iv wr => ∃ (i m : Nat), i ≤ X.length ∧ iv = .int .i64 (i : Int) ∧ wr = w12.drewN m) (fun iv _ => X.length - (intOf iv).toNat)
    case atStart => exact ⟨0, 0, by omega, rfl, rfl⟩
    case round =>
      obtain ⟨i, m, hi, rfl, rfl⟩ := hrel
      by_cases hlt : i < X.length
      · have z0 : (0 : Int) ≤ (i : Int) := by omega
        have z1 : (i : Int) < (X.length : Int) := by omega
        have hi32 : (i : Int) ≤ 32 := by have := HXL.out; omega
        obtain ⟨xx, rfl, hxi⟩ := HCX.out i hlt
        have HMX : Hid (X[i] ∈ X) := Lib.hid (List.getElem_mem hlt)
        obtain ⟨y, hyy⟩ : ∃ y, y = X[i] := ⟨_, rfl⟩
        rw [← hyy] at hxi HMX
        clear hyy
        go_wp2_with fail
        go_loopw [14] (fun kv wr => ∃ (k m : Nat), k ≤ l.length ∧ kv = .int .i64 (k : Int) ∧ wr = w12.drewN m) (fun kv _ => l.length - (intOf kv).toNat)
        case atStart => exact ⟨0, m, by omega, rfl, rfl⟩
        case round =>
          obtain ⟨k, m', hk, rfl, rfl⟩ := hrel
          by_cases hlk : k < l.length
          · have q0' : (0 : Int) ≤ (k : Int) := by omega
            have q1' : (k : Int) < (l.length : Int) := by omega
            have hk7 : (k : Int) ≤ 7 := by have := HL7.out; omega
            obtain ⟨xl, rfl, hlk'⟩ := HCL.out k hlk
            have HZ : Hid (l[k] = y ∨ (bits .and .i64 l[k] y == y) = false) := Lib.hid (HXF.out y HMX.out _ (List.getElem_mem hlk))
            obtain ⟨z, hzz⟩ : ∃ z, z = l[k] := ⟨_, rfl⟩
            rw [← hzz] at hlk' HZ
            clear hzz
            by_cases hzy : z = y
            · subst hzy
              have hne : (z != z) = false := by simp
              go_wp2_with fail
              go_quiet (fail)
              go_wp2_with fail
              go_roundw
              case rel => exact ⟨k + 1, _, by omega, by go_num, rfl⟩
              case measure => simp [intOf]; omega
            · have hne : (z != y) = true := by simpa using hzy
              have hba : (bits .and .i64 z y == y) = false := HZ.out.resolve_left hzy
              clear hzy
              go_wp2_with fail
              go_quiet (fail)
              go_wp2_with fail
              go_roundw
              case rel => exact ⟨k + 1, _, by omega, by go_num, rfl⟩
              case measure => simp [intOf]; omega
          · obtain rfl : k = l.length := by omega
            go_wp2_with fail
            go_roundw
            case rel => exact ⟨i + 1, _, by omega, by go_num, rfl⟩
            case measure => simp [intOf]; omega
      · obtain rfl : i = X.length := by omega
        go_wp2_with fail
        go_loopw [15] (fun iv wr => ∃ (i m : Nat), i ≤ Y.length ∧ iv = .int .i64 (i : Int) ∧ wr = w12.drewN m) (fun iv _ => Y.length - (intOf iv).toNat)
        case atStart => exact ⟨0, m, by omega, rfl, rfl⟩
        case round =>
          obtain ⟨i, m2, hi, rfl, rfl⟩ := hrel
          by_cases hlt : i < Y.length
          · have z0 : (0 : Int) ≤ (i : Int) := by omega
            have z1 : (i : Int) < (Y.length : Int) := by omega
            have hi32 : (i : Int) ≤ 32 := by have := HYL.out; omega
            obtain ⟨xx, rfl, hxi⟩ := HCY.out i hlt
            have HMX : Hid (Y[i] ∈ Y) := Lib.hid (List.getElem_mem hlt)
            obtain ⟨y, hyy⟩ : ∃ y, y = Y[i] := ⟨_, rfl⟩
            rw [← hyy] at hxi HMX
            clear hyy
            go_wp2_with fail
            go_loopw [16] (fun kv wr => ∃ (k m : Nat), k ≤ l.length ∧ kv = .int .i64 (k : Int) ∧ wr = w12.drewN m) (fun kv _ => l.length - (intOf kv).toNat)
            case atStart => exact ⟨0, m2, by omega, rfl, rfl⟩
            case round =>
              obtain ⟨k, m', hk, rfl, rfl⟩ := hrel
              by_cases hlk : k < l.length
              · have q0' : (0 : Int) ≤ (k : Int) := by omega
                have q1' : (k : Int) < (l.length : Int) := by omega
                have hk7 : (k : Int) ≤ 7 := by have := HL7.out; omega
                obtain ⟨xl, rfl, hlk'⟩ := HCL.out k hlk
                have HZ : Hid (l[k] = y ∨ (bits .and .i64 l[k] y == l[k]) = false) := Lib.hid (HYF.out y HMX.out _ (List.getElem_mem hlk))
                obtain ⟨z, hzz⟩ : ∃ z, z = l[k] := ⟨_, rfl⟩
                rw [← hzz] at hlk' HZ
                clear hzz
                by_cases hzy : z = y
                · subst hzy
                  have hne : (z != z) = false := by simp
                  go_wp2_with fail
                  go_quiet (fail)
                  go_wp2_with fail
                  go_roundw
                  case rel => exact ⟨k + 1, _, by omega, by go_num, rfl⟩
                  case measure => simp [intOf]; omega
                · have hne : (z != y) = true := by simpa using hzy
                  have hba : (bits .and .i64 z y == z) = false := HZ.out.resolve_left hzy
                  clear hzy
                  go_wp2_with fail
                  go_quiet (fail)
                  go_wp2_with fail
                  go_roundw
                  case rel => exact ⟨k + 1, _, by omega, by go_num, rfl⟩
                  case measure => simp [intOf]; omega
              · obtain rfl : k = l.length := by omega
                go_wp2_with fail
                go_roundw
                case rel => exact ⟨i + 1, _, by omega, by go_num, rfl⟩
                case measure => simp [intOf]; omega
          · obtain rfl : i = Y.length := by omega
            go_wp2_with fail
            have hd := below_drewN (Below.refl w12.heap.size w12) m2
            have hb13 := hb12.trans (hd.mono hb12.size)
            have RL := Lib.hid (rl2.out.kept hd)
            have RX := Lib.hid (rx2.out.kept hd)
            have RY := Lib.hid (ry2.out.kept hd)
            obtain ⟨w13, hw13⟩ : ∃ w13, w13 = w12.drewN m2 := ⟨_, rfl⟩
            rw [← hw13] at RL RX RY hb13 ⊢
            clear hw13 hd HCL HCX HCY rl2 rx2 ry2 hb12 HXF HYF HM1 HM2
            refine (HD3.out _ hb13).mono ?_
            rintro e w14 ⟨nm, nx, ny, rfl, b14⟩
            have hb14 := hb13.trans (b14.mono hb13.size)
            have RL4 := Lib.hid (RL.out.kept b14)
            have RX4 := Lib.hid (RX.out.kept b14)
            have RY4 := Lib.hid (RY.out.kept b14)
            have HEI := Lib.hid implEqualCells_any
            have HES := Lib.hid eqCells_any
            have hee : (eqC nm nx ny == eqC nm nx ny) = true := by simp
            have hes : (eqC nm nx ny == eqC nm ny nx) = true := by rw [eqC_swap nm ny nx]; simp
            clear b14 RL RX RY hb13
            go_wp2_with fail
            refine (HM3.out _ RL4.out).mono ?_
            rintro e w15 ⟨v5, rfl, o5, b15⟩
            have hb15 := hb14.trans (b15.mono hb14.size)
            have RL5 := Lib.hid (RL4.out.kept b15)
            have RX5 := Lib.hid (RX4.out.kept b15)
            have RY5 := Lib.hid (RY4.out.kept b15)
            have R5 := Lib.hid o5.read
            clear b15 o5 hb14 RL4 RX4 RY4
            go_wp2_with fail
            refine (HSM.out X _ _ _ (by have := HXL.out; omega) RX5.out R5.out).mono ?_
            rintro e w16 ⟨rfl, b16⟩
            have hb16 := hb15.trans (b16.mono hb15.size)
            have RL6 := Lib.hid (RL5.out.kept b16)
            have RY6 := Lib.hid (RY5.out.kept b16)
            clear b16 hb15 RL5 RX5 RY5 R5
            go_wp2_with fail
            refine (HM4.out _ RL6.out).mono ?_
            rintro e w17 ⟨v7, rfl, o7, b17⟩
            have hb17 := hb16.trans (b17.mono hb16.size)
            have RY7 := Lib.hid (RY6.out.kept b17)
            have R7 := Lib.hid o7.read
            clear b17 o7 hb16 RL6 RY6
            go_wp2_with fail
            refine (HSM.out Y _ _ _ (by have := HYL.out; omega) RY7.out R7.out).mono ?_
            rintro e w18 ⟨rfl, b18⟩
            have hb18 := hb17.trans (b18.mono hb17.size)
            clear b18 hb17 RY7 R7
            go_wp2_with fail
            refine (HEI.out _ _ _ _).mono ?_
            rintro e w' ⟨rfl, rfl⟩
            go_wp2_with fail
            refine (HES.out _ _ _ _).mono ?_
            rintro e w' ⟨rfl, rfl⟩
            go_wp2_with fail
            refine (HEI.out _ _ _ _).mono ?_
            rintro e w' ⟨rfl, rfl⟩
            go_wp2_with fail
            refine (HEI.out _ _ _ _).mono ?_
            rintro e w' ⟨rfl, rfl⟩
            go_wp2_with fail
            go_ret
            exact ⟨rfl, hb18⟩
end Go.Proofs.Ytchdceglcjjggaa
