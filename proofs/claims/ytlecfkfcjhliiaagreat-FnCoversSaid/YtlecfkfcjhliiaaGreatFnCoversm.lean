/- FnCovers, the walk. Conditions: the code is a readable slice of at most 1048576 bytes. -/
import Derived.Test.YtlecfkfcjhliiaaGreatWc45
import Derived.Test.YtlecfkfcjhliiaaGreatWc42
import Derived.Deep.RegionLaw
namespace Go.Proofs.YtlecfkfcjhliiaaGreat
open Go.RowKit

set_option maxRecDepth 100000 in
set_option maxHeartbeats 12800000 in
theorem law_walk (v : Value) (n : Nat) (w : World) (hcode : CodeAt w v n) (hn : n ≤ 1048576) :
    Calls Tryz.prog 3 #[v] w fun e w' => e = .returned (.bool true) ∧ Below w.heap.size w w' := by
  have HBIG := Lib.hid (big_any v n (code_slice hcode))
  have HD1 := Lib.hid (drawViolatedBorder_any w v n hn hcode)
  have HD2 := Lib.hid (drawIsMinimalDep_any w v n hn hcode)
  have HD3 := Lib.hid (drawApproximateDeps_any w v n hn hcode)
  have hbig : decide (1048576 < (n : Int)) = false := by simp; omega
  obtain ⟨a, cap, rfl⟩ := code_slice hcode
  go_enter Tryz.func3, Tryz.ntmps3
  go_wp2_with fail
  refine (HBIG.out _).mono ?_
  rintro e w' ⟨rfl, rfl⟩
  go_wp2_with fail
  refine (HD1.out _ (Below.refl _ _)).mono ?_
  rintro e w1 ⟨cc, u, ll, md, q, md0, md1, q0, q1, rfl, hll, hlr, oss, hb⟩
  have HR := Lib.hid (rows_few hlr)
  have HL := Lib.hid hll
  obtain ⟨au, capu, rfl, -⟩ := oss.read
  have tb := TB.mk' (c := cc) oss.read
  have hb2 := hb.trans (((Below.refl _ w1).alloc (Nat.le_refl _) (.cells #[.int .i64 cc, .slice au ll.length capu] 26)).mono hb.size)
  clear oss hlr hll hb
  obtain ⟨⟨c0, c1⟩, -, -⟩ := tb.1.cells
  go_wp2_with fail
  obtain ⟨T, hTT⟩ : ∃ T, T = w1.heap.size := ⟨_, rfl⟩
  obtain ⟨w2, hw2⟩ : ∃ w2, w2 = w1.alloc (.cells #[.int .i64 cc, .slice au ll.length capu] 26) := ⟨_, rfl⟩
  rw [← hw2] at tb hb2 ⊢
  rw [← hTT] at tb ⊢
  clear hw2 hTT c0 c1
  have hl1 : ll.length ≤ 1048576 := by have := HL.out; omega
  have hr1 : ∀ i, i < ll.length → (ll.getD i []).length ≤ 1048576 := fun i hi => Nat.le_trans (HR.out i hi) (by omega)
  have mdw : (Lit.int .i64 md).wf = true := WalkArith.wf_i64 (by omega)
  have qw : (Lit.int .i64 q).wf = true := WalkArith.wf_i64 (by omega)
  have hvl := vbL_len cc ll md q
  have hml := mdL_len cc ll md
  have HFL : Hid (∀ C R : Nat, cc = (C : Int) → q = (R : Int) → isT cc ll = true → 0 ≤ md → md ≤ 1 → R < C → ∀ x : Nat, x < 2 ^ C → bitB x R = false → anyTo (pIn (vbL cc ll md q) x) (vbL cc ll md q).length = !holdsD cc ll md (x : Int) q ∧ anyTo (pCov (mdL cc ll md) R x) (mdL cc ll md).length = holdsD cc ll md (x : Int) q) := Lib.hid (fun C R h1 h2 hT h3 h4 hR x hx hb => by
    subst h1 h2
    exact flags hT h3 h4 hR hx hb)
  have HMI : Hid (∀ d ∈ mdL cc ll md, imB cc ll md d.1 d.2 = true ∧ (0 ≤ d.1 ∧ d.1 ≤ 31 ∧ 0 ≤ d.2 ∧ d.2 ≤ 4)) := Lib.hid (fun d hd => ⟨md_min hd, mdL_small hd⟩)
  have HV1 : Hid (∀ w', ReadSS w' (.slice au ll.length capu) ll → Calls Tryz.prog 6 #[.agg #[.int .i64 cc, .slice au ll.length capu], .int .i64 md, .int .i64 q] w' (RetI (vbL cc ll md q) w')) := Lib.hid (fun w' hr => implViolatedBorder_any cc md q _ ll mdw qw w' hr hl1 hr1)
  have HV2 : Hid (∀ w', ReadSS w' (.slice au ll.length capu) ll → Calls Tryz.prog 9 #[.agg #[.int .i64 cc, .slice au ll.length capu], .int .i64 md, .int .i64 q] w' (RetI (vbL cc ll md q) w')) := Lib.hid (fun w' hr => violatedBorder_any cc md q _ ll w' hr hl1 hr1)
  have HM1 : Hid (∀ w', ReadSS w' (.slice au ll.length capu) ll → Calls Tryz.prog 7 #[.agg #[.int .i64 cc, .slice au ll.length capu], .int .i64 md] w' (RetD (mdL cc ll md) w')) := Lib.hid (fun w' hr => implMinimalDeps_any cc md _ ll mdw w' hr hl1 hr1)
  have HM2 : Hid (∀ w', ReadSS w' (.slice au ll.length capu) ll → Calls Tryz.prog 11 #[.agg #[.int .i64 cc, .slice au ll.length capu], .int .i64 md] w' (RetD (mdL cc ll md) w')) := Lib.hid (fun w' hr => minimalDeps_any cc md _ ll w' hr hl1 hr1)
  have HIM : Hid (∀ x y w', ReadSS w' (.slice au ll.length capu) ll → (Lit.int .i64 x).wf = true → (Lit.int .i64 y).wf = true → Calls Tryz.prog 12 #[.agg #[.int .i64 cc, .slice au ll.length capu], .int .i64 md, .agg #[.int .i64 x, .int .i64 y]] w' fun e w'' => e = .returned (.bool (imB cc ll md x y)) ∧ Below w'.heap.size w' w'') := Lib.hid (fun x y w' hr h1 h2 => implIsMinimalDep_any cc md x y _ ll mdw h1 h2 w' hr hl1 hr1)
  have HHD : Hid (∀ x w', ReadSS w' (.slice au ll.length capu) ll → (Lit.int .i64 x).wf = true → Calls Tryz.prog 14 #[.agg #[.int .i64 cc, .slice au ll.length capu], .int .i64 md, .agg #[.int .i64 x, .int .i64 q]] w' fun e w'' => e = .returned (.bool (holdsD cc ll md x q)) ∧ Below w'.heap.size w' w'') := Lib.hid (fun x w' hr h1 => implHoldsDep_any cc md x q _ ll mdw h1 qw w' hr hl1 hr1)
  have HIT : Hid (∀ w', ReadSS w' (.slice au ll.length capu) ll → Calls Tryz.prog 13 #[.agg #[.int .i64 cc, .slice au ll.length capu]] w' fun e w'' => e = .returned (.bool (isT cc ll)) ∧ Below w'.heap.size w' w'') := Lib.hid (fun w' hr => isTable_any cc _ ll w' hr hl1 hr1)
  have HSM : Hid (∀ (X : List Int) v v' w', X.length ≤ 1600 → ReadI w' v X → ReadI w' v' X → Calls Tryz.prog 8 #[v, v'] w' fun e w'' => e = .returned (.bool true) ∧ Below w'.heap.size w' w'') := Lib.hid (fun X v v' w' hX hr hr' => (sameInts_any v v' X X w' hr hr' (by omega)).mono fun e w'' ⟨h1, m, h2⟩ => ⟨by rw [h1]; unfold eqB; simp, by rw [h2]; exact below_drewN (Below.refl _ _) m⟩)
  have HSD : Hid (∀ (X : List (Int × Int)) v v' w', X.length ≤ 1600 → ReadD w' v X → ReadD w' v' X → Calls Tryz.prog 10 #[v, v'] w' fun e w'' => e = .returned (.bool true) ∧ Below w'.heap.size w' w'') := Lib.hid (fun X v v' w' hX hr hr' => (sameDeps_any v v' X X w' hr hr' (by omega)).mono fun e w'' ⟨h1, h2⟩ => ⟨by rw [h1]; simp, h2⟩)
  have hitb : cc = (cc.toNat : Int) ∨ ¬ isT cc ll = true := by
    by_cases h : isT cc ll = true
    · have := isT_bd h; exact .inl (by omega)
    · exact .inr h
  have hitc : isT cc ll = true → 1 ≤ cc ∧ cc ≤ 5 := fun h => by have := isT_bd h; omega
  have HITC := Lib.hid hitc
  obtain ⟨VB, hVB⟩ : ∃ VB, VB = vbL cc ll md q := ⟨_, rfl⟩
  obtain ⟨MD, hMD⟩ : ∃ MD, MD = mdL cc ll md := ⟨_, rfl⟩
  rw [← hVB] at HFL HV1 HV2 hvl
  rw [← hMD] at HFL HMI HM1 HM2 hml
  clear hl1 hr1 mdw qw hVB hMD hitb hitc HL HR
  refine (HV1.out _ tb.2).mono ?_
  rintro e w3 ⟨vb, rfl, ob, b3⟩
  have hb3 := hb2.trans (b3.mono hb2.size)
  replace tb := tb.kept b3
  have rb := ob.read
  obtain ⟨ab, capb, rfl, -⟩ := ob.read
  clear hb2 b3 ob
  obtain ⟨⟨c0, c1⟩, -, -⟩ := tb.1.cells
  go_wp2_with fail
  refine (HM1.out _ tb.2).mono ?_
  rintro e w4 ⟨vm, rfl, om, b4⟩
  have hb4 := hb3.trans (b4.mono hb3.size)
  replace tb := tb.kept b4
  replace rb := rb.kept b4
  have rm := om.read
  obtain ⟨am, capm, rfl, -⟩ := om.read
  clear hb3 b4 om c0 c1
  obtain ⟨⟨c0, c1⟩, -, -⟩ := tb.1.cells
  go_wp2_with fail
  refine (HV2.out _ tb.2).mono ?_
  rintro e w5 ⟨vb2, rfl, ob2, b5⟩
  have hb5 := hb4.trans (b5.mono hb4.size)
  replace tb := tb.kept b5
  replace rb := rb.kept b5
  replace rm := rm.kept b5
  have rb2 := ob2.read
  clear hb4 b5 ob2 c0 c1
  go_wp2_with fail
  refine (HSM.out VB _ _ _ (by omega) rb rb2).mono ?_
  rintro e w6 ⟨rfl, b6⟩
  have hb6 := hb5.trans (b6.mono hb5.size)
  replace tb := tb.kept b6
  replace rb := rb.kept b6
  replace rm := rm.kept b6
  clear hb5 b6 rb2
  obtain ⟨⟨c0, c1⟩, -, -⟩ := tb.1.cells
  go_wp2_with fail
  refine (HM2.out _ tb.2).mono ?_
  rintro e w7 ⟨vm2, rfl, om2, b7⟩
  have hb7 := hb6.trans (b7.mono hb6.size)
  replace tb := tb.kept b7
  replace rb := rb.kept b7
  replace rm := rm.kept b7
  have rm2 := om2.read
  clear hb6 b7 om2 c0 c1
  go_wp2_with fail
  refine (HSD.out MD _ _ _ (by omega) rm rm2).mono ?_
  rintro e w8 ⟨rfl, b8⟩
  have hb8 := Lib.hid (hb7.trans (b8.mono hb7.size))
  replace tb := Lib.hid (tb.kept b8)
  replace rb := Lib.hid (rb.kept b8)
  replace rm := Lib.hid (rm.kept b8)
  clear hb7 b8 rm2
  go_wp2_with fail
  go_loopw [8] (fun iv wr => ∃ i : Nat, i ≤ MD.length ∧ iv = .int .i64 (i : Int) ∧ Hid (TB wr T cc (.slice au ll.length capu) ll) ∧ Hid (ReadI wr (.slice ab VB.length capb) VB) ∧ Hid (ReadD wr (.slice am MD.length capm) MD) ∧ Hid (Below w.heap.size w wr)) (fun iv _ => MD.length - (intOf iv).toNat)
  case atStart => exact ⟨0, by omega, rfl, tb, rb, rm, hb8⟩
  case round =>
    clear tb rb rm hb8
    obtain ⟨i, hi, rfl, tb, rb, rm, hb⟩ := hrel
    obtain ⟨w9, hw9⟩ : ∃ w', w' = wr := ⟨_, rfl⟩
    rw [← hw9] at tb rb rm hb ⊢
    clear hw9
    by_cases hlt : i < MD.length
    · obtain ⟨bm, om, rfl, h0, h1⟩ := readD_at rm.out hlt
      obtain ⟨him, hsm⟩ := HMI.out (MD.getD i (0, 0)) (getD_mem MD (0, 0) hlt)
      obtain ⟨⟨x0, x1⟩, hx⟩ : ∃ z, z = MD.getD i (0, 0) := ⟨_, rfl⟩
      rw [← hx] at h0 h1 him hsm
      simp only at h0 h1 him hsm
      have HI : Hid (∀ w', Below w9.heap.size w9 w' → Calls Tryz.prog 12 #[.agg #[.int .i64 cc, .slice au ll.length capu], .int .i64 md, .agg #[.int .i64 x0, .int .i64 x1]] w' fun e w'' => e = .returned (.bool true) ∧ Below w'.heap.size w' w'') := Lib.hid (fun w' hb' => by have h := HIM.out x0 x1 w' (tb.out.kept hb').2 (WalkArith.wf_i64 (by omega)) (WalkArith.wf_i64 (by omega)); rw [him] at h; exact h)
      obtain ⟨⟨c0, c1⟩, -, -⟩ := tb.out.1.cells
      have z0 : (0 : Int) ≤ (i : Int) := by omega
      have z1 : (i : Int) < (MD.length : Int) := by omega
      clear hx him hsm
      go_wp2_with fail
      go_region_law (go_simp; go_at_call 12; refine (HI.out _ (Below.refl _ _).drew).mono ?_; rintro e w10 ⟨rfl, b10⟩)
      all_goals
        replace b10 : Below w9.heap.size w9 w10 := (Below.refl w9.heap.size w9).drew.trans b10
        have hb' := Lib.hid (hb.out.trans (b10.mono hb.out.size))
        have tb' := Lib.hid (tb.out.kept b10)
        have rb' := Lib.hid (rb.out.kept b10)
        have rm' := Lib.hid (rm.out.kept b10)
        clear b10 c0 c1 h0 h1
        go_wp2_with fail
        go_roundw
        case rel => exact ⟨i + 1, by omega, by go_num, tb', rb', rm', hb'⟩
        case measure => simp [intOf]; omega
    · obtain rfl : i = MD.length := by omega
      clear HMI HIM
      go_upto_block 2 with fail
      go_cut [] (fun wx => Below w.heap.size w wx)
      case first =>
        clear HD2 HD3
        go_wp2_with fail
        go_loopw [9] (fun xv wr => ∃ x : Nat, x ≤ 32 ∧ xv = .int .i64 (x : Int) ∧ Hid (TB wr T cc (.slice au ll.length capu) ll) ∧ Hid (ReadI wr (.slice ab VB.length capb) VB) ∧ Hid (ReadD wr (.slice am MD.length capm) MD) ∧ Hid (Below w.heap.size w wr)) (fun xv _ => 32 - (intOf xv).toNat)
        case atStart => exact ⟨0, by omega, rfl, tb, rb, rm, hb⟩
        case round =>
          clear tb rb rm hb
          obtain ⟨x, hx32, rfl, tb, rb, rm, hb⟩ := hrel
          obtain ⟨w9, hw9⟩ : ∃ w', w' = wr := ⟨_, rfl⟩
          rw [← hw9] at tb rb rm hb ⊢
          clear hw9
          have hit := Lib.hid (HIT.out _ tb.out.2)
          obtain ⟨⟨c0, c1⟩, -, -⟩ := tb.out.1.cells
          by_cases hT : isT cc ll = true
          · have hitT := hit.out
            rw [hT] at hitT
            have HIT2 := Lib.hid hitT
            obtain ⟨hc1, hc5⟩ := HITC.out hT
            have HTT := Lib.hid hT
            clear hit hitT hT
            by_cases h1 : 0 ≤ md
            · by_cases h2 : md ≤ 1
              · by_cases h3 : 0 ≤ q
                · by_cases h4 : q < cc
                  · obtain ⟨C, hC⟩ : ∃ C : Nat, cc = (C : Int) := ⟨cc.toNat, by omega⟩
                    obtain ⟨R, hR⟩ : ∃ R : Nat, q = (R : Int) := ⟨q.toNat, by omega⟩
                    have HF := Lib.hid (HFL.out C R hC hR HTT.out h1 h2 (by omega) x)
                    subst hC hR
                    obtain ⟨N, hN⟩ : ∃ N : Nat, N = 2 ^ C := ⟨_, rfl⟩
                    have HN := Lib.hid hN
                    have hN32 : N ≤ 32 := by rw [hN]; exact two5 (by omega)
                    rw [← hN] at HF
                    have hC20 : C ≤ 20 := by omega
                    have h5 : R < C := by omega
                    have hw : wrap64 (2 ^ C) = (N : Int) := by rw [sh_small hC20, ← hN]
                    have hR20 : R ≤ 20 := by omega
                    clear hN HTT
                    by_cases hxN : x < N
                    · have z9 : (x : Int) < (N : Int) := by omega
                      have HW := Lib.hid (fun w' (hr : ReadSS w' (.slice au ll.length capu) ll) => HHD.out (x : Int) w' hr (wf_small x (by omega)))
                      have HF2 := Lib.hid (HF.out hxN)
                      clear HF
                      go_wp2_with fail
                      refine HIT2.out.mono ?_
                      rintro e w10 ⟨rfl, b10⟩
                      replace hb := Lib.hid (hb.out.trans (b10.mono hb.out.size))
                      replace tb := Lib.hid (tb.out.kept b10)
                      replace rb := Lib.hid (rb.out.kept b10)
                      replace rm := Lib.hid (rm.out.kept b10)
                      clear b10 c0 c1 HIT2
                      obtain ⟨⟨c0, c1⟩, -, -⟩ := tb.out.1.cells
                      go_wp2_with fail
                      clear c0 c1
                      go_loop [10, 11] (fun fv iv => ∃ (i : Nat) (f : Bool), i ≤ VB.length ∧ iv = .int .i64 (i : Int) ∧ fv = .bool f ∧ Hid (f = anyTo (pIn VB x) i)) (fun _ iv => VB.length - (intOf iv).toNat)
                      case atStart => exact ⟨0, false, by omega, rfl, rfl, Lib.hid rfl⟩
                      case round =>
                        obtain ⟨i, f, hi, rfl, rfl, hf⟩ := hrel
                        by_cases hlt : i < VB.length
                        · obtain ⟨xa, rfl, hxa⟩ := readI_at rb.out hlt
                          have hS : anyTo (pIn VB x) (i + 1) = (f || (bits .and .i64 (VB.getD i 0) (x : Int) == (x : Int))) := by rw [anyTo_succ, hf.out]; rfl
                          obtain ⟨y, hy⟩ : ∃ y, y = VB.getD i 0 := ⟨_, rfl⟩
                          rw [← hy] at hxa hS
                          obtain ⟨pb, hpb⟩ : ∃ pb, (bits .and .i64 y (x : Int) == (x : Int)) = pb := ⟨_, rfl⟩
                          rw [hpb] at hS
                          have HS := Lib.hid hS
                          have z0 : (0 : Int) ≤ (i : Int) := by omega
                          have z1 : (i : Int) < (VB.length : Int) := by omega
                          clear hy hS hf
                          cases f with
                          | true =>
                            go_wp2_with fail
                            go_round
                            case rel => exact ⟨i + 1, true, by omega, by go_num, rfl, Lib.hid (by rw [HS.out]; rfl)⟩
                            case measure => simp [intOf]; omega
                          | false =>
                            go_wp2_with fail
                            go_round
                            case rel => exact ⟨i + 1, pb, by omega, by go_num, rfl, Lib.hid (by rw [HS.out]; rfl)⟩
                            case measure => simp [intOf]; omega
                        · obtain rfl : i = VB.length := by omega
                          go_wp2_with fail
                          go_loopw [12, 13] (fun fv iv wr => ∃ (i : Nat) (f2 : Bool), i ≤ MD.length ∧ iv = .int .i64 (i : Int) ∧ fv = .bool f2 ∧ Hid (f2 = anyTo (pCov MD R x) i) ∧ Hid (Below w10.heap.size w10 wr)) (fun _ iv _ => MD.length - (intOf iv).toNat)
                          case atStart => exact ⟨0, false, by omega, rfl, rfl, Lib.hid rfl, Lib.hid (Below.refl _ _)⟩
                          case round =>
                            obtain ⟨i, f2, hi, rfl, rfl, hf2, hb10⟩ := hrel
                            obtain ⟨w11, hw11⟩ : ∃ w', w' = wr := ⟨_, rfl⟩
                            rw [← hw11] at hb10 ⊢
                            clear hw11
                            by_cases hlt : i < MD.length
                            · obtain ⟨bm, om, rfl, h0, h1'⟩ := readD_at (rm.out.kept hb10.out) hlt
                              have hS : anyTo (pCov MD R x) (i + 1) = (f2 || (((MD.getD i (0, 0)).2 == (R : Int)) && (bits .and .i64 (MD.getD i (0, 0)).1 (x : Int) == (MD.getD i (0, 0)).1))) := by rw [anyTo_succ, hf2.out]; rfl
                              obtain ⟨⟨y0, y1⟩, hy⟩ : ∃ z, z = MD.getD i (0, 0) := ⟨_, rfl⟩
                              rw [← hy] at h0 h1' hS
                              simp only at h0 h1' hS
                              obtain ⟨e1, he1⟩ : ∃ e1, (y1 == (R : Int)) = e1 := ⟨_, rfl⟩
                              obtain ⟨e2, he2⟩ : ∃ e2, (bits .and .i64 y0 (x : Int) == y0) = e2 := ⟨_, rfl⟩
                              rw [he1, he2] at hS
                              have HS := Lib.hid hS
                              have z0 : (0 : Int) ≤ (i : Int) := by omega
                              have z1 : (i : Int) < (MD.length : Int) := by omega
                              clear hy hS hf2
                              cases f2 with
                              | true =>
                                go_wp2_with fail
                                go_quiet (fail)
                                go_wp2_with fail
                                go_roundw
                                case rel => exact ⟨i + 1, true, by omega, by go_num, rfl, Lib.hid (by rw [HS.out]; rfl), Lib.hid (below_drewN hb10.out _)⟩
                                case measure => simp [intOf]; omega
                              | false =>
                                cases e1 with
                                | false =>
                                  go_wp2_with fail
                                  go_quiet (fail)
                                  go_wp2_with fail
                                  go_roundw
                                  case rel => exact ⟨i + 1, false, by omega, by go_num, rfl, Lib.hid (by rw [HS.out]; rfl), Lib.hid (below_drewN hb10.out _)⟩
                                  case measure => simp [intOf]; omega
                                | true =>
                                  go_wp2_with fail
                                  go_quiet (fail)
                                  go_wp2_with fail
                                  go_roundw
                                  case rel => exact ⟨i + 1, e2, by omega, by go_num, rfl, Lib.hid (by rw [HS.out]; rfl), Lib.hid (below_drewN hb10.out _)⟩
                                  case measure => simp [intOf]; omega
                            · obtain rfl : i = MD.length := by omega
                              obtain ⟨Z, hZ⟩ : ∃ Z : Nat, Z = x / 2 ^ R := ⟨_, rfl⟩
                              have HZ := Lib.hid hZ
                              have hbit : (bits BinOp.and IntKind.i64 (Z : Int) 1 == 0) = !bitB x R := by
                                have h := bit_zero x R
                                rw [show (x : Int) / 2 ^ R = ((x / 2 ^ R : Nat) : Int) by rw [Int.natCast_ediv, Int.natCast_pow]; rfl, ← hZ] at h
                                exact h
                              have hb11 := hb.out.trans (hb10.out.mono hb.out.size)
                              have tb11 := tb.out.kept hb10.out
                              have rb11 := Lib.hid (rb.out.kept hb10.out)
                              have rm11 := Lib.hid (rm.out.kept hb10.out)
                              have HB11 := Lib.hid hb11
                              have TB11 := Lib.hid tb11
                              obtain ⟨⟨c0, c1⟩, -, -⟩ := tb11.1.cells
                              clear hZ hb11 tb11
                              cases hB : bitB x R with
                              | true =>
                                rw [hB] at hbit
                                clear hB HF2
                                go_wp2_with (first | (refine wpList_shr _ rfl _ _ _ _ rfl x R Z HZ.out rfl rfl hR20 ?_))
                                go_roundw
                                case rel => exact ⟨x + 1, by omega, by go_num, TB11, rb11, rm11, HB11⟩
                                case measure => simp [intOf]; omega
                              | false =>
                                rw [hB] at hbit
                                obtain ⟨k1, k2⟩ := HF2.out hB
                                rw [← hf.out] at k1
                                rw [← hf2.out] at k2
                                have HQ := Lib.hid (HW.out _ TB11.out.2)
                                obtain ⟨hh, hhh⟩ : ∃ hh, hh = holdsD (C : Int) ll md (x : Int) (R : Int) := ⟨_, rfl⟩
                                rw [← hhh] at k1 k2 HQ
                                clear hB HF2 hhh hf hf2
                                subst k1 k2
                                cases f2 with
                                | true =>
                                  go_wp2_with (first | (refine wpList_shr _ rfl _ _ _ _ rfl x R Z HZ.out rfl rfl hR20 ?_))
                                  refine HQ.out.mono ?_
                                  rintro e w12 ⟨rfl, b12⟩
                                  have HB12 := Lib.hid (HB11.out.trans (b12.mono HB11.out.size))
                                  have TB12 := Lib.hid (TB11.out.kept b12)
                                  have rb12 := Lib.hid (rb11.out.kept b12)
                                  have rm12 := Lib.hid (rm11.out.kept b12)
                                  clear b12 c0 c1
                                  go_wp2_with fail
                                  go_roundw
                                  case rel => exact ⟨x + 1, by omega, by go_num, TB12, rb12, rm12, HB12⟩
                                  case measure => simp [intOf]; omega
                                | false =>
                                  go_wp2_with (first | (refine wpList_shr _ rfl _ _ _ _ rfl x R Z HZ.out rfl rfl hR20 ?_))
                                  refine HQ.out.mono ?_
                                  rintro e w12 ⟨rfl, b12⟩
                                  have HB12 := Lib.hid (HB11.out.trans (b12.mono HB11.out.size))
                                  have TB12 := Lib.hid (TB11.out.kept b12)
                                  have rb12 := Lib.hid (rb11.out.kept b12)
                                  have rm12 := Lib.hid (rm11.out.kept b12)
                                  clear b12 c0 c1
                                  go_wp2_with fail
                                  go_roundw
                                  case rel => exact ⟨x + 1, by omega, by go_num, TB12, rb12, rm12, HB12⟩
                                  case measure => simp [intOf]; omega
                    · have z9 : ¬ (x : Int) < (N : Int) := by omega
                      go_wp2_with fail
                      refine HIT2.out.mono ?_
                      rintro e w10 ⟨rfl, b10⟩
                      replace hb := Lib.hid (hb.out.trans (b10.mono hb.out.size))
                      replace tb := Lib.hid (tb.out.kept b10)
                      clear c0 c1
                      obtain ⟨⟨c0, c1⟩, -, -⟩ := tb.out.1.cells
                      go_wp2_with fail
                      go_meet
                      case rel => exact hb.out
                  · go_wp2_with fail
                    refine HIT2.out.mono ?_
                    rintro e w10 ⟨rfl, b10⟩
                    replace hb := Lib.hid (hb.out.trans (b10.mono hb.out.size))
                    replace tb := Lib.hid (tb.out.kept b10)
                    clear c0 c1
                    obtain ⟨⟨c0, c1⟩, -, -⟩ := tb.out.1.cells
                    go_wp2_with fail
                    go_meet
                    case rel => exact hb.out
                · go_wp2_with fail
                  refine HIT2.out.mono ?_
                  rintro e w10 ⟨rfl, b10⟩
                  replace hb := Lib.hid (hb.out.trans (b10.mono hb.out.size))
                  go_wp2_with fail
                  go_meet
                  case rel => exact hb.out
              · go_wp2_with fail
                refine HIT2.out.mono ?_
                rintro e w10 ⟨rfl, b10⟩
                replace hb := Lib.hid (hb.out.trans (b10.mono hb.out.size))
                go_wp2_with fail
                go_meet
                case rel => exact hb.out
            · go_wp2_with fail
              refine HIT2.out.mono ?_
              rintro e w10 ⟨rfl, b10⟩
              replace hb := Lib.hid (hb.out.trans (b10.mono hb.out.size))
              go_wp2_with fail
              go_meet
              case rel => exact hb.out
          · have hitF := hit.out
            rw [Bool.not_eq_true] at hT
            rw [hT] at hitF
            have HIT2 := Lib.hid hitF
            clear hit hitF hT
            go_wp2_with fail
            refine HIT2.out.mono ?_
            rintro e w10 ⟨rfl, b10⟩
            replace hb := Lib.hid (hb.out.trans (b10.mono hb.out.size))
            go_wp2_with fail
            go_meet
            case rel => exact hb.out
      case rest =>
        clear tb rb rm hb HFL HV1 HV2 HM1 HM2 HHD HIT HSM HITC hvl hml
        go_wp2_with fail
        refine (HD2.out _ hcut).mono ?_
        rintro e w20 ⟨c2, u2, l2, m2, x2, y2, m20, m21, x20, x21, y20, y21, rfl, hl2, hlr2, o2, b20⟩
        obtain ⟨a2, cap2, rfl, -⟩ := o2.read
        have hb20 := hcut.trans (b20.mono hcut.size)
        have HTD := TDc.mk' w20 26 37 c2 (.slice a2 l2.length cap2) x2 y2
        have hal := ((Below.refl w20.heap.size w20).alloc (Nat.le_refl _) (.cells #[.int .i64 c2, .slice a2 l2.length cap2] 26)).alloc (by simp) (.cells #[.int .i64 x2, .int .i64 y2] 37)
        have hs2 := o2.read.kept hal
        have hb21 := hb20.trans (hal.mono hb20.size)
        go_wp2_with fail
        obtain ⟨T2, hT2⟩ : ∃ T2, T2 = w20.heap.size := ⟨_, rfl⟩
        obtain ⟨w21, hw21⟩ : ∃ w21, w21 = (w20.alloc (.cells #[.int .i64 c2, .slice a2 l2.length cap2] 26)).alloc (.cells #[.int .i64 x2, .int .i64 y2] 37) := ⟨_, rfl⟩
        rw [← hw21] at HTD hs2 hb21 ⊢
        rw [← hT2] at HTD ⊢
        clear hw21 hT2 hal o2 b20 hb20
        refine (HD3.out _ hb21).mono ?_
        rintro e w22 ⟨c3, u3, l3, m3, rows, m30, m31, r30, r31, rfl, hl3, hlr3, o3, b22⟩
        obtain ⟨a3, cap3, rfl, -⟩ := o3.read
        have hb22 := hb21.trans (b22.mono hb21.size)
        have tb3 := TB.mk' (c := c3) o3.read
        have ha3 := (Below.refl w22.heap.size w22).alloc (Nat.le_refl _) (.cells #[.int .i64 c3, .slice a3 l3.length cap3] 26)
        replace HTD := (HTD.kept b22).kept ha3
        replace hs2 := (hs2.kept b22).kept ha3
        have hb23 := hb22.trans (ha3.mono hb22.size)
        obtain ⟨⟨c0, c1⟩, -, -⟩ := tb3.1.cells
        go_wp2_with fail
        obtain ⟨T3, hT3⟩ : ∃ T3, T3 = w22.heap.size := ⟨_, rfl⟩
        obtain ⟨w23, hw23⟩ : ∃ w23, w23 = w22.alloc (.cells #[.int .i64 c3, .slice a3 l3.length cap3] 26) := ⟨_, rfl⟩
        rw [← hw23] at HTD hs2 hb23 tb3 ⊢
        rw [← hT3] at tb3 ⊢
        clear hw23 hT3 ha3 o3 b22 hb22 hb21 c0 c1
        have hl21 : l2.length ≤ 1048576 := by omega
        have hr21 : ∀ i, i < l2.length → (l2.getD i []).length ≤ 1048576 := fun i hi => Nat.le_trans (rows_few hlr2 i hi) (by omega)
        have hl31 : l3.length ≤ 1048576 := by omega
        have hr31 : ∀ i, i < l3.length → (l3.getD i []).length ≤ 1048576 := fun i hi => Nat.le_trans (rows_few hlr3 i hi) (by omega)
        have m2w : (Lit.int .i64 m2).wf = true := WalkArith.wf_i64 (by omega)
        have x2w : (Lit.int .i64 x2).wf = true := WalkArith.wf_i64 (by omega)
        have y2w : (Lit.int .i64 y2).wf = true := WalkArith.wf_i64 (by omega)
        have m3w : (Lit.int .i64 m3).wf = true := WalkArith.wf_i64 (by omega)
        have HA1 := Lib.hid (implApproximateDeps_any c3 m3 rows (.slice a3 l3.length cap3) l3 m3w w23 tb3.2 hl31 hr31)
        have HRR : Hid (∀ x y w', ReadSS w' (.slice a3 l3.length cap3) l3 → Calls Tryz.prog 18 #[.agg #[.int .i64 c3, .slice a3 l3.length cap3], .int .i64 m3, .agg #[.int .i64 x, .int .i64 y]] w' fun e w'' => e = .returned (.int .i64 (remD c3 l3 m3 x y)) ∧ Below w'.heap.size w' w'') := Lib.hid (fun x y w' hr => rowsToRemove_any c3 m3 x y _ l3 w' hr hl31 hr31)
        have HI1 : Hid (∀ w', ReadSS w' (.slice a2 l2.length cap2) l2 → Calls Tryz.prog 12 #[.agg #[.int .i64 c2, .slice a2 l2.length cap2], .int .i64 m2, .agg #[.int .i64 x2, .int .i64 y2]] w' fun e w'' => e = .returned (.bool (imB c2 l2 m2 x2 y2)) ∧ Below w'.heap.size w' w'') := Lib.hid (fun w' hr => implIsMinimalDep_any c2 m2 x2 y2 _ l2 m2w x2w y2w w' hr hl21 hr21)
        have HI2 : Hid (∀ w', ReadSS w' (.slice a2 l2.length cap2) l2 → Calls Tryz.prog 19 #[.agg #[.int .i64 c2, .slice a2 l2.length cap2], .int .i64 m2, .agg #[.int .i64 x2, .int .i64 y2]] w' fun e w'' => e = .returned (.bool (imB c2 l2 m2 x2 y2)) ∧ Below w'.heap.size w' w'') := Lib.hid (fun w' hr => isMinimalDep_any c2 m2 x2 y2 _ l2 w' hr hl21 hr21)
        have HA2 : Hid (∀ w', ReadSS w' (.slice a3 l3.length cap3) l3 → Calls Tryz.prog 20 #[.agg #[.int .i64 c3, .slice a3 l3.length cap3], .int .i64 m3, .int .i64 rows] w' (RetD (apL c3 l3 m3 rows) w')) := Lib.hid (fun w' hr => approximateDeps_any c3 m3 rows _ l3 w' hr hl31 hr31)
        have HM3 : Hid (∀ w', ReadSS w' (.slice a3 l3.length cap3) l3 → Calls Tryz.prog 11 #[.agg #[.int .i64 c3, .slice a3 l3.length cap3], .int .i64 m3] w' (RetD (mdL c3 l3 m3) w')) := Lib.hid (fun w' hr => minimalDeps_any c3 m3 _ l3 w' hr hl31 hr31)
        have hal := apL_len c3 l3 m3 rows
        have HAP : Hid (∀ d ∈ apL c3 l3 m3 rows, remD c3 l3 m3 d.1 d.2 ≤ rows) := Lib.hid (fun d hd => apx_rows hd)
        have HAZ : Hid (rows = 0 → mdL c3 l3 m3 = apL c3 l3 m3 rows) := Lib.hid (fun h => by rw [h]; exact (apx_zero c3 m3 l3).symm)
        obtain ⟨AP, hAP⟩ : ∃ AP, AP = apL c3 l3 m3 rows := ⟨_, rfl⟩
        obtain ⟨I, hI⟩ : ∃ I, I = imB c2 l2 m2 x2 y2 := ⟨_, rfl⟩
        rw [← hAP] at HA1 HA2 hal HAP HAZ
        rw [← hI] at HI1 HI2
        clear hAP hI hl21 hr21 hl31 hr31 m2w x2w y2w m3w hlr2 hlr3
        refine HA1.out.mono ?_
        rintro e w24 ⟨vp, rfl, op, b24⟩
        have hb24 := Lib.hid (hb23.trans (b24.mono hb23.size))
        replace tb3 := Lib.hid (tb3.kept b24)
        replace HTD := Lib.hid (HTD.kept b24)
        replace hs2 := Lib.hid (hs2.kept b24)
        have rp := Lib.hid op.read
        obtain ⟨ap, capp, rfl, -⟩ := op.read
        clear hb23 b24 op HA1
        go_wp2_with fail
        go_loopw [21] (fun iv wr => ∃ i : Nat, i ≤ AP.length ∧ iv = .int .i64 (i : Int) ∧ Hid (TB wr T3 c3 (.slice a3 l3.length cap3) l3) ∧ Hid (TDc wr T2 c2 (.slice a2 l2.length cap2) x2 y2) ∧ Hid (ReadSS wr (.slice a2 l2.length cap2) l2) ∧ Hid (ReadD wr (.slice ap AP.length capp) AP) ∧ Hid (Below w.heap.size w wr)) (fun iv _ => AP.length - (intOf iv).toNat)
        case atStart => exact ⟨0, by omega, rfl, tb3, HTD, hs2, rp, hb24⟩
        case round =>
          clear tb3 HTD hs2 rp hb24
          obtain ⟨i, hi, rfl, tb3, HTD, hs2, rp, hb⟩ := hrel
          obtain ⟨w30, hw30⟩ : ∃ w', w' = wr := ⟨_, rfl⟩
          rw [← hw30] at tb3 HTD hs2 rp hb ⊢
          clear hw30
          obtain ⟨⟨t0, t1⟩, -, -⟩ := tb3.out.1.cells
          by_cases hlt : i < AP.length
          · obtain ⟨bm, om, rfl, h0, h1⟩ := readD_at rp.out hlt
            have hle := HAP.out (AP.getD i (0, 0)) (getD_mem AP (0, 0) hlt)
            obtain ⟨⟨k0, k1⟩, hx⟩ : ∃ z, z = AP.getD i (0, 0) := ⟨_, rfl⟩
            rw [← hx] at h0 h1 hle
            simp only at h0 h1 hle
            obtain ⟨d, hd⟩ : ∃ d, d = remD c3 l3 m3 k0 k1 := ⟨_, rfl⟩
            have hq : ∀ w', Below w30.heap.size w30 w' → _ := fun w' hb' => HRR.out k0 k1 w' (tb3.out.kept hb').2
            rw [← hd] at hq hle
            have HQ := Lib.hid hq
            have hnd : ¬ rows < d := by omega
            have z0 : (0 : Int) ≤ (i : Int) := by omega
            have z1 : (i : Int) < (AP.length : Int) := by omega
            clear hx hd hq hle
            go_wp2_with fail
            go_region_law (go_simp; go_at_call 18; refine (HQ.out _ (Below.refl _ _).drew).mono ?_; rintro e w31 ⟨rfl, b31⟩)
            all_goals
              replace b31 : Below w30.heap.size w30 w31 := (Below.refl w30.heap.size w30).drew.trans b31
              have hb' := Lib.hid (hb.out.trans (b31.mono hb.out.size))
              have tb' := Lib.hid (tb3.out.kept b31)
              have td' := Lib.hid (HTD.out.kept b31)
              have hs' := Lib.hid (hs2.out.kept b31)
              have rp' := Lib.hid (rp.out.kept b31)
              clear b31 t0 t1 h0 h1
              go_wp2_with fail
              go_roundw
              case rel => exact ⟨i + 1, by omega, by go_num, tb', td', hs', rp', hb'⟩
              case measure => simp [intOf]; omega
          · obtain rfl : i = AP.length := by omega
            obtain ⟨⟨s0, s1⟩, s2, s3⟩ := HTD.out
            have K1 := Lib.hid (fun w' (hb' : Below w30.heap.size w30 w') => HI1.out w' (hs2.out.kept hb'))
            have K2 := Lib.hid (fun w' (hb' : Below w30.heap.size w30 w') => HI2.out w' (hs2.out.kept hb'))
            have K3 := Lib.hid (fun w' (hb' : Below w30.heap.size w30 w') => HA2.out w' (tb3.out.kept hb').2)
            have K4 := Lib.hid (fun v' w' (hb' : Below w30.heap.size w30 w') (hr : ReadD w' v' AP) => HSD.out AP (.slice ap AP.length capp) v' w' (by omega) (rp.out.kept hb') hr)
            have hII : (I == I) = true := beq_self_eq_true I
            have HBW := Lib.hid hb.out
            by_cases hz : rows = 0
            · have hne : (rows != 0) = false := by rw [hz]; rfl
              have K5 := Lib.hid (fun w' (hb' : Below w30.heap.size w30 w') => HM3.out w' (tb3.out.kept hb').2)
              rw [HAZ.out hz] at K5
              have K6 := K4
              clear tb3 HTD hs2 rp hb HI1 HI2 HA2 HM3 HSD HAZ HAP HRR hz
              go_wp2_with fail
              refine wp_region_noPanic ?_
              refine wp_region_held_drew (S := (fun w' => ((w'.cell? ⟨T2, 0, none⟩ = some (.int .i64 c2) ∧ w'.cell? ⟨T2, 1, none⟩ = some (.slice a2 l2.length cap2)) ∧ w'.cell? ⟨T2 + 1, 0, none⟩ = some (.int .i64 x2) ∧ w'.cell? ⟨T2 + 1, 1, none⟩ = some (.int .i64 y2)) ∧ (w'.cell? ⟨T3, 0, none⟩ = some (.int .i64 c3) ∧ w'.cell? ⟨T3, 1, none⟩ = some (.slice a3 l3.length cap3)) ∧ Below w30.heap.size w30 w')) (by kernel_rfl) ?_ (fun hHeld => ?_)
              · ((try dsimp only); (first | exact keepC hHeld b96 | exact keepC hHeld b95 | exact keepC hHeld b94 | exact keepC hHeld b93 | exact keepC hHeld b92 | exact keepC hHeld b91 | exact ⟨⟨⟨s0, s1⟩, s2, s3⟩, ⟨t0, t1⟩, (Below.refl _ _).drew⟩))
              refine wpAnyH_take (i := 0) (v := ?_) rfl (by kernel_rfl) (by kernel_rfl) (by kernel_rfl) (fun _ _ _ h => h) (Or.inl ⟨by rfl, ?_⟩) (by assumption) ?_
              rotate_left
              · (intro w hSw; (try dsimp only at hSw); go_simp; (try with_reducible rfl))
              (try simp only [Act.put, List.getElem_toArray, List.getElem_cons_zero, List.setIfInBounds_toArray, List.set_cons_zero, List.set_cons_succ])
              refine wpAnyH_take (i := 1) (v := ?_) rfl (by kernel_rfl) (by kernel_rfl) (by kernel_rfl) (fun _ _ _ h => h) (Or.inl ⟨by rfl, ?_⟩) (by assumption) ?_
              rotate_left
              · (intro w hSw; (try dsimp only at hSw); go_simp; (try with_reducible rfl))
              (try simp only [Act.put, List.getElem_toArray, List.getElem_cons_succ, List.getElem_cons_zero, List.setIfInBounds_toArray, List.set_cons_zero, List.set_cons_succ])
              refine wpAnyH_take (i := 2) (v := ?_) rfl (by kernel_rfl) (by kernel_rfl) (by kernel_rfl) (fun _ _ _ h => h) (Or.inl ⟨by rfl, ?_⟩) (by assumption) ?_
              rotate_left
              · (intro w hSw; (try dsimp only at hSw); go_simp; (try with_reducible rfl))
              (try simp only [Act.put, List.getElem_toArray, List.getElem_cons_succ, List.getElem_cons_zero, List.setIfInBounds_toArray, List.set_cons_zero, List.set_cons_succ])
              refine wpAnyH_take (i := 4) (v := ?_) rfl (by kernel_rfl) (by kernel_rfl) (by kernel_rfl) (fun _ _ _ h => h) (Or.inl ⟨by rfl, ?_⟩) (by assumption) ?_
              rotate_left
              · (intro w hSw; (try dsimp only at hSw); go_simp; (try with_reducible rfl))
              (try simp only [Act.put, List.getElem_toArray, List.getElem_cons_succ, List.getElem_cons_zero, List.setIfInBounds_toArray, List.set_cons_zero, List.set_cons_succ])
              refine wpAnyH_take (i := 5) (v := ?_) rfl (by kernel_rfl) (by kernel_rfl) (by kernel_rfl) (fun _ _ _ h => h) (Or.inl ⟨by rfl, ?_⟩) (by assumption) ?_
              rotate_left
              · (intro w hSw; (try dsimp only at hSw); go_simp; (try with_reducible rfl))
              (try simp only [Act.put, List.getElem_toArray, List.getElem_cons_succ, List.getElem_cons_zero, List.setIfInBounds_toArray, List.set_cons_zero, List.set_cons_succ])
              refine wpAnyH_take (i := 6) (v := ?_) rfl (by kernel_rfl) (by kernel_rfl) (by kernel_rfl) (fun _ _ _ h => h) (Or.inl ⟨by rfl, ?_⟩) (by assumption) ?_
              rotate_left
              · (intro w hSw; (try dsimp only at hSw); go_simp; (try with_reducible rfl))
              (try simp only [Act.put, List.getElem_toArray, List.getElem_cons_succ, List.getElem_cons_zero, List.setIfInBounds_toArray, List.set_cons_zero, List.set_cons_succ])
              refine wpAnyH_ready (rs := [3]) (by kernel_rfl) (by simp) (AllReadyH.cons rfl (fun K hK => ?_) AllReadyH.nil)
              (first | ((first | (go_at_call 10; refine (K6.out _ _ hHeld.2.2 r95).mono ?_; rintro e w96 ⟨rfl, b96⟩) | (go_at_call 10; refine (K4.out _ _ hHeld.2.2 r93).mono ?_; rintro e w94 ⟨rfl, b94⟩) | (go_at_call 12; refine (K1.out _ hHeld.2.2).mono ?_; rintro e w91 ⟨rfl, b91⟩) | (go_at_call 19; refine (K2.out _ hHeld.2.2).mono ?_; rintro e w92 ⟨rfl, b92⟩) | (go_at_call 20; refine (K3.out _ hHeld.2.2).mono ?_; rintro e w93 ⟨v93, rfl, o93, b93⟩; have r93 := o93.read) | (go_at_call 11; refine (K5.out _ hHeld.2.2).mono ?_; rintro e w95 ⟨v95, rfl, o95, b95⟩; have r95 := o95.read))) | (go_simp; (first | (go_at_call 10; refine (K6.out _ _ hHeld.2.2 r95).mono ?_; rintro e w96 ⟨rfl, b96⟩) | (go_at_call 10; refine (K4.out _ _ hHeld.2.2 r93).mono ?_; rintro e w94 ⟨rfl, b94⟩) | (go_at_call 12; refine (K1.out _ hHeld.2.2).mono ?_; rintro e w91 ⟨rfl, b91⟩) | (go_at_call 19; refine (K2.out _ hHeld.2.2).mono ?_; rintro e w92 ⟨rfl, b92⟩) | (go_at_call 20; refine (K3.out _ hHeld.2.2).mono ?_; rintro e w93 ⟨v93, rfl, o93, b93⟩; have r93 := o93.read) | (go_at_call 11; refine (K5.out _ hHeld.2.2).mono ?_; rintro e w95 ⟨v95, rfl, o95, b95⟩; have r95 := o95.read))))
              (try (go_wp2_with fail))
              refine hK.out _ _ ?_ (fun hHeld => ?_)
              · ((try dsimp only); (first | exact keepC hHeld b96 | exact keepC hHeld b95 | exact keepC hHeld b94 | exact keepC hHeld b93 | exact keepC hHeld b92 | exact keepC hHeld b91 | exact ⟨⟨⟨s0, s1⟩, s2, s3⟩, ⟨t0, t1⟩, (Below.refl _ _).drew⟩))
              clear hK K
              (try simp only [Act.put, List.getElem_toArray, List.getElem_cons_succ, List.getElem_cons_zero, List.setIfInBounds_toArray, List.set_cons_zero, List.set_cons_succ])
              refine wpAnyH_ready (rs := [7]) (by kernel_rfl) (by simp) (AllReadyH.cons rfl (fun K hK => ?_) AllReadyH.nil)
              (first | ((first | (go_at_call 10; refine (K6.out _ _ hHeld.2.2 r95).mono ?_; rintro e w96 ⟨rfl, b96⟩) | (go_at_call 10; refine (K4.out _ _ hHeld.2.2 r93).mono ?_; rintro e w94 ⟨rfl, b94⟩) | (go_at_call 12; refine (K1.out _ hHeld.2.2).mono ?_; rintro e w91 ⟨rfl, b91⟩) | (go_at_call 19; refine (K2.out _ hHeld.2.2).mono ?_; rintro e w92 ⟨rfl, b92⟩) | (go_at_call 20; refine (K3.out _ hHeld.2.2).mono ?_; rintro e w93 ⟨v93, rfl, o93, b93⟩; have r93 := o93.read) | (go_at_call 11; refine (K5.out _ hHeld.2.2).mono ?_; rintro e w95 ⟨v95, rfl, o95, b95⟩; have r95 := o95.read))) | (go_simp; (first | (go_at_call 10; refine (K6.out _ _ hHeld.2.2 r95).mono ?_; rintro e w96 ⟨rfl, b96⟩) | (go_at_call 10; refine (K4.out _ _ hHeld.2.2 r93).mono ?_; rintro e w94 ⟨rfl, b94⟩) | (go_at_call 12; refine (K1.out _ hHeld.2.2).mono ?_; rintro e w91 ⟨rfl, b91⟩) | (go_at_call 19; refine (K2.out _ hHeld.2.2).mono ?_; rintro e w92 ⟨rfl, b92⟩) | (go_at_call 20; refine (K3.out _ hHeld.2.2).mono ?_; rintro e w93 ⟨v93, rfl, o93, b93⟩; have r93 := o93.read) | (go_at_call 11; refine (K5.out _ hHeld.2.2).mono ?_; rintro e w95 ⟨v95, rfl, o95, b95⟩; have r95 := o95.read))))
              (try (go_wp2_with fail))
              refine hK.out _ _ ?_ (fun hHeld => ?_)
              · ((try dsimp only); (first | exact keepC hHeld b96 | exact keepC hHeld b95 | exact keepC hHeld b94 | exact keepC hHeld b93 | exact keepC hHeld b92 | exact keepC hHeld b91 | exact ⟨⟨⟨s0, s1⟩, s2, s3⟩, ⟨t0, t1⟩, (Below.refl _ _).drew⟩))
              clear hK K
              (try simp only [Act.put, List.getElem_toArray, List.getElem_cons_succ, List.getElem_cons_zero, List.setIfInBounds_toArray, List.set_cons_zero, List.set_cons_succ])
              refine wpAnyH_take (i := 8) (v := ?_) rfl (by kernel_rfl) (by kernel_rfl) (by kernel_rfl) (fun _ _ _ h => h) (Or.inl ⟨by rfl, ?_⟩) (by assumption) ?_
              rotate_left
              · (intro w hSw; (try dsimp only at hSw); go_simp; (try with_reducible rfl))
              (try simp only [Act.put, List.getElem_toArray, List.getElem_cons_succ, List.getElem_cons_zero, List.setIfInBounds_toArray, List.set_cons_zero, List.set_cons_succ])
              refine wpAnyH_take (i := 9) (v := ?_) rfl (by kernel_rfl) (by kernel_rfl) (by kernel_rfl) (fun _ _ _ h => h) (Or.inl ⟨by rfl, ?_⟩) (by assumption) ?_
              rotate_left
              · (intro w hSw; (try dsimp only at hSw); go_simp; (try with_reducible rfl))
              (try simp only [Act.put, List.getElem_toArray, List.getElem_cons_succ, List.getElem_cons_zero, List.setIfInBounds_toArray, List.set_cons_zero, List.set_cons_succ])
              refine wpAnyH_take (i := 10) (v := ?_) rfl (by kernel_rfl) (by kernel_rfl) (by kernel_rfl) (fun _ _ _ h => h) (Or.inl ⟨by rfl, ?_⟩) (by assumption) ?_
              rotate_left
              · (intro w hSw; (try dsimp only at hSw); go_simp; (try with_reducible rfl))
              (try simp only [Act.put, List.getElem_toArray, List.getElem_cons_succ, List.getElem_cons_zero, List.setIfInBounds_toArray, List.set_cons_zero, List.set_cons_succ])
              refine wpAnyH_take (i := 11) (v := ?_) rfl (by kernel_rfl) (by kernel_rfl) (by kernel_rfl) (fun _ _ _ h => h) (Or.inl ⟨by rfl, ?_⟩) (by assumption) ?_
              rotate_left
              · (intro w hSw; (try dsimp only at hSw); go_simp; (try with_reducible rfl))
              (try simp only [Act.put, List.getElem_toArray, List.getElem_cons_succ, List.getElem_cons_zero, List.setIfInBounds_toArray, List.set_cons_zero, List.set_cons_succ])
              refine wpAnyH_take (i := 12) (v := ?_) rfl (by kernel_rfl) (by kernel_rfl) (by kernel_rfl) (fun _ _ _ h => h) (Or.inl ⟨by rfl, ?_⟩) (by assumption) ?_
              rotate_left
              · (intro w hSw; (try dsimp only at hSw); go_simp; (try with_reducible rfl))
              (try simp only [Act.put, List.getElem_toArray, List.getElem_cons_succ, List.getElem_cons_zero, List.setIfInBounds_toArray, List.set_cons_zero, List.set_cons_succ])
              refine wpAnyH_take (i := 13) (v := ?_) rfl (by kernel_rfl) (by kernel_rfl) (by kernel_rfl) (fun _ _ _ h => h) (Or.inl ⟨by rfl, ?_⟩) (by assumption) ?_
              rotate_left
              · (intro w hSw; (try dsimp only at hSw); go_simp; (try with_reducible rfl))
              (try simp only [Act.put, List.getElem_toArray, List.getElem_cons_succ, List.getElem_cons_zero, List.setIfInBounds_toArray, List.set_cons_zero, List.set_cons_succ])
              refine wpAnyH_ready (rs := [14]) (by kernel_rfl) (by simp) (AllReadyH.cons rfl (fun K hK => ?_) AllReadyH.nil)
              (first | ((first | (go_at_call 10; refine (K6.out _ _ hHeld.2.2 r95).mono ?_; rintro e w96 ⟨rfl, b96⟩) | (go_at_call 10; refine (K4.out _ _ hHeld.2.2 r93).mono ?_; rintro e w94 ⟨rfl, b94⟩) | (go_at_call 12; refine (K1.out _ hHeld.2.2).mono ?_; rintro e w91 ⟨rfl, b91⟩) | (go_at_call 19; refine (K2.out _ hHeld.2.2).mono ?_; rintro e w92 ⟨rfl, b92⟩) | (go_at_call 20; refine (K3.out _ hHeld.2.2).mono ?_; rintro e w93 ⟨v93, rfl, o93, b93⟩; have r93 := o93.read) | (go_at_call 11; refine (K5.out _ hHeld.2.2).mono ?_; rintro e w95 ⟨v95, rfl, o95, b95⟩; have r95 := o95.read))) | (go_simp; (first | (go_at_call 10; refine (K6.out _ _ hHeld.2.2 r95).mono ?_; rintro e w96 ⟨rfl, b96⟩) | (go_at_call 10; refine (K4.out _ _ hHeld.2.2 r93).mono ?_; rintro e w94 ⟨rfl, b94⟩) | (go_at_call 12; refine (K1.out _ hHeld.2.2).mono ?_; rintro e w91 ⟨rfl, b91⟩) | (go_at_call 19; refine (K2.out _ hHeld.2.2).mono ?_; rintro e w92 ⟨rfl, b92⟩) | (go_at_call 20; refine (K3.out _ hHeld.2.2).mono ?_; rintro e w93 ⟨v93, rfl, o93, b93⟩; have r93 := o93.read) | (go_at_call 11; refine (K5.out _ hHeld.2.2).mono ?_; rintro e w95 ⟨v95, rfl, o95, b95⟩; have r95 := o95.read))))
              (try (go_wp2_with fail))
              refine hK.out _ _ ?_ (fun hHeld => ?_)
              · ((try dsimp only); (first | exact keepC hHeld b96 | exact keepC hHeld b95 | exact keepC hHeld b94 | exact keepC hHeld b93 | exact keepC hHeld b92 | exact keepC hHeld b91 | exact ⟨⟨⟨s0, s1⟩, s2, s3⟩, ⟨t0, t1⟩, (Below.refl _ _).drew⟩))
              clear hK K
              (try simp only [Act.put, List.getElem_toArray, List.getElem_cons_succ, List.getElem_cons_zero, List.setIfInBounds_toArray, List.set_cons_zero, List.set_cons_succ])
              refine wpAnyH_ready (rs := [15]) (by kernel_rfl) (by simp) (AllReadyH.cons rfl (fun K hK => ?_) AllReadyH.nil)
              (first | ((first | (go_at_call 10; refine (K6.out _ _ hHeld.2.2 r95).mono ?_; rintro e w96 ⟨rfl, b96⟩) | (go_at_call 10; refine (K4.out _ _ hHeld.2.2 r93).mono ?_; rintro e w94 ⟨rfl, b94⟩) | (go_at_call 12; refine (K1.out _ hHeld.2.2).mono ?_; rintro e w91 ⟨rfl, b91⟩) | (go_at_call 19; refine (K2.out _ hHeld.2.2).mono ?_; rintro e w92 ⟨rfl, b92⟩) | (go_at_call 20; refine (K3.out _ hHeld.2.2).mono ?_; rintro e w93 ⟨v93, rfl, o93, b93⟩; have r93 := o93.read) | (go_at_call 11; refine (K5.out _ hHeld.2.2).mono ?_; rintro e w95 ⟨v95, rfl, o95, b95⟩; have r95 := o95.read))) | (go_simp; (first | (go_at_call 10; refine (K6.out _ _ hHeld.2.2 r95).mono ?_; rintro e w96 ⟨rfl, b96⟩) | (go_at_call 10; refine (K4.out _ _ hHeld.2.2 r93).mono ?_; rintro e w94 ⟨rfl, b94⟩) | (go_at_call 12; refine (K1.out _ hHeld.2.2).mono ?_; rintro e w91 ⟨rfl, b91⟩) | (go_at_call 19; refine (K2.out _ hHeld.2.2).mono ?_; rintro e w92 ⟨rfl, b92⟩) | (go_at_call 20; refine (K3.out _ hHeld.2.2).mono ?_; rintro e w93 ⟨v93, rfl, o93, b93⟩; have r93 := o93.read) | (go_at_call 11; refine (K5.out _ hHeld.2.2).mono ?_; rintro e w95 ⟨v95, rfl, o95, b95⟩; have r95 := o95.read))))
              (try (go_wp2_with fail))
              refine hK.out _ _ ?_ (fun hHeld => ?_)
              · ((try dsimp only); (first | exact keepC hHeld b96 | exact keepC hHeld b95 | exact keepC hHeld b94 | exact keepC hHeld b93 | exact keepC hHeld b92 | exact keepC hHeld b91 | exact ⟨⟨⟨s0, s1⟩, s2, s3⟩, ⟨t0, t1⟩, (Below.refl _ _).drew⟩))
              clear hK K
              (try simp only [Act.put, List.getElem_toArray, List.getElem_cons_succ, List.getElem_cons_zero, List.setIfInBounds_toArray, List.set_cons_zero, List.set_cons_succ])
              refine wpAnyH_take (i := 16) (v := ?_) rfl (by kernel_rfl) (by kernel_rfl) (by kernel_rfl) (fun _ _ _ h => h) (Or.inl ⟨by rfl, ?_⟩) (by assumption) ?_
              rotate_left
              · (intro w hSw; (try dsimp only at hSw); go_simp; (try with_reducible rfl))
              (try simp only [Act.put, List.getElem_toArray, List.getElem_cons_succ, List.getElem_cons_zero, List.setIfInBounds_toArray, List.set_cons_zero, List.set_cons_succ])
              refine wpAnyH_take (i := 17) (v := ?_) rfl (by kernel_rfl) (by kernel_rfl) (by kernel_rfl) (fun _ _ _ h => h) (Or.inl ⟨by rfl, ?_⟩) (by assumption) ?_
              rotate_left
              · (intro w hSw; (try dsimp only at hSw); go_simp; (try with_reducible rfl))
              (try simp only [Act.put, List.getElem_toArray, List.getElem_cons_succ, List.getElem_cons_zero, List.setIfInBounds_toArray, List.set_cons_zero, List.set_cons_succ])
              refine wpAnyH_take (i := 18) (v := ?_) rfl (by kernel_rfl) (by kernel_rfl) (by kernel_rfl) (fun _ _ _ h => h) (Or.inl ⟨by rfl, ?_⟩) (by assumption) ?_
              rotate_left
              · (intro w hSw; (try dsimp only at hSw); go_simp; (try with_reducible rfl))
              (try simp only [Act.put, List.getElem_toArray, List.getElem_cons_succ, List.getElem_cons_zero, List.setIfInBounds_toArray, List.set_cons_zero, List.set_cons_succ])
              refine wpAnyH_take (i := 19) (v := ?_) rfl (by kernel_rfl) (by kernel_rfl) (by kernel_rfl) (fun _ _ _ h => h) (Or.inl ⟨by rfl, ?_⟩) (by assumption) ?_
              rotate_left
              · (intro w hSw; (try dsimp only at hSw); go_simp; (try with_reducible rfl))
              (try simp only [Act.put, List.getElem_toArray, List.getElem_cons_succ, List.getElem_cons_zero, List.setIfInBounds_toArray, List.set_cons_zero, List.set_cons_succ])
              refine wpAnyH_take (i := 20) (v := ?_) rfl (by kernel_rfl) (by kernel_rfl) (by kernel_rfl) (fun _ _ _ h => h) (Or.inl ⟨by rfl, ?_⟩) (by assumption) ?_
              rotate_left
              · (intro w hSw; (try dsimp only at hSw); go_simp; (try with_reducible rfl))
              (try simp only [Act.put, List.getElem_toArray, List.getElem_cons_succ, List.getElem_cons_zero, List.setIfInBounds_toArray, List.set_cons_zero, List.set_cons_succ])
              refine wpAnyH_take (i := 21) (v := ?_) rfl (by kernel_rfl) (by kernel_rfl) (by kernel_rfl) (fun _ _ _ h => h) (Or.inl ⟨by rfl, ?_⟩) (by assumption) ?_
              rotate_left
              · (intro w hSw; (try dsimp only at hSw); go_simp; (try with_reducible rfl))
              (try simp only [Act.put, List.getElem_toArray, List.getElem_cons_succ, List.getElem_cons_zero, List.setIfInBounds_toArray, List.set_cons_zero, List.set_cons_succ])
              refine wpAnyH_take (i := 22) (v := ?_) rfl (by kernel_rfl) (by kernel_rfl) (by kernel_rfl) (fun _ _ _ h => h) (Or.inl ⟨by rfl, ?_⟩) (by assumption) ?_
              rotate_left
              · (intro w hSw; (try dsimp only at hSw); go_simp; (try with_reducible rfl))
              (try simp only [Act.put, List.getElem_toArray, List.getElem_cons_succ, List.getElem_cons_zero, List.setIfInBounds_toArray, List.set_cons_zero, List.set_cons_succ])
              refine wpAnyH_take (i := 23) (v := ?_) rfl (by kernel_rfl) (by kernel_rfl) (by kernel_rfl) (fun _ _ _ h => h) (Or.inl ⟨by rfl, ?_⟩) (by assumption) ?_
              rotate_left
              · (intro w hSw; (try dsimp only at hSw); go_simp; (try with_reducible rfl))
              (try simp only [Act.put, List.getElem_toArray, List.getElem_cons_succ, List.getElem_cons_zero, List.setIfInBounds_toArray, List.set_cons_zero, List.set_cons_succ])
              refine wpAnyH_ready (rs := [24]) (by kernel_rfl) (by simp) (AllReadyH.cons rfl (fun K hK => ?_) AllReadyH.nil)
              (first | ((first | (go_at_call 10; refine (K6.out _ _ hHeld.2.2 r95).mono ?_; rintro e w96 ⟨rfl, b96⟩) | (go_at_call 10; refine (K4.out _ _ hHeld.2.2 r93).mono ?_; rintro e w94 ⟨rfl, b94⟩) | (go_at_call 12; refine (K1.out _ hHeld.2.2).mono ?_; rintro e w91 ⟨rfl, b91⟩) | (go_at_call 19; refine (K2.out _ hHeld.2.2).mono ?_; rintro e w92 ⟨rfl, b92⟩) | (go_at_call 20; refine (K3.out _ hHeld.2.2).mono ?_; rintro e w93 ⟨v93, rfl, o93, b93⟩; have r93 := o93.read) | (go_at_call 11; refine (K5.out _ hHeld.2.2).mono ?_; rintro e w95 ⟨v95, rfl, o95, b95⟩; have r95 := o95.read))) | (go_simp; (first | (go_at_call 10; refine (K6.out _ _ hHeld.2.2 r95).mono ?_; rintro e w96 ⟨rfl, b96⟩) | (go_at_call 10; refine (K4.out _ _ hHeld.2.2 r93).mono ?_; rintro e w94 ⟨rfl, b94⟩) | (go_at_call 12; refine (K1.out _ hHeld.2.2).mono ?_; rintro e w91 ⟨rfl, b91⟩) | (go_at_call 19; refine (K2.out _ hHeld.2.2).mono ?_; rintro e w92 ⟨rfl, b92⟩) | (go_at_call 20; refine (K3.out _ hHeld.2.2).mono ?_; rintro e w93 ⟨v93, rfl, o93, b93⟩; have r93 := o93.read) | (go_at_call 11; refine (K5.out _ hHeld.2.2).mono ?_; rintro e w95 ⟨v95, rfl, o95, b95⟩; have r95 := o95.read))))
              (try (go_wp2_with fail))
              refine hK.out _ _ ?_ (fun hHeld => ?_)
              · ((try dsimp only); (first | exact keepC hHeld b96 | exact keepC hHeld b95 | exact keepC hHeld b94 | exact keepC hHeld b93 | exact keepC hHeld b92 | exact keepC hHeld b91 | exact ⟨⟨⟨s0, s1⟩, s2, s3⟩, ⟨t0, t1⟩, (Below.refl _ _).drew⟩))
              clear hK K
              (try simp only [Act.put, List.getElem_toArray, List.getElem_cons_succ, List.getElem_cons_zero, List.setIfInBounds_toArray, List.set_cons_zero, List.set_cons_succ])
              refine wpAnyH_ready (rs := [25]) (by kernel_rfl) (by simp) (AllReadyH.cons rfl (fun K hK => ?_) AllReadyH.nil)
              (first | ((first | (go_at_call 10; refine (K6.out _ _ hHeld.2.2 r95).mono ?_; rintro e w96 ⟨rfl, b96⟩) | (go_at_call 10; refine (K4.out _ _ hHeld.2.2 r93).mono ?_; rintro e w94 ⟨rfl, b94⟩) | (go_at_call 12; refine (K1.out _ hHeld.2.2).mono ?_; rintro e w91 ⟨rfl, b91⟩) | (go_at_call 19; refine (K2.out _ hHeld.2.2).mono ?_; rintro e w92 ⟨rfl, b92⟩) | (go_at_call 20; refine (K3.out _ hHeld.2.2).mono ?_; rintro e w93 ⟨v93, rfl, o93, b93⟩; have r93 := o93.read) | (go_at_call 11; refine (K5.out _ hHeld.2.2).mono ?_; rintro e w95 ⟨v95, rfl, o95, b95⟩; have r95 := o95.read))) | (go_simp; (first | (go_at_call 10; refine (K6.out _ _ hHeld.2.2 r95).mono ?_; rintro e w96 ⟨rfl, b96⟩) | (go_at_call 10; refine (K4.out _ _ hHeld.2.2 r93).mono ?_; rintro e w94 ⟨rfl, b94⟩) | (go_at_call 12; refine (K1.out _ hHeld.2.2).mono ?_; rintro e w91 ⟨rfl, b91⟩) | (go_at_call 19; refine (K2.out _ hHeld.2.2).mono ?_; rintro e w92 ⟨rfl, b92⟩) | (go_at_call 20; refine (K3.out _ hHeld.2.2).mono ?_; rintro e w93 ⟨v93, rfl, o93, b93⟩; have r93 := o93.read) | (go_at_call 11; refine (K5.out _ hHeld.2.2).mono ?_; rintro e w95 ⟨v95, rfl, o95, b95⟩; have r95 := o95.read))))
              (try (go_wp2_with fail))
              refine hK.out _ _ ?_ (fun hHeld => ?_)
              · ((try dsimp only); (first | exact keepC hHeld b96 | exact keepC hHeld b95 | exact keepC hHeld b94 | exact keepC hHeld b93 | exact keepC hHeld b92 | exact keepC hHeld b91 | exact ⟨⟨⟨s0, s1⟩, s2, s3⟩, ⟨t0, t1⟩, (Below.refl _ _).drew⟩))
              clear hK K
              (try simp only [Act.put, List.getElem_toArray, List.getElem_cons_succ, List.getElem_cons_zero, List.setIfInBounds_toArray, List.set_cons_zero, List.set_cons_succ])
              refine wpAnyH_take (i := 26) (v := ?_) rfl (by kernel_rfl) (by kernel_rfl) (by kernel_rfl) (fun _ _ _ h => h) (Or.inl ⟨by rfl, ?_⟩) (by assumption) ?_
              rotate_left
              · (intro w hSw; (try dsimp only at hSw); go_simp; (try with_reducible rfl))
              (try simp only [Act.put, List.getElem_toArray, List.getElem_cons_succ, List.getElem_cons_zero, List.setIfInBounds_toArray, List.set_cons_zero, List.set_cons_succ])
              refine wpAnyH_take (i := 27) (v := ?_) rfl (by kernel_rfl) (by kernel_rfl) (by kernel_rfl) (fun _ _ _ h => h) (Or.inl ⟨by rfl, ?_⟩) (by assumption) ?_
              rotate_left
              · (intro w hSw; (try dsimp only at hSw); go_simp; (try with_reducible rfl))
              (try simp only [Act.put, List.getElem_toArray, List.getElem_cons_succ, List.getElem_cons_zero, List.setIfInBounds_toArray, List.set_cons_zero, List.set_cons_succ])
              refine wpAnyH_take (i := 28) (v := ?_) rfl (by kernel_rfl) (by kernel_rfl) (by kernel_rfl) (fun _ _ _ h => h) (Or.inl ⟨by rfl, ?_⟩) (by assumption) ?_
              rotate_left
              · (intro w hSw; (try dsimp only at hSw); go_simp; (try with_reducible rfl))
              (try simp only [Act.put, List.getElem_toArray, List.getElem_cons_succ, List.getElem_cons_zero, List.setIfInBounds_toArray, List.set_cons_zero, List.set_cons_succ])
              refine wpAnyH_done (by kernel_rfl) ?_ _
              refine NoPanic.normal ?_
              clear b91 b92 b93 b94 b95 b96
              go_wp2_with fail
              go_ret
              exact ⟨rfl, HBW.out.trans (hHeld.2.2.mono HBW.out.size)⟩
            · have hne : (rows != 0) = true := by simpa using hz
              clear tb3 HTD hs2 rp hb HI1 HI2 HA2 HM3 HSD HAZ HAP HRR hz
              go_wp2_with fail
              refine wp_region_noPanic ?_
              refine wp_region_held_drew (S := (fun w' => ((w'.cell? ⟨T2, 0, none⟩ = some (.int .i64 c2) ∧ w'.cell? ⟨T2, 1, none⟩ = some (.slice a2 l2.length cap2)) ∧ w'.cell? ⟨T2 + 1, 0, none⟩ = some (.int .i64 x2) ∧ w'.cell? ⟨T2 + 1, 1, none⟩ = some (.int .i64 y2)) ∧ (w'.cell? ⟨T3, 0, none⟩ = some (.int .i64 c3) ∧ w'.cell? ⟨T3, 1, none⟩ = some (.slice a3 l3.length cap3)) ∧ Below w30.heap.size w30 w')) (by kernel_rfl) ?_ (fun hHeld => ?_)
              · ((try dsimp only); (first | exact keepC hHeld b96 | exact keepC hHeld b95 | exact keepC hHeld b94 | exact keepC hHeld b93 | exact keepC hHeld b92 | exact keepC hHeld b91 | exact ⟨⟨⟨s0, s1⟩, s2, s3⟩, ⟨t0, t1⟩, (Below.refl _ _).drew⟩))
              refine wpAnyH_take (i := 0) (v := ?_) rfl (by kernel_rfl) (by kernel_rfl) (by kernel_rfl) (fun _ _ _ h => h) (Or.inl ⟨by rfl, ?_⟩) (by assumption) ?_
              rotate_left
              · (intro w hSw; (try dsimp only at hSw); go_simp; (try with_reducible rfl))
              (try simp only [Act.put, List.getElem_toArray, List.getElem_cons_zero, List.setIfInBounds_toArray, List.set_cons_zero, List.set_cons_succ])
              refine wpAnyH_take (i := 1) (v := ?_) rfl (by kernel_rfl) (by kernel_rfl) (by kernel_rfl) (fun _ _ _ h => h) (Or.inl ⟨by rfl, ?_⟩) (by assumption) ?_
              rotate_left
              · (intro w hSw; (try dsimp only at hSw); go_simp; (try with_reducible rfl))
              (try simp only [Act.put, List.getElem_toArray, List.getElem_cons_succ, List.getElem_cons_zero, List.setIfInBounds_toArray, List.set_cons_zero, List.set_cons_succ])
              refine wpAnyH_take (i := 2) (v := ?_) rfl (by kernel_rfl) (by kernel_rfl) (by kernel_rfl) (fun _ _ _ h => h) (Or.inl ⟨by rfl, ?_⟩) (by assumption) ?_
              rotate_left
              · (intro w hSw; (try dsimp only at hSw); go_simp; (try with_reducible rfl))
              (try simp only [Act.put, List.getElem_toArray, List.getElem_cons_succ, List.getElem_cons_zero, List.setIfInBounds_toArray, List.set_cons_zero, List.set_cons_succ])
              refine wpAnyH_take (i := 4) (v := ?_) rfl (by kernel_rfl) (by kernel_rfl) (by kernel_rfl) (fun _ _ _ h => h) (Or.inl ⟨by rfl, ?_⟩) (by assumption) ?_
              rotate_left
              · (intro w hSw; (try dsimp only at hSw); go_simp; (try with_reducible rfl))
              (try simp only [Act.put, List.getElem_toArray, List.getElem_cons_succ, List.getElem_cons_zero, List.setIfInBounds_toArray, List.set_cons_zero, List.set_cons_succ])
              refine wpAnyH_take (i := 5) (v := ?_) rfl (by kernel_rfl) (by kernel_rfl) (by kernel_rfl) (fun _ _ _ h => h) (Or.inl ⟨by rfl, ?_⟩) (by assumption) ?_
              rotate_left
              · (intro w hSw; (try dsimp only at hSw); go_simp; (try with_reducible rfl))
              (try simp only [Act.put, List.getElem_toArray, List.getElem_cons_succ, List.getElem_cons_zero, List.setIfInBounds_toArray, List.set_cons_zero, List.set_cons_succ])
              refine wpAnyH_take (i := 6) (v := ?_) rfl (by kernel_rfl) (by kernel_rfl) (by kernel_rfl) (fun _ _ _ h => h) (Or.inl ⟨by rfl, ?_⟩) (by assumption) ?_
              rotate_left
              · (intro w hSw; (try dsimp only at hSw); go_simp; (try with_reducible rfl))
              (try simp only [Act.put, List.getElem_toArray, List.getElem_cons_succ, List.getElem_cons_zero, List.setIfInBounds_toArray, List.set_cons_zero, List.set_cons_succ])
              refine wpAnyH_ready (rs := [3]) (by kernel_rfl) (by simp) (AllReadyH.cons rfl (fun K hK => ?_) AllReadyH.nil)
              (first | ((first | (go_at_call 10; refine (K6.out _ _ hHeld.2.2 r95).mono ?_; rintro e w96 ⟨rfl, b96⟩) | (go_at_call 10; refine (K4.out _ _ hHeld.2.2 r93).mono ?_; rintro e w94 ⟨rfl, b94⟩) | (go_at_call 12; refine (K1.out _ hHeld.2.2).mono ?_; rintro e w91 ⟨rfl, b91⟩) | (go_at_call 19; refine (K2.out _ hHeld.2.2).mono ?_; rintro e w92 ⟨rfl, b92⟩) | (go_at_call 20; refine (K3.out _ hHeld.2.2).mono ?_; rintro e w93 ⟨v93, rfl, o93, b93⟩; have r93 := o93.read) | (go_at_call 11; refine (K5.out _ hHeld.2.2).mono ?_; rintro e w95 ⟨v95, rfl, o95, b95⟩; have r95 := o95.read))) | (go_simp; (first | (go_at_call 10; refine (K6.out _ _ hHeld.2.2 r95).mono ?_; rintro e w96 ⟨rfl, b96⟩) | (go_at_call 10; refine (K4.out _ _ hHeld.2.2 r93).mono ?_; rintro e w94 ⟨rfl, b94⟩) | (go_at_call 12; refine (K1.out _ hHeld.2.2).mono ?_; rintro e w91 ⟨rfl, b91⟩) | (go_at_call 19; refine (K2.out _ hHeld.2.2).mono ?_; rintro e w92 ⟨rfl, b92⟩) | (go_at_call 20; refine (K3.out _ hHeld.2.2).mono ?_; rintro e w93 ⟨v93, rfl, o93, b93⟩; have r93 := o93.read) | (go_at_call 11; refine (K5.out _ hHeld.2.2).mono ?_; rintro e w95 ⟨v95, rfl, o95, b95⟩; have r95 := o95.read))))
              (try (go_wp2_with fail))
              refine hK.out _ _ ?_ (fun hHeld => ?_)
              · ((try dsimp only); (first | exact keepC hHeld b96 | exact keepC hHeld b95 | exact keepC hHeld b94 | exact keepC hHeld b93 | exact keepC hHeld b92 | exact keepC hHeld b91 | exact ⟨⟨⟨s0, s1⟩, s2, s3⟩, ⟨t0, t1⟩, (Below.refl _ _).drew⟩))
              clear hK K
              (try simp only [Act.put, List.getElem_toArray, List.getElem_cons_succ, List.getElem_cons_zero, List.setIfInBounds_toArray, List.set_cons_zero, List.set_cons_succ])
              refine wpAnyH_ready (rs := [7]) (by kernel_rfl) (by simp) (AllReadyH.cons rfl (fun K hK => ?_) AllReadyH.nil)
              (first | ((first | (go_at_call 10; refine (K6.out _ _ hHeld.2.2 r95).mono ?_; rintro e w96 ⟨rfl, b96⟩) | (go_at_call 10; refine (K4.out _ _ hHeld.2.2 r93).mono ?_; rintro e w94 ⟨rfl, b94⟩) | (go_at_call 12; refine (K1.out _ hHeld.2.2).mono ?_; rintro e w91 ⟨rfl, b91⟩) | (go_at_call 19; refine (K2.out _ hHeld.2.2).mono ?_; rintro e w92 ⟨rfl, b92⟩) | (go_at_call 20; refine (K3.out _ hHeld.2.2).mono ?_; rintro e w93 ⟨v93, rfl, o93, b93⟩; have r93 := o93.read) | (go_at_call 11; refine (K5.out _ hHeld.2.2).mono ?_; rintro e w95 ⟨v95, rfl, o95, b95⟩; have r95 := o95.read))) | (go_simp; (first | (go_at_call 10; refine (K6.out _ _ hHeld.2.2 r95).mono ?_; rintro e w96 ⟨rfl, b96⟩) | (go_at_call 10; refine (K4.out _ _ hHeld.2.2 r93).mono ?_; rintro e w94 ⟨rfl, b94⟩) | (go_at_call 12; refine (K1.out _ hHeld.2.2).mono ?_; rintro e w91 ⟨rfl, b91⟩) | (go_at_call 19; refine (K2.out _ hHeld.2.2).mono ?_; rintro e w92 ⟨rfl, b92⟩) | (go_at_call 20; refine (K3.out _ hHeld.2.2).mono ?_; rintro e w93 ⟨v93, rfl, o93, b93⟩; have r93 := o93.read) | (go_at_call 11; refine (K5.out _ hHeld.2.2).mono ?_; rintro e w95 ⟨v95, rfl, o95, b95⟩; have r95 := o95.read))))
              (try (go_wp2_with fail))
              refine hK.out _ _ ?_ (fun hHeld => ?_)
              · ((try dsimp only); (first | exact keepC hHeld b96 | exact keepC hHeld b95 | exact keepC hHeld b94 | exact keepC hHeld b93 | exact keepC hHeld b92 | exact keepC hHeld b91 | exact ⟨⟨⟨s0, s1⟩, s2, s3⟩, ⟨t0, t1⟩, (Below.refl _ _).drew⟩))
              clear hK K
              (try simp only [Act.put, List.getElem_toArray, List.getElem_cons_succ, List.getElem_cons_zero, List.setIfInBounds_toArray, List.set_cons_zero, List.set_cons_succ])
              refine wpAnyH_take (i := 8) (v := ?_) rfl (by kernel_rfl) (by kernel_rfl) (by kernel_rfl) (fun _ _ _ h => h) (Or.inl ⟨by rfl, ?_⟩) (by assumption) ?_
              rotate_left
              · (intro w hSw; (try dsimp only at hSw); go_simp; (try with_reducible rfl))
              (try simp only [Act.put, List.getElem_toArray, List.getElem_cons_succ, List.getElem_cons_zero, List.setIfInBounds_toArray, List.set_cons_zero, List.set_cons_succ])
              refine wpAnyH_take (i := 9) (v := ?_) rfl (by kernel_rfl) (by kernel_rfl) (by kernel_rfl) (fun _ _ _ h => h) (Or.inl ⟨by rfl, ?_⟩) (by assumption) ?_
              rotate_left
              · (intro w hSw; (try dsimp only at hSw); go_simp; (try with_reducible rfl))
              (try simp only [Act.put, List.getElem_toArray, List.getElem_cons_succ, List.getElem_cons_zero, List.setIfInBounds_toArray, List.set_cons_zero, List.set_cons_succ])
              refine wpAnyH_take (i := 10) (v := ?_) rfl (by kernel_rfl) (by kernel_rfl) (by kernel_rfl) (fun _ _ _ h => h) (Or.inl ⟨by rfl, ?_⟩) (by assumption) ?_
              rotate_left
              · (intro w hSw; (try dsimp only at hSw); go_simp; (try with_reducible rfl))
              (try simp only [Act.put, List.getElem_toArray, List.getElem_cons_succ, List.getElem_cons_zero, List.setIfInBounds_toArray, List.set_cons_zero, List.set_cons_succ])
              refine wpAnyH_take (i := 11) (v := ?_) rfl (by kernel_rfl) (by kernel_rfl) (by kernel_rfl) (fun _ _ _ h => h) (Or.inl ⟨by rfl, ?_⟩) (by assumption) ?_
              rotate_left
              · (intro w hSw; (try dsimp only at hSw); go_simp; (try with_reducible rfl))
              (try simp only [Act.put, List.getElem_toArray, List.getElem_cons_succ, List.getElem_cons_zero, List.setIfInBounds_toArray, List.set_cons_zero, List.set_cons_succ])
              refine wpAnyH_take (i := 12) (v := ?_) rfl (by kernel_rfl) (by kernel_rfl) (by kernel_rfl) (fun _ _ _ h => h) (Or.inl ⟨by rfl, ?_⟩) (by assumption) ?_
              rotate_left
              · (intro w hSw; (try dsimp only at hSw); go_simp; (try with_reducible rfl))
              (try simp only [Act.put, List.getElem_toArray, List.getElem_cons_succ, List.getElem_cons_zero, List.setIfInBounds_toArray, List.set_cons_zero, List.set_cons_succ])
              refine wpAnyH_take (i := 13) (v := ?_) rfl (by kernel_rfl) (by kernel_rfl) (by kernel_rfl) (fun _ _ _ h => h) (Or.inl ⟨by rfl, ?_⟩) (by assumption) ?_
              rotate_left
              · (intro w hSw; (try dsimp only at hSw); go_simp; (try with_reducible rfl))
              (try simp only [Act.put, List.getElem_toArray, List.getElem_cons_succ, List.getElem_cons_zero, List.setIfInBounds_toArray, List.set_cons_zero, List.set_cons_succ])
              refine wpAnyH_ready (rs := [14]) (by kernel_rfl) (by simp) (AllReadyH.cons rfl (fun K hK => ?_) AllReadyH.nil)
              (first | ((first | (go_at_call 10; refine (K6.out _ _ hHeld.2.2 r95).mono ?_; rintro e w96 ⟨rfl, b96⟩) | (go_at_call 10; refine (K4.out _ _ hHeld.2.2 r93).mono ?_; rintro e w94 ⟨rfl, b94⟩) | (go_at_call 12; refine (K1.out _ hHeld.2.2).mono ?_; rintro e w91 ⟨rfl, b91⟩) | (go_at_call 19; refine (K2.out _ hHeld.2.2).mono ?_; rintro e w92 ⟨rfl, b92⟩) | (go_at_call 20; refine (K3.out _ hHeld.2.2).mono ?_; rintro e w93 ⟨v93, rfl, o93, b93⟩; have r93 := o93.read) | (go_at_call 11; refine (K5.out _ hHeld.2.2).mono ?_; rintro e w95 ⟨v95, rfl, o95, b95⟩; have r95 := o95.read))) | (go_simp; (first | (go_at_call 10; refine (K6.out _ _ hHeld.2.2 r95).mono ?_; rintro e w96 ⟨rfl, b96⟩) | (go_at_call 10; refine (K4.out _ _ hHeld.2.2 r93).mono ?_; rintro e w94 ⟨rfl, b94⟩) | (go_at_call 12; refine (K1.out _ hHeld.2.2).mono ?_; rintro e w91 ⟨rfl, b91⟩) | (go_at_call 19; refine (K2.out _ hHeld.2.2).mono ?_; rintro e w92 ⟨rfl, b92⟩) | (go_at_call 20; refine (K3.out _ hHeld.2.2).mono ?_; rintro e w93 ⟨v93, rfl, o93, b93⟩; have r93 := o93.read) | (go_at_call 11; refine (K5.out _ hHeld.2.2).mono ?_; rintro e w95 ⟨v95, rfl, o95, b95⟩; have r95 := o95.read))))
              (try (go_wp2_with fail))
              refine hK.out _ _ ?_ (fun hHeld => ?_)
              · ((try dsimp only); (first | exact keepC hHeld b96 | exact keepC hHeld b95 | exact keepC hHeld b94 | exact keepC hHeld b93 | exact keepC hHeld b92 | exact keepC hHeld b91 | exact ⟨⟨⟨s0, s1⟩, s2, s3⟩, ⟨t0, t1⟩, (Below.refl _ _).drew⟩))
              clear hK K
              (try simp only [Act.put, List.getElem_toArray, List.getElem_cons_succ, List.getElem_cons_zero, List.setIfInBounds_toArray, List.set_cons_zero, List.set_cons_succ])
              refine wpAnyH_ready (rs := [15]) (by kernel_rfl) (by simp) (AllReadyH.cons rfl (fun K hK => ?_) AllReadyH.nil)
              (first | ((first | (go_at_call 10; refine (K6.out _ _ hHeld.2.2 r95).mono ?_; rintro e w96 ⟨rfl, b96⟩) | (go_at_call 10; refine (K4.out _ _ hHeld.2.2 r93).mono ?_; rintro e w94 ⟨rfl, b94⟩) | (go_at_call 12; refine (K1.out _ hHeld.2.2).mono ?_; rintro e w91 ⟨rfl, b91⟩) | (go_at_call 19; refine (K2.out _ hHeld.2.2).mono ?_; rintro e w92 ⟨rfl, b92⟩) | (go_at_call 20; refine (K3.out _ hHeld.2.2).mono ?_; rintro e w93 ⟨v93, rfl, o93, b93⟩; have r93 := o93.read) | (go_at_call 11; refine (K5.out _ hHeld.2.2).mono ?_; rintro e w95 ⟨v95, rfl, o95, b95⟩; have r95 := o95.read))) | (go_simp; (first | (go_at_call 10; refine (K6.out _ _ hHeld.2.2 r95).mono ?_; rintro e w96 ⟨rfl, b96⟩) | (go_at_call 10; refine (K4.out _ _ hHeld.2.2 r93).mono ?_; rintro e w94 ⟨rfl, b94⟩) | (go_at_call 12; refine (K1.out _ hHeld.2.2).mono ?_; rintro e w91 ⟨rfl, b91⟩) | (go_at_call 19; refine (K2.out _ hHeld.2.2).mono ?_; rintro e w92 ⟨rfl, b92⟩) | (go_at_call 20; refine (K3.out _ hHeld.2.2).mono ?_; rintro e w93 ⟨v93, rfl, o93, b93⟩; have r93 := o93.read) | (go_at_call 11; refine (K5.out _ hHeld.2.2).mono ?_; rintro e w95 ⟨v95, rfl, o95, b95⟩; have r95 := o95.read))))
              (try (go_wp2_with fail))
              refine hK.out _ _ ?_ (fun hHeld => ?_)
              · ((try dsimp only); (first | exact keepC hHeld b96 | exact keepC hHeld b95 | exact keepC hHeld b94 | exact keepC hHeld b93 | exact keepC hHeld b92 | exact keepC hHeld b91 | exact ⟨⟨⟨s0, s1⟩, s2, s3⟩, ⟨t0, t1⟩, (Below.refl _ _).drew⟩))
              clear hK K
              (try simp only [Act.put, List.getElem_toArray, List.getElem_cons_succ, List.getElem_cons_zero, List.setIfInBounds_toArray, List.set_cons_zero, List.set_cons_succ])
              refine wpAnyH_take (i := 16) (v := ?_) rfl (by kernel_rfl) (by kernel_rfl) (by kernel_rfl) (fun _ _ _ h => h) (Or.inl ⟨by rfl, ?_⟩) (by assumption) ?_
              rotate_left
              · (intro w hSw; (try dsimp only at hSw); go_simp; (try with_reducible rfl))
              (try simp only [Act.put, List.getElem_toArray, List.getElem_cons_succ, List.getElem_cons_zero, List.setIfInBounds_toArray, List.set_cons_zero, List.set_cons_succ])
              refine wpAnyH_take (i := 17) (v := ?_) rfl (by kernel_rfl) (by kernel_rfl) (by kernel_rfl) (fun _ _ _ h => h) (Or.inl ⟨by rfl, ?_⟩) (by assumption) ?_
              rotate_left
              · (intro w hSw; (try dsimp only at hSw); go_simp; (try with_reducible rfl))
              (try simp only [Act.put, List.getElem_toArray, List.getElem_cons_succ, List.getElem_cons_zero, List.setIfInBounds_toArray, List.set_cons_zero, List.set_cons_succ])
              refine wpAnyH_take (i := 18) (v := ?_) rfl (by kernel_rfl) (by kernel_rfl) (by kernel_rfl) (fun _ _ _ h => h) (Or.inl ⟨by rfl, ?_⟩) (by assumption) ?_
              rotate_left
              · (intro w hSw; (try dsimp only at hSw); go_simp; (try with_reducible rfl))
              (try simp only [Act.put, List.getElem_toArray, List.getElem_cons_succ, List.getElem_cons_zero, List.setIfInBounds_toArray, List.set_cons_zero, List.set_cons_succ])
              refine wpAnyH_take (i := 19) (v := ?_) rfl (by kernel_rfl) (by kernel_rfl) (by kernel_rfl) (fun _ _ _ h => h) (Or.inl ⟨by rfl, ?_⟩) (by assumption) ?_
              rotate_left
              · (intro w hSw; (try dsimp only at hSw); go_simp; (try with_reducible rfl))
              (try simp only [Act.put, List.getElem_toArray, List.getElem_cons_succ, List.getElem_cons_zero, List.setIfInBounds_toArray, List.set_cons_zero, List.set_cons_succ])
              refine wpAnyH_take (i := 20) (v := ?_) rfl (by kernel_rfl) (by kernel_rfl) (by kernel_rfl) (fun _ _ _ h => h) (Or.inl ⟨by rfl, ?_⟩) (by assumption) ?_
              rotate_left
              · (intro w hSw; (try dsimp only at hSw); go_simp; (try with_reducible rfl))
              (try simp only [Act.put, List.getElem_toArray, List.getElem_cons_succ, List.getElem_cons_zero, List.setIfInBounds_toArray, List.set_cons_zero, List.set_cons_succ])
              refine wpAnyH_take (i := 21) (v := undef) rfl (by kernel_rfl) (by kernel_rfl) (by kernel_rfl) (fun _ _ _ h => h) (Or.inr ⟨by rfl, rfl⟩) (by assumption) ?_
              (try simp only [Act.put, List.getElem_toArray, List.getElem_cons_succ, List.getElem_cons_zero, List.setIfInBounds_toArray, List.set_cons_zero, List.set_cons_succ])
              refine wpAnyH_take (i := 22) (v := undef) rfl (by kernel_rfl) (by kernel_rfl) (by kernel_rfl) (fun _ _ _ h => h) (Or.inr ⟨by rfl, rfl⟩) (by assumption) ?_
              (try simp only [Act.put, List.getElem_toArray, List.getElem_cons_succ, List.getElem_cons_zero, List.setIfInBounds_toArray, List.set_cons_zero, List.set_cons_succ])
              refine wpAnyH_take (i := 23) (v := undef) rfl (by kernel_rfl) (by kernel_rfl) (by kernel_rfl) (fun _ _ _ h => h) (Or.inr ⟨by rfl, rfl⟩) (by assumption) ?_
              (try simp only [Act.put, List.getElem_toArray, List.getElem_cons_succ, List.getElem_cons_zero, List.setIfInBounds_toArray, List.set_cons_zero, List.set_cons_succ])
              refine wpAnyH_take (i := 24) (v := undef) rfl (by kernel_rfl) (by kernel_rfl) (by kernel_rfl) (fun _ _ _ h => h) (Or.inr ⟨by rfl, rfl⟩) (by assumption) ?_
              (try simp only [Act.put, List.getElem_toArray, List.getElem_cons_succ, List.getElem_cons_zero, List.setIfInBounds_toArray, List.set_cons_zero, List.set_cons_succ])
              refine wpAnyH_take (i := 25) (v := undef) rfl (by kernel_rfl) (by kernel_rfl) (by kernel_rfl) (fun _ _ _ h => h) (Or.inr ⟨by rfl, rfl⟩) (by assumption) ?_
              (try simp only [Act.put, List.getElem_toArray, List.getElem_cons_succ, List.getElem_cons_zero, List.setIfInBounds_toArray, List.set_cons_zero, List.set_cons_succ])
              refine wpAnyH_take (i := 26) (v := ?_) rfl (by kernel_rfl) (by kernel_rfl) (by kernel_rfl) (fun _ _ _ h => h) (Or.inl ⟨by rfl, ?_⟩) (by assumption) ?_
              rotate_left
              · (intro w hSw; (try dsimp only at hSw); go_simp; (try with_reducible rfl))
              (try simp only [Act.put, List.getElem_toArray, List.getElem_cons_succ, List.getElem_cons_zero, List.setIfInBounds_toArray, List.set_cons_zero, List.set_cons_succ])
              refine wpAnyH_take (i := 27) (v := ?_) rfl (by kernel_rfl) (by kernel_rfl) (by kernel_rfl) (fun _ _ _ h => h) (Or.inl ⟨by rfl, ?_⟩) (by assumption) ?_
              rotate_left
              · (intro w hSw; (try dsimp only at hSw); go_simp; (try with_reducible rfl))
              (try simp only [Act.put, List.getElem_toArray, List.getElem_cons_succ, List.getElem_cons_zero, List.setIfInBounds_toArray, List.set_cons_zero, List.set_cons_succ])
              refine wpAnyH_take (i := 28) (v := ?_) rfl (by kernel_rfl) (by kernel_rfl) (by kernel_rfl) (fun _ _ _ h => h) (Or.inl ⟨by rfl, ?_⟩) (by assumption) ?_
              rotate_left
              · (intro w hSw; (try dsimp only at hSw); go_simp; (try with_reducible rfl))
              (try simp only [Act.put, List.getElem_toArray, List.getElem_cons_succ, List.getElem_cons_zero, List.setIfInBounds_toArray, List.set_cons_zero, List.set_cons_succ])
              refine wpAnyH_done (by kernel_rfl) ?_ _
              refine NoPanic.normal ?_
              clear b91 b92 b93 b94
              go_wp2_with fail
              go_ret
              exact ⟨rfl, HBW.out.trans (hHeld.2.2.mono HBW.out.size)⟩
end Go.Proofs.YtlecfkfcjhliiaaGreat
