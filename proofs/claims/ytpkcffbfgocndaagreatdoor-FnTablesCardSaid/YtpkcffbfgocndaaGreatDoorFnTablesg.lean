/- FnTables, the walk. Conditions: the code is a readable slice of at most 1048576 bytes; the library's table of powers of ten holds what it lists. -/
import Derived.Test.YtpkcffbfgocndaaGreatDoorFnTabAg
import Derived.Deep.RegionLaw
namespace Go.Proofs.YtpkcffbfgocndaaGreatDoor
open Go.RowKit

set_option maxRecDepth 100000 in
set_option maxHeartbeats 6400000 in
theorem law_walk (v : Value) (n : Nat) (w : World) (hcode : CodeAt w v n) (hn : n ≤ 1048576) (hT : Tab w.heap.size w) :
    Calls Tryz.prog 3 #[v] w fun e w' => e = .returned (.bool true) ∧ Below w.heap.size w w' := by
  have HT := Lib.hid (fun w1 (hb : Below w.heap.size w w1) => hT.at hb)
  have HBIG := Lib.hid (big_any v n (code_slice hcode))
  have HD1 := Lib.hid (drawFormatTable_any w v n hn hcode)
  have HD2 := Lib.hid (drawProjectTable_any w v n hn hcode)
  have HD3 := Lib.hid (drawColumnOf_any w v n hn hcode)
  have hbig : decide (1048576 < (n : Int)) = false := by simp; omega
  obtain ⟨a, cap, rfl⟩ := code_slice hcode
  clear hT
  go_enter Tryz.func3, Tryz.ntmps3
  go_wp2_with fail
  refine (HBIG.out _).mono ?_
  rintro e w' ⟨rfl, rfl⟩
  go_wp2_with fail
  refine (HD1.out _ (Below.refl _ _)).mono ?_
  rintro e w1 ⟨cc, u, ll, rfl, hll, hlr, oss, hb⟩
  have HR := Lib.hid (rows_few hlr)
  have HL := Lib.hid hll
  obtain ⟨au, capu, rfl, -⟩ := oss.read
  have tb := TB.mk' (c := cc) oss.read
  have hb2 := hb.trans ((box_new w1 (.cells #[.int .i64 cc, .slice au ll.length capu] 26)).mono hb.size)
  clear oss hlr hll hb
  obtain ⟨⟨c0, c1⟩, f0, f1⟩ := tb.1.cells
  go_wp2_with fail
  obtain ⟨T, hTT⟩ : ∃ T, T = w1.heap.size := ⟨_, rfl⟩
  obtain ⟨w2, hw2⟩ : ∃ w2, w2 = w1.alloc (.cells #[.int .i64 cc, .slice au ll.length capu] 26) := ⟨_, rfl⟩
  rw [← hw2] at tb hb2 ⊢
  rw [← hTT] at tb ⊢
  clear hw2 hTT c0 c1 f0 f1
  obtain ⟨s, hs⟩ : ∃ s, s = fmtT cc ll := ⟨_, rfl⟩
  have hsz : s.size ≤ 1048576 := by rw [hs]; exact fmtT_small cc ll
  obtain ⟨hok, hbk⟩ := fmt_back cc ll
  rw [← hs] at hok hbk
  obtain ⟨bt, hbt⟩ : ∃ bt, bt = isT cc ll := ⟨_, rfl⟩
  rw [← hbt] at hok hbk
  have HFM : Hid (Calls Tryz.prog 6 #[.agg #[.int .i64 cc, .slice au ll.length capu]] w2 fun e w' => e = .returned (.string s) ∧ Below w2.heap.size w2 w') :=
    Lib.hid ((implFormatTable_any cc _ ll w2 tb.2 (by have := HL.out; omega) (fun i hi => Nat.le_trans (HR.out i hi) (by omega)) (HT.out _ hb2)).mono fun _ _ ⟨x, y⟩ => ⟨by rw [x, hs], y⟩)
  have HPS : Hid (∀ w', Below w.heap.size w w' → Calls Tryz.prog 7 #[.string s] w' fun e w'' => ∃ v, e = .returned (.tuple #[.agg #[.int .i64 (parC s), v], .bool bt]) ∧ OwnSS w'' w'.heap.size w''.heap.size v (parR s) ∧ Below w'.heap.size w' w'') :=
    Lib.hid (fun w' hb => (implParseTable_any s w' hsz (HT.out _ hb)).mono fun _ _ ⟨v, x, y, z⟩ => ⟨v, by rw [x, hok], y, z⟩)
  have HEQ := Lib.hid (And.intro hs (And.intro hbk hbt))
  clear hs hbk hbt hok hsz
  refine HFM.out.mono ?_
  rintro e w3 ⟨rfl, b3⟩
  have hb3 := hb2.trans (b3.mono hb2.size)
  replace tb := tb.kept b3
  clear hb2 b3
  go_wp2_with fail
  refine (HPS.out w3 hb3).mono ?_
  rintro e w4 ⟨uv, rfl, ous, b4⟩
  have hb4 := hb3.trans (b4.mono hb3.size)
  replace tb := tb.kept b4
  clear hb3 b4
  obtain ⟨au2, capu2, rfl, -⟩ := ous.read
  have ub := TB.mk' (c := parC s) ous.read
  replace tb := tb.kept (box_new w4 (.cells #[.int .i64 (parC s), .slice au2 (parR s).length capu2] 26))
  have hb5 := hb4.trans ((box_new w4 (.cells #[.int .i64 (parC s), .slice au2 (parR s).length capu2] 26)).mono hb4.size)
  clear ous hb4
  go_wp2_with fail
  obtain ⟨U, hTT⟩ : ∃ U, U = w4.heap.size := ⟨_, rfl⟩
  obtain ⟨w5, hw5⟩ : ∃ w5, w5 = w4.alloc (.cells #[.int .i64 (parC s), .slice au2 (parR s).length capu2] 26) := ⟨_, rfl⟩
  rw [← hw5] at tb ub hb5 ⊢
  rw [← hTT] at ub ⊢
  clear hw5 hTT
  obtain ⟨hs, hbk, hbt⟩ := HEQ.out
  have hl1 : ll.length ≤ 1048576 := by have := HL.out; omega
  have hr1 : ∀ i, i < ll.length → (ll.getD i []).length ≤ 1048576 := fun i hi => Nat.le_trans (HR.out i hi) (by omega)
  have HF : Hid (∀ p : Bel w5, Calls Tryz.prog 8 #[.agg #[.int .i64 cc, .slice au ll.length capu]] p.x fun e w'' => e = .returned (.string s) ∧ ∃ q : Bel w5, w'' = q.x) :=
    Lib.hid fun p => Calls.bel ((formatTable_any cc _ ll p.x (tb.bel p).2 hl1 hr1).mono fun _ _ ⟨x, y⟩ => ⟨by rw [x, hs], y⟩)
  have HV : Hid (∀ p : Bel w5, Calls Tryz.prog 9 #[.agg #[.int .i64 cc, .slice au ll.length capu]] p.x fun e w'' => e = .returned (.bool bt) ∧ ∃ q : Bel w5, w'' = q.x) :=
    Lib.hid fun p => Calls.bel ((isTable_any cc _ ll p.x (tb.bel p).2 hl1 hr1).mono fun _ _ ⟨x, y⟩ => ⟨by rw [x, hbt], y⟩)
  have HI : Hid (∀ p : Bel w5, Calls Tryz.prog 11 #[.agg #[.int .i64 cc, .slice au ll.length capu]] p.x fun e w'' => e = .returned (.bool bt) ∧ ∃ q : Bel w5, w'' = q.x) :=
    Lib.hid fun p => Calls.bel ((implIsTable_any cc _ ll p.x (tb.bel p).2 hl1 hr1).mono fun _ _ ⟨x, y⟩ => ⟨by rw [x, hbt], y⟩)
  have HE : Hid (bt = true → ∀ p : Bel w5, Calls Tryz.prog 10 #[.agg #[.int .i64 (parC s), .slice au2 (parR s).length capu2], .agg #[.int .i64 cc, .slice au ll.length capu]] p.x fun e w'' => e = .returned (.bool true) ∧ ∃ q : Bel w5, w'' = q.x) :=
    Lib.hid fun hb p => Calls.bel ((implEqualTables_any (parC s) cc _ _ (parR s) ll p.x (ub.bel p).2 (tb.bel p).2 (by rw [(hbk hb).2]; omega) (fun i hi => by rw [(hbk hb).2] at hi ⊢; exact Nat.le_trans (hr1 i hi) (by omega))).mono fun _ _ ⟨x, y⟩ => ⟨by rw [x, (hbk hb).1, (hbk hb).2, eqTb_same], y⟩)
  have c0 : ∀ p : Bel w5, p.x.cell? ⟨T, 0, none⟩ = some (.int .i64 cc) := fun p => (tb.bel p).1.cells.1.1
  have c1 : ∀ p : Bel w5, p.x.cell? ⟨T, 1, none⟩ = some (.slice au ll.length capu) := fun p => (tb.bel p).1.cells.1.2
  have d0 : ∀ p : Bel w5, p.x.cell? ⟨U, 0, none⟩ = some (.int .i64 (parC s)) := fun p => (ub.bel p).1.cells.1.1
  have d1 : ∀ p : Bel w5, p.x.cell? ⟨U, 1, none⟩ = some (.slice au2 (parR s).length capu2) := fun p => (ub.bel p).1.cells.1.2
  clear hs hbk hbt hl1 hr1 tb ub HEQ HFM HPS
  clear HL HR
  have hb5s := hb5.size
  cases bt
  case' true =>
    have HE2 := Lib.hid (HE.out rfl)
    clear HE
    refine wp_region_bel (by kernel_rfl) (by kernel_rfl) ?_
    repeat (go_big_quiet_step (first | (go_at_call 8; exact HF.out _) | (go_at_call 9; exact HV.out _) | (go_at_call 11; exact HI.out _) | (go_at_call 10; exact HE2.out _)))
    refine wpQuiet_nil ?_
    intro _ hw'
    obtain ⟨pq, hw''⟩ := hw'
    subst hw''
    clear HE2
  case' false =>
    clear HE
    refine wp_region_bel (by kernel_rfl) (by kernel_rfl) ?_
    repeat (go_big_quiet_step (first | (go_at_call 8; exact HF.out _) | (go_at_call 9; exact HV.out _) | (go_at_call 11; exact HI.out _)))
    refine wpQuiet_nil ?_
    intro _ hw'
    obtain ⟨pq, hw''⟩ := hw'
    subst hw''
  all_goals
    have hb6 := hb5.trans (pq.h.mono hb5s)
    obtain ⟨w6, hw6⟩ : ∃ w6, w6 = pq.x := ⟨_, rfl⟩
    rw [← hw6] at hb6 ⊢
    clear hw6 HF HV HI c0 c1 d0 d1 hb5 hb5s pq
    go_wp2_with fail
    refine (HD2.out _ hb6).mono ?_
    rintro e w7 ⟨c2, u2, l2, q, q0, q1, rfl, hl2, hr2, os2, b7⟩
    have hb7 := hb6.trans (b7.mono hb6.size)
    obtain ⟨av2, cv2, rfl, -⟩ := os2.read
    have ab := TB.mk' (c := c2) os2.read
    have hb8 := hb7.trans ((box_new w7 (.cells #[.int .i64 c2, .slice av2 l2.length cv2] 26)).mono hb7.size)
    have HR2 := Lib.hid (rows_few hr2)
    have HL2 := Lib.hid hl2
    obtain ⟨⟨c0, c1⟩, f0, f1⟩ := ab.1.cells
    clear b7 hb6 hb7 os2 hr2 hl2
    go_wp2_with fail
    obtain ⟨A, hA⟩ : ∃ A, A = w7.heap.size := ⟨_, rfl⟩
    obtain ⟨w8, hw8⟩ : ∃ w8, w8 = w7.alloc (.cells #[.int .i64 c2, .slice av2 l2.length cv2] 26) := ⟨_, rfl⟩
    rw [← hw8] at ab hb8 ⊢
    rw [← hA] at ab ⊢
    clear hw8 hA c0 c1 f0 f1
    obtain ⟨C2, hC2⟩ : ∃ C2, C2 = projC c2 l2 q := ⟨_, rfl⟩
    obtain ⟨P, hP⟩ : ∃ P, P = projR c2 l2 q := ⟨_, rfl⟩
    have hp1 : ∀ w', ReadSS w' (.slice av2 l2.length cv2) l2 → Calls Tryz.prog 13 #[.agg #[.int .i64 c2, .slice av2 l2.length cv2], .int .i64 q] w' (RetT C2 P w') := fun w' hr => by
      rw [hC2, hP]; exact implProjectTable_any c2 q _ l2 w' (by omega) (by omega) hr (by have := HL2.out; omega) (fun i hi => Nat.le_trans (HR2.out i hi) (by omega))
    have hp2 : ∀ w', ReadSS w' (.slice av2 l2.length cv2) l2 → Calls Tryz.prog 15 #[.agg #[.int .i64 c2, .slice av2 l2.length cv2], .int .i64 q] w' (RetT C2 P w') := fun w' hr => by
      rw [hC2, hP]; exact projectTable_any c2 q _ l2 w' hr (by have := HL2.out; omega) (fun i hi => Nat.le_trans (HR2.out i hi) (by omega))
    have hPL : P.length ≤ l2.length ∧ ∀ r ∈ P, r.length ≤ 5 := by rw [hP]; exact proj_tot
    have HPN : Hid (∀ k, k + 1 < P.length → eqB (P.getD (k + 1) []) (P.getD k []) = false) := Lib.hid (fun k hk => by rw [hP] at hk ⊢; exact proj_ne _ _ _ hk)
    have HP1 := Lib.hid hp1
    have HP2 := Lib.hid hp2
    have HPL := Lib.hid (show P.length ≤ l2.length ∧ l2.length ≤ 20 from ⟨hPL.1, HL2.out⟩)
    have HPR := Lib.hid (rows_few hPL.2)
    clear hC2 hP hp1 hp2 hPL HL2 HR2
    refine (HP1.out _ ab.2).mono ?_
    rintro e w9 ⟨pv, rfl, op, b9⟩
    have hb9 := hb8.trans (b9.mono hb8.size)
    replace ab := ab.kept b9
    obtain ⟨pa, pc, rfl, -⟩ := op.read
    have pb := TB.mk' (c := C2) op.read
    replace ab := ab.kept (box_new w9 (.cells #[.int .i64 C2, .slice pa P.length pc] 26))
    have hb10 := hb9.trans ((box_new w9 (.cells #[.int .i64 C2, .slice pa P.length pc] 26)).mono hb9.size)
    clear b9 hb8 hb9 op
    go_wp2_with fail
    obtain ⟨B, hB⟩ : ∃ B, B = w9.heap.size := ⟨_, rfl⟩
    obtain ⟨w10, hw10⟩ : ∃ w10, w10 = w9.alloc (.cells #[.int .i64 C2, .slice pa P.length pc] 26) := ⟨_, rfl⟩
    rw [← hw10] at ab pb hb10 ⊢
    rw [← hB] at pb ⊢
    clear hw10 hB
    have HPS := Lib.hid (fun w' (h : Below w10.heap.size w10 w') => HP2.out w' (ab.kept h).2)
    have HRP := Lib.hid (fun w' (h : Below w10.heap.size w10 w') => (pb.kept h).2)
    have HEQ : Hid (∀ v v' w', ReadSS w' v P → ReadSS w' v' P → Calls Tryz.prog 14 #[.agg #[.int .i64 C2, v], .agg #[.int .i64 C2, v']] w' fun e w'' => e = .returned (.bool true) ∧ Below w'.heap.size w' w'') :=
      Lib.hid fun v v' w' h h' => (equalTables_any C2 C2 v v' P P w' h h' (by have := HPL.out; omega) (fun i hi => Nat.le_trans (HPR.out i hi) (by omega))).mono fun _ _ ⟨x, y⟩ => ⟨by rw [x, eqTb_same], y⟩
    have HS0 := Lib.hid (show (fun w' => w'.cell? ⟨A, 0, none⟩ = some (.int .i64 c2) ∧ w'.cell? ⟨A, 1, none⟩ = some (.slice av2 l2.length cv2) ∧ w'.cell? ⟨B, 0, none⟩ = some (.int .i64 C2) ∧ w'.cell? ⟨B, 1, none⟩ = some (.slice pa P.length pc) ∧ Below w10.heap.size w10 w') w10.drew from ⟨ab.1.cells.1.1, ab.1.cells.1.2, pb.1.cells.1.1, pb.1.cells.1.2, (Below.refl _ _).drew⟩)
    have HAB := Lib.hid (fun w' (h : Below w10.heap.size w10 w') => ab.kept h)
    have HPB := Lib.hid (fun w' (h : Below w10.heap.size w10 w') => pb.kept h)
    clear ab pb HP1 HP2
    refine wp_region_noPanic ?_
    refine wp_region_held_drew (S := (fun w' => w'.cell? ⟨A, 0, none⟩ = some (.int .i64 c2) ∧ w'.cell? ⟨A, 1, none⟩ = some (.slice av2 l2.length cv2) ∧ w'.cell? ⟨B, 0, none⟩ = some (.int .i64 C2) ∧ w'.cell? ⟨B, 1, none⟩ = some (.slice pa P.length pc) ∧ Below w10.heap.size w10 w')) (by kernel_rfl) ?_ (fun hHeld => ?_)
    · ((try dsimp only); (first | exact hS | exact HS0.out))
    refine wpAnyH_take (i := 0) (v := ?_) rfl (by kernel_rfl) (by kernel_rfl) (by kernel_rfl) (fun _ _ _ h => h) (Or.inl ⟨by rfl, ?_⟩) (by assumption) ?_
    rotate_left
    · (intro w hSw; (try dsimp only at hSw); go_simp; (try with_reducible rfl))
    (try simp only [Act.put, List.getElem_toArray, List.getElem_cons_zero, List.setIfInBounds_toArray, List.set_cons_zero, List.set_cons_succ])
    refine wpAnyH_take (i := 1) (v := ?_) rfl (by kernel_rfl) (by kernel_rfl) (by kernel_rfl) (fun _ _ _ h => h) (Or.inl ⟨by rfl, ?_⟩) (by assumption) ?_
    rotate_left
    · (intro w hSw; (try dsimp only at hSw); go_simp; (try with_reducible rfl))
    (try simp only [Act.put, List.getElem_toArray, List.getElem_cons_succ, List.getElem_cons_zero, List.setIfInBounds_toArray, List.set_cons_zero, List.set_cons_succ])
    refine wpAnyH_take (i := 2) (v := ?_) rfl (by kernel_rfl) (by kernel_rfl) (by kernel_rfl) (fun _ _ _ h => h) (Or.inl ⟨by rfl, ?_⟩) (by assumption) ?_
    rotate_left
    · (intro w hSw; (try dsimp only at hSw); go_simp; (try with_reducible rfl))
    (try simp only [Act.put, List.getElem_toArray, List.getElem_cons_succ, List.getElem_cons_zero, List.setIfInBounds_toArray, List.set_cons_zero, List.set_cons_succ])
    refine wpAnyH_ready (rs := [3]) (by kernel_rfl) (by simp) (AllReadyH.cons rfl (fun K hK => ?_) AllReadyH.nil)
    (first | ((first | (go_at_call 15; refine (HPS.out _ hHeld.2.2.2.2).mono ?_; rintro e w11 ⟨pv2, rfl, op2, b11⟩; have hS := held4 hHeld b11; obtain ⟨pa2, pc2, rfl, -⟩ := op2.read; have RP2 := Lib.hid op2.read) | (go_at_call 14; refine (HEQ.out _ _ _ (HRP.out _ hHeld.2.2.2.2) RP2.out).mono ?_; rintro e w12 ⟨rfl, b12⟩; have hS := held4 hHeld b12))) | (go_simp; (first | (go_at_call 15; refine (HPS.out _ hHeld.2.2.2.2).mono ?_; rintro e w11 ⟨pv2, rfl, op2, b11⟩; have hS := held4 hHeld b11; obtain ⟨pa2, pc2, rfl, -⟩ := op2.read; have RP2 := Lib.hid op2.read) | (go_at_call 14; refine (HEQ.out _ _ _ (HRP.out _ hHeld.2.2.2.2) RP2.out).mono ?_; rintro e w12 ⟨rfl, b12⟩; have hS := held4 hHeld b12))))
    (try (go_wp2_with fail))
    refine hK.out _ _ ?_ (fun hHeld => ?_)
    · ((try dsimp only); (first | exact hS | exact HS0.out))
    clear hK K
    (try simp only [Act.put, List.getElem_toArray, List.getElem_cons_succ, List.getElem_cons_zero, List.setIfInBounds_toArray, List.set_cons_zero, List.set_cons_succ])
    refine wpAnyH_ready (rs := [4]) (by kernel_rfl) (by simp) (AllReadyH.cons rfl (fun K hK => ?_) AllReadyH.nil)
    (first | ((first | (go_at_call 15; refine (HPS.out _ hHeld.2.2.2.2).mono ?_; rintro e w11 ⟨pv2, rfl, op2, b11⟩; have hS := held4 hHeld b11; obtain ⟨pa2, pc2, rfl, -⟩ := op2.read; have RP2 := Lib.hid op2.read) | (go_at_call 14; refine (HEQ.out _ _ _ (HRP.out _ hHeld.2.2.2.2) RP2.out).mono ?_; rintro e w12 ⟨rfl, b12⟩; have hS := held4 hHeld b12))) | (go_simp; (first | (go_at_call 15; refine (HPS.out _ hHeld.2.2.2.2).mono ?_; rintro e w11 ⟨pv2, rfl, op2, b11⟩; have hS := held4 hHeld b11; obtain ⟨pa2, pc2, rfl, -⟩ := op2.read; have RP2 := Lib.hid op2.read) | (go_at_call 14; refine (HEQ.out _ _ _ (HRP.out _ hHeld.2.2.2.2) RP2.out).mono ?_; rintro e w12 ⟨rfl, b12⟩; have hS := held4 hHeld b12))))
    (try (go_wp2_with fail))
    refine hK.out _ _ ?_ (fun hHeld => ?_)
    · ((try dsimp only); (first | exact hS | exact HS0.out))
    clear hK K
    (try simp only [Act.put, List.getElem_toArray, List.getElem_cons_succ, List.getElem_cons_zero, List.setIfInBounds_toArray, List.set_cons_zero, List.set_cons_succ])
    refine wpAnyH_take (i := 5) (v := ?_) rfl (by kernel_rfl) (by kernel_rfl) (by kernel_rfl) (fun _ _ _ h => h) (Or.inl ⟨by rfl, ?_⟩) (by assumption) ?_
    rotate_left
    · (intro w hSw; (try dsimp only at hSw); go_simp; (try with_reducible rfl))
    (try simp only [Act.put, List.getElem_toArray, List.getElem_cons_succ, List.getElem_cons_zero, List.setIfInBounds_toArray, List.set_cons_zero, List.set_cons_succ])
    refine wpAnyH_done (by kernel_rfl) ?_ _
    refine NoPanic.normal ?_
    go_wp2_with fail
    have hbb := hHeld.2.2.2.2
    have ab := Lib.hid (HAB.out _ hbb)
    have pb := Lib.hid (HPB.out _ hbb)
    have hb12 := hb10.trans (hbb.mono hb10.size)
    clear HAB HPB HPS HRP HEQ HS0 RP2 hb10 hbb hHeld
    obtain ⟨⟨pc0, pc1⟩, pf0, pf1⟩ := pb.out.1.cells
    go_loopw [10] (fun iv wr => ∃ j : Nat, iv = .int .i64 ((j : Int) + 1) ∧ (j + 1 ≤ P.length ∨ j = 0) ∧ Hid (TB wr A c2 (.slice av2 l2.length cv2) l2) ∧ Hid (TB wr B C2 (.slice pa P.length pc) P) ∧ Below w.heap.size w wr) (fun iv _ => (P.length + 1 - intOf iv).toNat)
    case atStart => exact ⟨0, rfl, .inr rfl, ab, pb, hb12⟩
    case round =>
      clear pc0 pc1 pf0 pf1 ab pb hb12
      obtain ⟨j, rfl, hj, ab, pb, hb⟩ := hrel
      obtain ⟨⟨pc0, pc1⟩, pf0, pf1⟩ := pb.out.1.cells
      by_cases hlt : j + 1 < P.length
      · obtain ⟨xa, xcap, hxv, hxc⟩ := pb.out.2
        simp at hxv
        obtain ⟨rfl, rfl⟩ := hxv
        obtain ⟨x, u1, rfl, hu1, hr1⟩ := hxc (j + 1) hlt
        obtain ⟨x', u2, hx', hu2, hr2⟩ := hxc j (by omega)
        obtain rfl := Option.some.inj hx'
        have HSI : Hid (∀ n, Calls Tryz.prog 16 #[u1, u2] (wr.drewN n) fun e w' => e = .returned (.bool false) ∧ ∃ m, w' = (wr.drewN n).drewN m) :=
          Lib.hid fun n => (sameInts_any u1 u2 _ _ (wr.drewN n) (hr1.kept (below_draws _ _)) (hr2.kept (below_draws _ _)) (by have := HPR.out (j + 1) hlt; omega)).mono fun _ _ ⟨x, y⟩ => ⟨by rw [x, HPN.out j hlt], y⟩
        obtain ⟨k, hk⟩ : ∃ k : Nat, k = j + 1 := ⟨_, rfl⟩
        have HK := Lib.hid hk
        rw [show (j : Int) + 1 = (k : Int) by omega]
        rw [← hk] at hu1 hlt
        have hw : IntKind.i64.wrap ((k : Int) - 1) = (j : Int) := by have := HPL.out; rw [IntKind.wrap_i64]; omega
        have z0' : (0 : Int) ≤ (j : Int) := by omega
        have z1' : (j : Int) < (P.length : Int) := by omega
        have z2' : (0 : Int) ≤ (k : Int) := by omega
        have z3' : (k : Int) < (P.length : Int) := by omega
        have hk20 : (k : Int) ≤ 20 := by have := HPL.out; omega
        clear hk hj hxc hr1 hr2 hx'
        go_wp2_with fail
        go_quiet ((go_at_call 16; exact Calls.quiet_of (HSI.out _)))
        go_wp2_with fail
        go_roundw
        case rel => exact ⟨k, by go_num, .inl (by omega), Lib.hid (ab.out.kept (below_draws _ _)), Lib.hid (pb.out.kept (below_draws _ _)), below_drewN hb _⟩
        case measure =>
          have hw2 : IntKind.i64.wrap ((k : Int) + 1) = (k : Int) + 1 := by rw [IntKind.wrap_i64]; omega
          have := HK.out
          simp [intOf]; omega
      · have hlt' : decide ((j : Int) + 1 < (P.length : Int)) = false := by simp; omega
        go_wp2_with fail
        refine (HD3.out _ hb).mono ?_
        rintro e w13 ⟨c3, u3, l3, q3, y0, y1, rfl, hl3, hr3, os3, b13⟩
        have hb13 := hb.trans (b13.mono hb.size)
        have ab13 := ab.out.kept b13
        have pb13 := pb.out.kept b13
        obtain ⟨av3, cv3, rfl, -⟩ := os3.read
        have eb := TB.mk' (c := c3) os3.read
        have bx := box_new w13 (.cells #[.int .i64 c3, .slice av3 l3.length cv3] 26)
        replace ab13 := ab13.kept bx
        replace pb13 := pb13.kept bx
        have hb14 := hb13.trans (bx.mono hb13.size)
        have HR3 := Lib.hid (rows_few hr3)
        have HL3 := Lib.hid hl3
        obtain ⟨⟨c0, c1⟩, f0, f1⟩ := eb.1.cells
        clear b13 hb13 hb bx os3 hr3 hl3 pc0 pc1 pf0 pf1 ab pb hj hlt hlt'
        go_wp2_with fail
        obtain ⟨E, hE⟩ : ∃ E, E = w13.heap.size := ⟨_, rfl⟩
        obtain ⟨w14, hw14⟩ : ∃ w14, w14 = w13.alloc (.cells #[.int .i64 c3, .slice av3 l3.length cv3] 26) := ⟨_, rfl⟩
        rw [← hw14] at eb ab13 pb13 hb14 ⊢
        rw [← hE] at eb ⊢
        clear hw14 hE c0 c1 f0 f1
        obtain ⟨X, hX⟩ : ∃ X, X = colOf c3 l3 q3 := ⟨_, rfl⟩
        have hXl : X.length ≤ 20 := by have h1 := colOf_len c3 l3 q3; have h2 := HL3.out; rw [hX]; omega
        have HC1 : Hid (∀ w', Below w14.heap.size w14 w' → Calls Tryz.prog 18 #[.agg #[.int .i64 c3, .slice av3 l3.length cv3], .int .i64 q3] w' (RetI X w')) :=
          Lib.hid fun w' h => by rw [hX]; exact implColumnOf_any c3 q3 _ l3 w' (eb.kept h).2 (by have := HL3.out; omega) (fun i hi => Nat.le_trans (HR3.out i hi) (by omega))
        have HC2 : Hid (∀ w', Below w14.heap.size w14 w' → Calls Tryz.prog 19 #[.agg #[.int .i64 c3, .slice av3 l3.length cv3], .int .i64 q3] w' (RetI X w')) :=
          Lib.hid fun w' h => by rw [hX]; exact columnOf_any c3 q3 _ l3 w' (eb.kept h).2 (by have := HL3.out; omega) (fun i hi => Nat.le_trans (HR3.out i hi) (by omega))
        have HSM : Hid (∀ v v' w', ReadI w' v X → ReadI w' v' X → Calls Tryz.prog 16 #[v, v'] w' fun e w'' => e = .returned (.bool true) ∧ Below w'.heap.size w' w'') :=
          Lib.hid fun v v' w' h h' => (sameInts_any v v' X X w' h h' (by omega)).mono fun _ _ ⟨x, m, y⟩ => ⟨by rw [x, eqB_same], by rw [y]; exact below_draws _ _⟩
        have hle : decide ((P.length : Int) ≤ (l2.length : Int)) = true := by have := HPL.out; simp; omega
        have hleN := HPL.out.1
        have HS0 := Lib.hid (show (fun w' => w'.cell? ⟨A, 1, none⟩ = some (.slice av2 l2.length cv2) ∧ w'.cell? ⟨B, 1, none⟩ = some (.slice pa P.length pc) ∧ w'.cell? ⟨E, 0, none⟩ = some (.int .i64 c3) ∧ w'.cell? ⟨E, 1, none⟩ = some (.slice av3 l3.length cv3) ∧ Below w14.heap.size w14 w') w14.drew from ⟨ab13.1.cells.1.2, pb13.1.cells.1.2, eb.1.cells.1.1, eb.1.cells.1.2, (Below.refl _ _).drew⟩)
        clear hX hXl eb ab13 pb13 HL3 HR3
        refine wp_region_noPanic ?_
        refine wp_region_held_drew (S := (fun w' => w'.cell? ⟨A, 1, none⟩ = some (.slice av2 l2.length cv2) ∧ w'.cell? ⟨B, 1, none⟩ = some (.slice pa P.length pc) ∧ w'.cell? ⟨E, 0, none⟩ = some (.int .i64 c3) ∧ w'.cell? ⟨E, 1, none⟩ = some (.slice av3 l3.length cv3) ∧ Below w14.heap.size w14 w')) (by kernel_rfl) ?_ (fun hHeld => ?_)
        · ((try dsimp only); (first | exact hS | exact HS0.out))
        refine wpAnyH_take (i := 0) (v := ?_) rfl (by kernel_rfl) (by kernel_rfl) (by kernel_rfl) (fun _ _ _ h => h) (Or.inl ⟨by rfl, ?_⟩) (by assumption) ?_
        rotate_left
        · (intro w hSw; (try dsimp only at hSw); go_simp; (try with_reducible rfl))
        (try simp only [Act.put, List.getElem_toArray, List.getElem_cons_zero, List.setIfInBounds_toArray, List.set_cons_zero, List.set_cons_succ])
        refine wpAnyH_take (i := 1) (v := ?_) rfl (by kernel_rfl) (by kernel_rfl) (by kernel_rfl) (fun _ _ _ h => h) (Or.inl ⟨by rfl, ?_⟩) (by assumption) ?_
        rotate_left
        · (intro w hSw; (try dsimp only at hSw); go_simp; (try with_reducible rfl))
        (try simp only [Act.put, List.getElem_toArray, List.getElem_cons_succ, List.getElem_cons_zero, List.setIfInBounds_toArray, List.set_cons_zero, List.set_cons_succ])
        refine wpAnyH_take (i := 2) (v := ?_) rfl (by kernel_rfl) (by kernel_rfl) (by kernel_rfl) (fun _ _ _ h => h) (Or.inl ⟨by rfl, ?_⟩) (by assumption) ?_
        rotate_left
        · (intro w hSw; (try dsimp only at hSw); go_simp; (try with_reducible rfl))
        (try simp only [Act.put, List.getElem_toArray, List.getElem_cons_succ, List.getElem_cons_zero, List.setIfInBounds_toArray, List.set_cons_zero, List.set_cons_succ])
        refine wpAnyH_take (i := 3) (v := ?_) rfl (by kernel_rfl) (by kernel_rfl) (by kernel_rfl) (fun _ _ _ h => h) (Or.inl ⟨by rfl, ?_⟩) (by assumption) ?_
        rotate_left
        · (intro w hSw; (try dsimp only at hSw); go_simp; (try with_reducible rfl))
        (try simp only [Act.put, List.getElem_toArray, List.getElem_cons_succ, List.getElem_cons_zero, List.setIfInBounds_toArray, List.set_cons_zero, List.set_cons_succ])
        refine wpAnyH_take (i := 4) (v := ?_) rfl (by kernel_rfl) (by kernel_rfl) (by kernel_rfl) (fun _ _ _ h => h) (Or.inl ⟨by rfl, ?_⟩) (by assumption) ?_
        rotate_left
        · (intro w hSw; (try dsimp only at hSw); go_simp; (try with_reducible rfl))
        (try simp only [Act.put, List.getElem_toArray, List.getElem_cons_succ, List.getElem_cons_zero, List.setIfInBounds_toArray, List.set_cons_zero, List.set_cons_succ])
        refine wpAnyH_take (i := 5) (v := ?_) rfl (by kernel_rfl) (by kernel_rfl) (by kernel_rfl) (fun _ _ _ h => h) (Or.inl ⟨by rfl, ?_⟩) (by assumption) ?_
        rotate_left
        · (intro w hSw; (try dsimp only at hSw); go_simp; (try with_reducible rfl))
        (try simp only [Act.put, List.getElem_toArray, List.getElem_cons_succ, List.getElem_cons_zero, List.setIfInBounds_toArray, List.set_cons_zero, List.set_cons_succ])
        refine wpAnyH_take (i := 6) (v := ?_) rfl (by kernel_rfl) (by kernel_rfl) (by kernel_rfl) (fun _ _ _ h => h) (Or.inl ⟨by rfl, ?_⟩) (by assumption) ?_
        rotate_left
        · (intro w hSw; (try dsimp only at hSw); go_simp; (try with_reducible rfl))
        (try simp only [Act.put, List.getElem_toArray, List.getElem_cons_succ, List.getElem_cons_zero, List.setIfInBounds_toArray, List.set_cons_zero, List.set_cons_succ])
        refine wpAnyH_take (i := 7) (v := ?_) rfl (by kernel_rfl) (by kernel_rfl) (by kernel_rfl) (fun _ _ _ h => h) (Or.inl ⟨by rfl, ?_⟩) (by assumption) ?_
        rotate_left
        · (intro w hSw; (try dsimp only at hSw); go_simp; (try with_reducible rfl))
        (try simp only [Act.put, List.getElem_toArray, List.getElem_cons_succ, List.getElem_cons_zero, List.setIfInBounds_toArray, List.set_cons_zero, List.set_cons_succ])
        refine wpAnyH_take (i := 8) (v := ?_) rfl (by kernel_rfl) (by kernel_rfl) (by kernel_rfl) (fun _ _ _ h => h) (Or.inl ⟨by rfl, ?_⟩) (by assumption) ?_
        rotate_left
        · (intro w hSw; (try dsimp only at hSw); go_simp; (try with_reducible rfl))
        (try simp only [Act.put, List.getElem_toArray, List.getElem_cons_succ, List.getElem_cons_zero, List.setIfInBounds_toArray, List.set_cons_zero, List.set_cons_succ])
        refine wpAnyH_take (i := 9) (v := ?_) rfl (by kernel_rfl) (by kernel_rfl) (by kernel_rfl) (fun _ _ _ h => h) (Or.inl ⟨by rfl, ?_⟩) (by assumption) ?_
        rotate_left
        · (intro w hSw; (try dsimp only at hSw); go_simp; (try with_reducible rfl))
        (try simp only [Act.put, List.getElem_toArray, List.getElem_cons_succ, List.getElem_cons_zero, List.setIfInBounds_toArray, List.set_cons_zero, List.set_cons_succ])
        refine wpAnyH_take (i := 11) (v := ?_) rfl (by kernel_rfl) (by kernel_rfl) (by kernel_rfl) (fun _ _ _ h => h) (Or.inl ⟨by rfl, ?_⟩) (by assumption) ?_
        rotate_left
        · (intro w hSw; (try dsimp only at hSw); go_simp; (try with_reducible rfl))
        (try simp only [Act.put, List.getElem_toArray, List.getElem_cons_succ, List.getElem_cons_zero, List.setIfInBounds_toArray, List.set_cons_zero, List.set_cons_succ])
        refine wpAnyH_take (i := 12) (v := ?_) rfl (by kernel_rfl) (by kernel_rfl) (by kernel_rfl) (fun _ _ _ h => h) (Or.inl ⟨by rfl, ?_⟩) (by assumption) ?_
        rotate_left
        · (intro w hSw; (try dsimp only at hSw); go_simp; (try with_reducible rfl))
        (try simp only [Act.put, List.getElem_toArray, List.getElem_cons_succ, List.getElem_cons_zero, List.setIfInBounds_toArray, List.set_cons_zero, List.set_cons_succ])
        refine wpAnyH_ready (rs := [10]) (by kernel_rfl) (by simp) (AllReadyH.cons rfl (fun K hK => ?_) AllReadyH.nil)
        (first | ((first | (go_at_call 18; refine (HC1.out _ hHeld.2.2.2.2).mono ?_; rintro e w15 ⟨x1, rfl, ox1, b15⟩; have hS := held4 hHeld b15; have R1 := Lib.hid ox1.read) | (go_at_call 19; refine (HC2.out _ hHeld.2.2.2.2).mono ?_; rintro e w16 ⟨x2, rfl, ox2, b16⟩; have hS := held4 hHeld b16; have R2 := Lib.hid ox2.read; have R1' := Lib.hid (R1.out.kept b16)) | (go_at_call 16; refine (HSM.out _ _ _ R1'.out R2.out).mono ?_; rintro e w17 ⟨rfl, b17⟩; have hS := held4 hHeld b17))) | (go_simp; (first | (go_at_call 18; refine (HC1.out _ hHeld.2.2.2.2).mono ?_; rintro e w15 ⟨x1, rfl, ox1, b15⟩; have hS := held4 hHeld b15; have R1 := Lib.hid ox1.read) | (go_at_call 19; refine (HC2.out _ hHeld.2.2.2.2).mono ?_; rintro e w16 ⟨x2, rfl, ox2, b16⟩; have hS := held4 hHeld b16; have R2 := Lib.hid ox2.read; have R1' := Lib.hid (R1.out.kept b16)) | (go_at_call 16; refine (HSM.out _ _ _ R1'.out R2.out).mono ?_; rintro e w17 ⟨rfl, b17⟩; have hS := held4 hHeld b17))))
        (try (go_wp2_with fail))
        refine hK.out _ _ ?_ (fun hHeld => ?_)
        · ((try dsimp only); (first | exact hS | exact HS0.out))
        clear hK K
        (try simp only [Act.put, List.getElem_toArray, List.getElem_cons_succ, List.getElem_cons_zero, List.setIfInBounds_toArray, List.set_cons_zero, List.set_cons_succ])
        refine wpAnyH_ready (rs := [13]) (by kernel_rfl) (by simp) (AllReadyH.cons rfl (fun K hK => ?_) AllReadyH.nil)
        (first | ((first | (go_at_call 18; refine (HC1.out _ hHeld.2.2.2.2).mono ?_; rintro e w15 ⟨x1, rfl, ox1, b15⟩; have hS := held4 hHeld b15; have R1 := Lib.hid ox1.read) | (go_at_call 19; refine (HC2.out _ hHeld.2.2.2.2).mono ?_; rintro e w16 ⟨x2, rfl, ox2, b16⟩; have hS := held4 hHeld b16; have R2 := Lib.hid ox2.read; have R1' := Lib.hid (R1.out.kept b16)) | (go_at_call 16; refine (HSM.out _ _ _ R1'.out R2.out).mono ?_; rintro e w17 ⟨rfl, b17⟩; have hS := held4 hHeld b17))) | (go_simp; (first | (go_at_call 18; refine (HC1.out _ hHeld.2.2.2.2).mono ?_; rintro e w15 ⟨x1, rfl, ox1, b15⟩; have hS := held4 hHeld b15; have R1 := Lib.hid ox1.read) | (go_at_call 19; refine (HC2.out _ hHeld.2.2.2.2).mono ?_; rintro e w16 ⟨x2, rfl, ox2, b16⟩; have hS := held4 hHeld b16; have R2 := Lib.hid ox2.read; have R1' := Lib.hid (R1.out.kept b16)) | (go_at_call 16; refine (HSM.out _ _ _ R1'.out R2.out).mono ?_; rintro e w17 ⟨rfl, b17⟩; have hS := held4 hHeld b17))))
        (try (go_wp2_with fail))
        refine hK.out _ _ ?_ (fun hHeld => ?_)
        · ((try dsimp only); (first | exact hS | exact HS0.out))
        clear hK K
        (try simp only [Act.put, List.getElem_toArray, List.getElem_cons_succ, List.getElem_cons_zero, List.setIfInBounds_toArray, List.set_cons_zero, List.set_cons_succ])
        refine wpAnyH_ready (rs := [14]) (by kernel_rfl) (by simp) (AllReadyH.cons rfl (fun K hK => ?_) AllReadyH.nil)
        (first | ((first | (go_at_call 18; refine (HC1.out _ hHeld.2.2.2.2).mono ?_; rintro e w15 ⟨x1, rfl, ox1, b15⟩; have hS := held4 hHeld b15; have R1 := Lib.hid ox1.read) | (go_at_call 19; refine (HC2.out _ hHeld.2.2.2.2).mono ?_; rintro e w16 ⟨x2, rfl, ox2, b16⟩; have hS := held4 hHeld b16; have R2 := Lib.hid ox2.read; have R1' := Lib.hid (R1.out.kept b16)) | (go_at_call 16; refine (HSM.out _ _ _ R1'.out R2.out).mono ?_; rintro e w17 ⟨rfl, b17⟩; have hS := held4 hHeld b17))) | (go_simp; (first | (go_at_call 18; refine (HC1.out _ hHeld.2.2.2.2).mono ?_; rintro e w15 ⟨x1, rfl, ox1, b15⟩; have hS := held4 hHeld b15; have R1 := Lib.hid ox1.read) | (go_at_call 19; refine (HC2.out _ hHeld.2.2.2.2).mono ?_; rintro e w16 ⟨x2, rfl, ox2, b16⟩; have hS := held4 hHeld b16; have R2 := Lib.hid ox2.read; have R1' := Lib.hid (R1.out.kept b16)) | (go_at_call 16; refine (HSM.out _ _ _ R1'.out R2.out).mono ?_; rintro e w17 ⟨rfl, b17⟩; have hS := held4 hHeld b17))))
        (try (go_wp2_with fail))
        refine hK.out _ _ ?_ (fun hHeld => ?_)
        · ((try dsimp only); (first | exact hS | exact HS0.out))
        clear hK K
        (try simp only [Act.put, List.getElem_toArray, List.getElem_cons_succ, List.getElem_cons_zero, List.setIfInBounds_toArray, List.set_cons_zero, List.set_cons_succ])
        refine wpAnyH_take (i := 15) (v := ?_) rfl (by kernel_rfl) (by kernel_rfl) (by kernel_rfl) (fun _ _ _ h => h) (Or.inl ⟨by rfl, ?_⟩) (by assumption) ?_
        rotate_left
        · (intro w hSw; (try dsimp only at hSw); go_simp; (try with_reducible rfl))
        (try simp only [Act.put, List.getElem_toArray, List.getElem_cons_succ, List.getElem_cons_zero, List.setIfInBounds_toArray, List.set_cons_zero, List.set_cons_succ])
        refine wpAnyH_take (i := 16) (v := ?_) rfl (by kernel_rfl) (by kernel_rfl) (by kernel_rfl) (fun _ _ _ h => h) (Or.inl ⟨by rfl, ?_⟩) (by assumption) ?_
        rotate_left
        · (intro w hSw; (try dsimp only at hSw); go_simp; (try with_reducible rfl))
        (try simp only [Act.put, List.getElem_toArray, List.getElem_cons_succ, List.getElem_cons_zero, List.setIfInBounds_toArray, List.set_cons_zero, List.set_cons_succ])
        refine wpAnyH_done (by kernel_rfl) ?_ _
        refine NoPanic.normal ?_
        go_wp2_with fail
        go_ret
        exact ⟨rfl, hb14.trans (hHeld.2.2.2.2.mono hb14.size)⟩
end Go.Proofs.YtpkcffbfgocndaaGreatDoor
