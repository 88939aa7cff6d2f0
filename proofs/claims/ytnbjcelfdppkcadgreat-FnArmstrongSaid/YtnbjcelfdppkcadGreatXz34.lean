/- Texts of this claim, merged: ExD. Conditions: as stated. -/
import Derived.Test.YtnbjcelfdppkcadGreatXz33
import Derived.Test.YtnbjcelfdppkcadGreatXz20
import Derived.Test.YtnbjcelfdppkcadGreatXz14
import Derived.Test.YtnbjcelfdppkcadGreatXz9
import Derived.Deep.RegionLaw
import Derived.Deep.CutBlock
namespace Go.Proofs.YtnbjcelfdppkcadGreat
open Go.RowKit

theorem bit_zero12 (X k : Nat) : (bits BinOp.and IntKind.i64 ((X : Int) / 2 ^ k) 1 == 0) = !bitB X k := by
  have e : (X : Int) / 2 ^ k % 2 = ((X / 2 ^ k % 2 : Nat) : Int) := by
    rw [Int.natCast_emod, Int.natCast_ediv, Int.natCast_pow]; rfl
  rw [i64_and_1, e]
  unfold bitB
  rw [Bool.eq_iff_iff, beq_iff_eq, Bool.not_eq_true', beq_eq_false_iff_ne]
  omega
/-- What one agree set lets by: if it has Left it has Right. -/
def aB (x r : Nat) (a : Int) : Bool := !subN x a.toNat || bitB a.toNat r
def dasG (ag : List Int) (x r : Nat) : Bool := !bitB x r && ag.all (aB x r)
def dasOk (n : Int) (ag : List Int) : Bool := decide (1 ≤ n ∧ n ≤ 5) && ag.all (isA n)
/-- The minimal dependencies of a table with these agree sets. -/
def dasL (n : Int) (ag : List Int) : List (Int × Int) := if dasOk n ag = true then accOut (dasG ag) (parts n) n.toNat else []
theorem dasL_len (n : Int) (ag : List Int) : (dasL n ag).length ≤ 160 := by
  unfold dasL
  split
  · rename_i h
    unfold dasOk at h
    rw [Bool.and_eq_true, decide_eq_true_iff] at h
    obtain ⟨C, rfl⟩ : ∃ C : Nat, n = (C : Int) := ⟨n.toNat, by omega⟩
    have h1 := accOut_len (dasG ag) (parts (C : Int)) C
    have h2 := parts_len32 (C := C) (by omega)
    have h3 : C * (parts (C : Int)).length ≤ 5 * 32 := Nat.mul_le_mul (by omega) h2
    rw [show ((C : Int)).toNat = C from rfl]
    omega
  · simp
section
set_option maxRecDepth 20000
set_option maxHeartbeats 3200000
theorem depsOfAgree12_any (v : Value) (n : Int) (ag : List Int) (w : World) (hr : ReadI w v ag) (hl : ag.length ≤ 1048576) :
    Calls Tryz.prog 19 #[.int .i64 n, v] w (RetD (dasL n ag) w) := by
  obtain ⟨i0, hi, hz0, hz1, hz2⟩ := info_parts infoDp
  have HI : Hid (_ ∧ _ ∧ _ ∧ _) := Lib.hid ⟨hi, hz0, hz1, hz2⟩
  clear hi hz0 hz1 hz2
  have HB1 := Lib.hid ((Below.refl w.heap.size w).alloc (Nat.le_refl _) (.cells #[] 35))
  have HO1 : Hid (OwnD (w.alloc (.cells #[] 35)) w.heap.size (.slice (some ⟨w.heap.size, 0, none⟩) 0 0) []) := Lib.hid (World.ownsRow_made w #[] 0 (Nat.le_refl _) (by unfold maxLen; omega) (by rfl))
  have HIN := Lib.hid (in_any n 1 5)
  have HIA := Lib.hid (fun x w' => isA_any n x w')
  obtain ⟨a, cap, rfl, hc⟩ := hr
  have HR := Lib.hid (fun w' (hb : Below w.heap.size w w') i (hi : i < ag.length) => show ∃ x, a = some x ∧ w'.cell? (x.add i) = some (.int .i64 (ag.getD i 0)) from by
    obtain ⟨x, e, h⟩ := hc i hi
    exact ⟨x, e, by rw [← get_getD ag i hi]; exact (hb.cell (World.block_lt_of_cell? w _ h)).trans h⟩)
  clear hc
  by_cases hn : 1 ≤ n ∧ n ≤ 5
  · obtain ⟨C, rfl⟩ : ∃ C : Nat, n = (C : Int) := ⟨n.toNat, by omega⟩
    have hC : C ≤ 5 := by omega
    rw [decide_eq_true hn] at HIN
    have hok : dasOk (C : Int) ag = ag.all (isA (C : Int)) := by unfold dasOk; rw [decide_eq_true hn, Bool.true_and]
    have HPA := Lib.hid (fun w' => partsS_any (C : Int) w')
    have HPN := Lib.hid (fun S h => parts_small (C : Int) S h)
    have hpl := parts_len32 hC
    have HOK := Lib.hid hok
    have HE : Hid (ag.all (isA (C : Int)) = true → accOut (dasG ag) (parts (C : Int)) C = dasL (C : Int) ag) := Lib.hid (fun h => by unfold dasL; rw [hok, if_pos h]; rfl)
    have HE0 : Hid (ag.all (isA (C : Int)) = false → dasL (C : Int) ag = []) := Lib.hid (fun h => by unfold dasL; rw [hok, h]; rfl)
    have HAX := Lib.hid (fun h x (hx : x ∈ ag) => isA_lt hC (List.all_eq_true.1 (show ag.all (isA (C : Int)) = true from h) x hx))
    obtain ⟨ps, hps⟩ : ∃ ps, ps = parts (C : Int) := ⟨_, rfl⟩
    rw [← hps] at HPA HPN hpl HE
    clear hn hok hps
    go_enter Tryz.func19, Tryz.ntmps19
    go_wp2_with fail
    refine (HIN.out _).mono ?_
    rintro e w' ⟨rfl, rfl⟩
    go_wp2_with fail
    go_loopw [6] (fun iv wr => ∃ i : Nat, i ≤ ag.length ∧ iv = .int .i64 (i : Int) ∧ Hid ((ag.take i).all (isA (C : Int)) = true) ∧ wr = w.alloc (.cells #[] 35)) (fun iv _ => ag.length - (intOf iv).toNat)
    case atStart => exact ⟨0, by omega, rfl, Lib.hid rfl, rfl⟩
    case round =>
      obtain ⟨i, hi, rfl, HALL, hwr⟩ := hrel
      rw [hwr]
      clear hwr
      by_cases hlt : i < ag.length
      · have z0 : (0 : Int) ≤ (i : Int) := by omega
        have z1 : (i : Int) < (ag.length : Int) := by omega
        obtain ⟨x, rfl, h0⟩ := HR.out _ HB1.out i hlt
        have HS : Hid (ag.take (i + 1) = ag.take i ++ [ag.getD i 0]) := Lib.hid (take_succ_getD ag 0 i hlt)
        have HM : Hid (ag.getD i 0 ∈ ag) := Lib.hid (mem_getD.2 ⟨i, hlt, rfl⟩)
        obtain ⟨y, hy⟩ : ∃ y, y = ag.getD i 0 := ⟨_, rfl⟩
        rw [← hy] at h0 HS HM
        have HIX := Lib.hid (HIA.out y)
        clear hy
        cases hq : isA (C : Int) y with
        | true =>
          rw [hq] at HIX
          have HALL' : Hid ((ag.take (i + 1)).all (isA (C : Int)) = true) := Lib.hid (by rw [HS.out, List.all_append, HALL.out]; simp [hq])
          clear hq
          go_wp2_with fail
          refine (HIX.out _).mono ?_
          rintro e w' ⟨rfl, rfl⟩
          go_wp2_with fail
          go_roundw
          case rel => exact ⟨i + 1, by omega, by go_num, HALL', by first | rfl | trivial⟩
          case measure => simp [intOf]; omega
        | false =>
          rw [hq] at HIX
          have HF : Hid (dasL (C : Int) ag = []) := Lib.hid (HE0.out (List.all_eq_false.2 ⟨_, HM.out, by rw [hq]; decide⟩))
          clear hq
          go_wp2_with fail
          refine (HIX.out _).mono ?_
          rintro e w' ⟨rfl, rfl⟩
          go_wp2_with fail
          go_ret
          exact ⟨_, rfl, by rw [HF.out]; exact HO1.out, HB1.out⟩
      · obtain rfl : i = ag.length := by omega
        have z1 : ¬ ((ag.length : Int) < (ag.length : Int)) := by omega
        have hal : ag.all (isA (C : Int)) = true := by have h := HALL.out; rw [List.take_length] at h; exact h
        have HEE := Lib.hid (HE.out hal)
        have HAZ := Lib.hid (HAX.out hal)
        clear hal HALL HE HE0 HAX
        go_wp2_with fail
        refine (HPA.out _).mono ?_
        rintro e w3 ⟨vp, rfl, op, b3⟩
        have HB3 := Lib.hid (HB1.out.trans (b3.mono HB1.out.size))
        have HP3 := Lib.hid (op.base HB1.out.size)
        have HO3 := Lib.hid (HO1.out.below b3 (fun k hk => (HO1.out.lt k hk).2))
        obtain ⟨ap, cp, hvp, -⟩ := op.read
        subst hvp
        clear b3 op HO1 HB1
        go_wp2_with fail
        go_loopw [5, 8, 9, 10, 11, 12] (fun ov rv _ _ _ _ wr => ∃ (r : Nat) (q : List (Int × Int)), r ≤ C ∧ rv = .int .i64 (r : Int) ∧ Hid (q = accOut (dasG ag) ps r) ∧ Hid (OwnD wr w.heap.size ov q) ∧ Hid (OwnI wr w.heap.size (.slice ap ps.length cp) ps) ∧ Hid (Below w.heap.size w wr)) (fun _ rv _ _ _ _ _ => C - (intOf rv).toNat)
        case atStart => exact ⟨0, [], by omega, rfl, Lib.hid rfl, HO3, HP3, HB3⟩
        case round =>
          clear HO3 HP3 HB3
          obtain ⟨r, q, hrC, rfl, HQ, HO, HP, HB⟩ := hrel
          obtain ⟨w4, hw⟩ : ∃ w', w' = wr := ⟨_, rfl⟩
          rw [← hw] at HO HP HB ⊢
          clear hw
          have hql := accOut_len (dasG ag) ps r
          rw [← HQ.out] at hql
          by_cases hlt : r < C
          · have z0 : (0 : Int) ≤ (r : Int) := by omega
            have z1 : (r : Int) < (C : Int) := by omega
            have hr64 : r ≤ 64 := by omega
            have hq160 : q.length ≤ 160 := by
              have : r * ps.length ≤ 5 * 32 := Nat.mul_le_mul (by omega) hpl
              omega
            have HSS : Hid (accIn (dasG ag) r ps q ps.length = accOut (dasG ag) ps (r + 1)) := Lib.hid (by rw [HQ.out]; rfl)
            have HIL := Lib.hid (accIn_len (dasG ag) r ps q)
            obtain ⟨q0, hq0⟩ : ∃ q0, q0 = q := ⟨_, rfl⟩
            have HQ0 : Hid (q = accIn (dasG ag) r ps q0 0) := Lib.hid (by rw [hq0]; rfl)
            rw [← hq0] at HSS HIL
            have hq0l : q0.length ≤ 160 := by rw [hq0]; exact hq160
            clear hq0
            go_wp2_with fail
            go_loopw [5, 9, 10, 11, 12] (fun ov kv _ _ _ wr => ∃ (i : Nat) (q : List (Int × Int)), i ≤ ps.length ∧ kv = .int .i64 (i : Int) ∧ Hid (q = accIn (dasG ag) r ps q0 i) ∧ Hid (OwnD wr w.heap.size ov q) ∧ Hid (OwnI wr w.heap.size (.slice ap ps.length cp) ps) ∧ Hid (Below w.heap.size w wr)) (fun _ kv _ _ _ _ => ps.length - (intOf kv).toNat)
            case atStart => exact ⟨0, q, by omega, rfl, HQ0, HO, HP, HB⟩
            case round =>
              clear HQ HO HP HB HQ0 hql hq160
              obtain ⟨i, q, hi2, rfl, HQ, HO, HP, HB⟩ := hrel
              obtain ⟨w5, hw⟩ : ∃ w', w' = wr := ⟨_, rfl⟩
              rw [← hw] at HO HP HB ⊢
              clear hw
              have hql := HIL.out i
              rw [← HQ.out] at hql
              by_cases hkl : i < ps.length
              · have y0 : (0 : Int) ≤ (i : Int) := by omega
                have y1 : (i : Int) < (ps.length : Int) := by omega
                obtain ⟨xp, hpa, h0⟩ := row_at8 HP.out hkl
                obtain ⟨X, hX, hX32⟩ := HPN.out (ps.getD i 0) (by rw [List.getD_eq_getElem?_getD, List.getElem?_eq_getElem hkl]; exact List.getElem_mem hkl)
                have HS2 : Hid (accIn (dasG ag) r ps q0 (i + 1) = if (dasG ag X r && !cvd q ((X : Int), (r : Int))) = true then q ++ [((X : Int), (r : Int))] else q) := Lib.hid (by
                  rw [HQ.out]
                  show (if (dasG ag (ps.getD i 0).toNat r && !cvd (accIn (dasG ag) r ps q0 i) (ps.getD i 0, (r : Int))) = true then accIn (dasG ag) r ps q0 i ++ [(ps.getD i 0, (r : Int))] else accIn (dasG ag) r ps q0 i) = _
                  rw [hX]; rfl)
                rw [hX] at h0
                subst hpa
                have hal := (Below.refl w5.heap.size w5).alloc (Nat.le_refl _) (.cells #[.int .i64 (X : Int), .int .i64 (r : Int)] 35)
                have HX6 := Lib.hid (bx_new w5 X r)
                have HB6 := Lib.hid (HB.out.trans (hal.mono HB.out.size))
                have HO6 := Lib.hid (HO.out.below hal (fun k hk => (HO.out.lt k hk).2))
                have HP6 := Lib.hid (OwnI.kept HP.out hal (fun k hk => (OwnI.lt HP.out k hk).2))
                have HCV := Lib.hid (fun w' (hb : Below (w5.alloc (.cells #[.int .i64 (X : Int), .int .i64 (r : Int)] 35)).heap.size (w5.alloc (.cells #[.int .i64 (X : Int), .int .i64 (r : Int)] 35)) w') => covered8_any _ q (X : Int) (r : Int) w' (HO6.out.read.kept hb) (by omega))
                have hzx := bit_zero12 X r
                have HXC : Hid (w5.cell? (xp.add i) = some (.int .i64 (X : Int))) := Lib.hid h0
                have h06 := (hal.cell (World.block_lt_of_cell? _ _ h0)).trans h0
                have HLT5 : Hid (w5.heap.size ≤ w5.heap.size) := Lib.hid (Nat.le_refl _)
                clear hX
                obtain ⟨aq, cq, hov⟩ := HO6.out.shape
                subst hov
                go_upto_region 17 with fail
                obtain ⟨w6, hw6⟩ : ∃ w6, w6 = w5.alloc (.cells #[.int .i64 (X : Int), .int .i64 (r : Int)] 35) := ⟨_, rfl⟩
                rw [← hw6] at HX6 HB6 HO6 HP6 HCV h06 ⊢
                obtain ⟨g, hg⟩ : ∃ g, g = w5.heap.size := ⟨_, rfl⟩
                rw [← hg] at HX6 ⊢
                clear hw6 hg hal h0 HO HP HB HXC HLT5
                have d0 := HX6.out.c0
                have d1 := HX6.out.c1
                have HC6 : Hid (w6.cell? (xp.add i) = some (.int .i64 (X : Int))) := Lib.hid h06
                go_cut [11] (fun fv wx => fv = .bool (!bitB X r && !cvd q ((X : Int), (r : Int))) ∧ Hid (Below w6.heap.size w6 wx))
                case first =>
                  cases hb : bitB X r with
                  | true =>
                    rw [hb] at hzx
                    have HBQ := Lib.hid hb
                    go_wp2_with fail
                    go_meet
                    exact ⟨by rw [HBQ.out]; rfl, Lib.hid (Below.refl _ _)⟩
                  | false =>
                    rw [hb] at hzx
                    have HCC := Lib.hid (HCV.out _ (Below.refl _ _))
                    obtain ⟨t, ht⟩ : ∃ t, t = cvd q ((X : Int), (r : Int)) := ⟨_, rfl⟩
                    rw [← ht] at HCC
                    have HTT := Lib.hid ht
                    have HBQ := Lib.hid hb
                    clear ht hb
                    go_wp2_with fail
                    refine HCC.out.mono ?_
                    rintro e w7 ⟨rfl, b7⟩
                    have HB7 := Lib.hid b7
                    clear b7 d0 d1 h06
                    go_wp2_with fail
                    go_meet
                    exact ⟨by rw [HBQ.out, ← HTT.out]; rfl, HB7⟩
                case rest =>
                  clear d0 d1 h06 HCV hzx
                  obtain ⟨rfl, HB7⟩ := hcut
                  obtain ⟨w7, hw7⟩ : ∃ w', w' = wc := ⟨_, rfl⟩
                  rw [← hw7] at HB7 ⊢
                  clear hw7
                  have HAF : Hid (dasG ag X r = (!bitB X r && ag.all (aB X r))) := Lib.hid rfl
                  have HCX := Lib.hid (keep_in HC6.out HB7.out)
                  obtain ⟨u, hu⟩ : ∃ u, u = (!bitB X r && !cvd q ((X : Int), (r : Int))) := ⟨_, rfl⟩
                  have HU := Lib.hid hu
                  rw [← hu]
                  clear hu
                  go_wp2_with fail
                  go_loopw [11, 12] (fun fv kv wr => ∃ k : Nat, k ≤ ag.length ∧ fv = .bool (u && (ag.take k).all (aB X r)) ∧ kv = .int .i64 (k : Int) ∧ Hid (Below w6.heap.size w6 wr)) (fun _ kv _ => ag.length - (intOf kv).toNat)
                  case atStart => exact ⟨0, by omega, by simp, rfl, HB7⟩
                  case round =>
                    clear HB7 HCX
                    obtain ⟨k, hk, rfl, rfl, HK⟩ := hrel
                    obtain ⟨w7, hw⟩ : ∃ w', w' = wr := ⟨_, rfl⟩
                    rw [← hw] at HK ⊢
                    clear hw
                    by_cases hka : k < ag.length
                    · have x0 : (0 : Int) ≤ (k : Int) := by omega
                      have x1 : (k : Int) < (ag.length : Int) := by omega
                      obtain ⟨xa, rfl, g0⟩ := HR.out w7 (HB6.out.trans (HK.out.mono HB6.out.size)) k hka
                      have g1 := keep_in HC6.out HK.out
                      obtain ⟨A, hA, hA32, -⟩ := HAZ.out _ (mem_getD.2 ⟨k, hka, rfl⟩)
                      have HS : Hid ((u && (ag.take (k + 1)).all (aB X r)) = ((u && (ag.take k).all (aB X r)) && (!subN X A || bitB A r))) := Lib.hid (by rw [take_succ_getD ag 0 k hka, hA, List.all_append, ← Bool.and_assoc]; simp [aB])
                      rw [hA] at g0
                      have hand := and_sub' X A hX32 hA32
                      have hne : (bits .and .i64 (A : Int) (X : Int) != (X : Int)) = !subN X A := by rw [bne, hand]
                      have hbt := bit_test A r
                      obtain ⟨f, hf⟩ : ∃ f, f = (u && (ag.take k).all (aB X r)) := ⟨_, rfl⟩
                      rw [← hf] at HS ⊢
                      clear hf hand hA
                      cases f with
                      | false =>
                        have HF : Hid (false = (u && (ag.take (k + 1)).all (aB X r))) := Lib.hid (by rw [HS.out, Bool.false_and])
                        clear HS
                        go_upto_region 21 with fail
                        refine wp_region_noPanic ?_
                        refine wp_region_held_drew (S := (fun w' => (w'.cell? (xa.add k) = some (.int .i64 (A : Int)) ∧ w'.cell? (xp.add i) = some (.int .i64 (X : Int))) ∧ Below w7.heap.size w7 w')) (by kernel_rfl) ?_ (fun hHeld => ?_)
                        · ((try dsimp only); exact ⟨⟨g0, g1⟩, (Below.refl _ _).drew⟩)
                        refine wpAnyH_take (i := 0) (v := ?_) rfl (by kernel_rfl) (by kernel_rfl) (by kernel_rfl) (fun _ _ _ h => h) (Or.inl ⟨by rfl, ?_⟩) (by assumption) ?_
                        rotate_left
                        · (intro w hSw; (try dsimp only at hSw); go_simp; (try with_reducible rfl))
                        (try simp only [Act.put, List.getElem_toArray, List.getElem_cons_zero, List.setIfInBounds_toArray, List.set_cons_zero, List.set_cons_succ])
                        refine wpAnyH_take (i := 1) (v := ?_) rfl (by kernel_rfl) (by kernel_rfl) (by kernel_rfl) (fun _ _ _ h => h) (Or.inl ⟨by rfl, ?_⟩) (by assumption) ?_
                        rotate_left
                        · (intro w hSw; (try dsimp only at hSw); go_simp; (try with_reducible rfl))
                        (try simp only [Act.put, List.getElem_toArray, List.getElem_cons_succ, List.getElem_cons_zero, List.setIfInBounds_toArray, List.set_cons_zero, List.set_cons_succ])
                        refine wpAnyH_take (i := 2) (v := undef) rfl (by kernel_rfl) (by kernel_rfl) (by kernel_rfl) (fun _ _ _ h => h) (Or.inr ⟨by rfl, rfl⟩) (by assumption) ?_
                        (try simp only [Act.put, List.getElem_toArray, List.getElem_cons_succ, List.getElem_cons_zero, List.setIfInBounds_toArray, List.set_cons_zero, List.set_cons_succ])
                        refine wpAnyH_take (i := 3) (v := undef) rfl (by kernel_rfl) (by kernel_rfl) (by kernel_rfl) (fun _ _ _ h => h) (Or.inr ⟨by rfl, rfl⟩) (by assumption) ?_
                        (try simp only [Act.put, List.getElem_toArray, List.getElem_cons_succ, List.getElem_cons_zero, List.setIfInBounds_toArray, List.set_cons_zero, List.set_cons_succ])
                        refine wpAnyH_take (i := 4) (v := undef) rfl (by kernel_rfl) (by kernel_rfl) (by kernel_rfl) (fun _ _ _ h => h) (Or.inr ⟨by rfl, rfl⟩) (by assumption) ?_
                        (try simp only [Act.put, List.getElem_toArray, List.getElem_cons_succ, List.getElem_cons_zero, List.setIfInBounds_toArray, List.set_cons_zero, List.set_cons_succ])
                        refine wpAnyH_take (i := 5) (v := undef) rfl (by kernel_rfl) (by kernel_rfl) (by kernel_rfl) (fun _ _ _ h => h) (Or.inr ⟨by rfl, rfl⟩) (by assumption) ?_
                        (try simp only [Act.put, List.getElem_toArray, List.getElem_cons_succ, List.getElem_cons_zero, List.setIfInBounds_toArray, List.set_cons_zero, List.set_cons_succ])
                        refine wpAnyH_take (i := 6) (v := undef) rfl (by kernel_rfl) (by kernel_rfl) (by kernel_rfl) (fun _ _ _ h => h) (Or.inr ⟨by rfl, rfl⟩) (by assumption) ?_
                        (try simp only [Act.put, List.getElem_toArray, List.getElem_cons_succ, List.getElem_cons_zero, List.setIfInBounds_toArray, List.set_cons_zero, List.set_cons_succ])
                        refine wpAnyH_take (i := 7) (v := undef) rfl (by kernel_rfl) (by kernel_rfl) (by kernel_rfl) (fun _ _ _ h => h) (Or.inr ⟨by rfl, rfl⟩) (by assumption) ?_
                        (try simp only [Act.put, List.getElem_toArray, List.getElem_cons_succ, List.getElem_cons_zero, List.setIfInBounds_toArray, List.set_cons_zero, List.set_cons_succ])
                        refine wpAnyH_take (i := 8) (v := undef) rfl (by kernel_rfl) (by kernel_rfl) (by kernel_rfl) (fun _ _ _ h => h) (Or.inr ⟨by rfl, rfl⟩) (by assumption) ?_
                        (try simp only [Act.put, List.getElem_toArray, List.getElem_cons_succ, List.getElem_cons_zero, List.setIfInBounds_toArray, List.set_cons_zero, List.set_cons_succ])
                        refine wpAnyH_take (i := 9) (v := undef) rfl (by kernel_rfl) (by kernel_rfl) (by kernel_rfl) (fun _ _ _ h => h) (Or.inr ⟨by rfl, rfl⟩) (by assumption) ?_
                        (try simp only [Act.put, List.getElem_toArray, List.getElem_cons_succ, List.getElem_cons_zero, List.setIfInBounds_toArray, List.set_cons_zero, List.set_cons_succ])
                        refine wpAnyH_take (i := 10) (v := undef) rfl (by kernel_rfl) (by kernel_rfl) (by kernel_rfl) (fun _ _ _ h => h) (Or.inr ⟨by rfl, rfl⟩) (by assumption) ?_
                        (try simp only [Act.put, List.getElem_toArray, List.getElem_cons_succ, List.getElem_cons_zero, List.setIfInBounds_toArray, List.set_cons_zero, List.set_cons_succ])
                        refine wpAnyH_take (i := 11) (v := undef) rfl (by kernel_rfl) (by kernel_rfl) (by kernel_rfl) (fun _ _ _ h => h) (Or.inr ⟨by rfl, rfl⟩) (by assumption) ?_
                        (try simp only [Act.put, List.getElem_toArray, List.getElem_cons_succ, List.getElem_cons_zero, List.setIfInBounds_toArray, List.set_cons_zero, List.set_cons_succ])
                        refine wpAnyH_take (i := 12) (v := undef) rfl (by kernel_rfl) (by kernel_rfl) (by kernel_rfl) (fun _ _ _ h => h) (Or.inr ⟨by rfl, rfl⟩) (by assumption) ?_
                        (try simp only [Act.put, List.getElem_toArray, List.getElem_cons_succ, List.getElem_cons_zero, List.setIfInBounds_toArray, List.set_cons_zero, List.set_cons_succ])
                        refine wpAnyH_take (i := 13) (v := undef) rfl (by kernel_rfl) (by kernel_rfl) (by kernel_rfl) (fun _ _ _ h => h) (Or.inr ⟨by rfl, rfl⟩) (by assumption) ?_
                        (try simp only [Act.put, List.getElem_toArray, List.getElem_cons_succ, List.getElem_cons_zero, List.setIfInBounds_toArray, List.set_cons_zero, List.set_cons_succ])
                        refine wpAnyH_take (i := 14) (v := undef) rfl (by kernel_rfl) (by kernel_rfl) (by kernel_rfl) (fun _ _ _ h => h) (Or.inr ⟨by rfl, rfl⟩) (by assumption) ?_
                        (try simp only [Act.put, List.getElem_toArray, List.getElem_cons_succ, List.getElem_cons_zero, List.setIfInBounds_toArray, List.set_cons_zero, List.set_cons_succ])
                        refine wpAnyH_take (i := 15) (v := undef) rfl (by kernel_rfl) (by kernel_rfl) (by kernel_rfl) (fun _ _ _ h => h) (Or.inr ⟨by rfl, rfl⟩) (by assumption) ?_
                        (try simp only [Act.put, List.getElem_toArray, List.getElem_cons_succ, List.getElem_cons_zero, List.setIfInBounds_toArray, List.set_cons_zero, List.set_cons_succ])
                        refine wpAnyH_take (i := 16) (v := undef) rfl (by kernel_rfl) (by kernel_rfl) (by kernel_rfl) (fun _ _ _ h => h) (Or.inr ⟨by rfl, rfl⟩) (by assumption) ?_
                        (try simp only [Act.put, List.getElem_toArray, List.getElem_cons_succ, List.getElem_cons_zero, List.setIfInBounds_toArray, List.set_cons_zero, List.set_cons_succ])
                        refine wpAnyH_take (i := 17) (v := undef) rfl (by kernel_rfl) (by kernel_rfl) (by kernel_rfl) (fun _ _ _ h => h) (Or.inr ⟨by rfl, rfl⟩) (by assumption) ?_
                        (try simp only [Act.put, List.getElem_toArray, List.getElem_cons_succ, List.getElem_cons_zero, List.setIfInBounds_toArray, List.set_cons_zero, List.set_cons_succ])
                        refine wpAnyH_take (i := 18) (v := undef) rfl (by kernel_rfl) (by kernel_rfl) (by kernel_rfl) (fun _ _ _ h => h) (Or.inr ⟨by rfl, rfl⟩) (by assumption) ?_
                        (try simp only [Act.put, List.getElem_toArray, List.getElem_cons_succ, List.getElem_cons_zero, List.setIfInBounds_toArray, List.set_cons_zero, List.set_cons_succ])
                        refine wpAnyH_take (i := 19) (v := undef) rfl (by kernel_rfl) (by kernel_rfl) (by kernel_rfl) (fun _ _ _ h => h) (Or.inr ⟨by rfl, rfl⟩) (by assumption) ?_
                        (try simp only [Act.put, List.getElem_toArray, List.getElem_cons_succ, List.getElem_cons_zero, List.setIfInBounds_toArray, List.set_cons_zero, List.set_cons_succ])
                        refine wpAnyH_take (i := 20) (v := undef) rfl (by kernel_rfl) (by kernel_rfl) (by kernel_rfl) (fun _ _ _ h => h) (Or.inr ⟨by rfl, rfl⟩) (by assumption) ?_
                        (try simp only [Act.put, List.getElem_toArray, List.getElem_cons_succ, List.getElem_cons_zero, List.setIfInBounds_toArray, List.set_cons_zero, List.set_cons_succ])
                        refine wpAnyH_take (i := 21) (v := undef) rfl (by kernel_rfl) (by kernel_rfl) (by kernel_rfl) (fun _ _ _ h => h) (Or.inr ⟨by rfl, rfl⟩) (by assumption) ?_
                        (try simp only [Act.put, List.getElem_toArray, List.getElem_cons_succ, List.getElem_cons_zero, List.setIfInBounds_toArray, List.set_cons_zero, List.set_cons_succ])
                        refine wpAnyH_take (i := 22) (v := undef) rfl (by kernel_rfl) (by kernel_rfl) (by kernel_rfl) (fun _ _ _ h => h) (Or.inr ⟨by rfl, rfl⟩) (by assumption) ?_
                        (try simp only [Act.put, List.getElem_toArray, List.getElem_cons_succ, List.getElem_cons_zero, List.setIfInBounds_toArray, List.set_cons_zero, List.set_cons_succ])
                        refine wpAnyH_take (i := 23) (v := undef) rfl (by kernel_rfl) (by kernel_rfl) (by kernel_rfl) (fun _ _ _ h => h) (Or.inr ⟨by rfl, rfl⟩) (by assumption) ?_
                        (try simp only [Act.put, List.getElem_toArray, List.getElem_cons_succ, List.getElem_cons_zero, List.setIfInBounds_toArray, List.set_cons_zero, List.set_cons_succ])
                        refine wpAnyH_take (i := 24) (v := undef) rfl (by kernel_rfl) (by kernel_rfl) (by kernel_rfl) (fun _ _ _ h => h) (Or.inr ⟨by rfl, rfl⟩) (by assumption) ?_
                        (try simp only [Act.put, List.getElem_toArray, List.getElem_cons_succ, List.getElem_cons_zero, List.setIfInBounds_toArray, List.set_cons_zero, List.set_cons_succ])
                        refine wpAnyH_take (i := 25) (v := undef) rfl (by kernel_rfl) (by kernel_rfl) (by kernel_rfl) (fun _ _ _ h => h) (Or.inr ⟨by rfl, rfl⟩) (by assumption) ?_
                        (try simp only [Act.put, List.getElem_toArray, List.getElem_cons_succ, List.getElem_cons_zero, List.setIfInBounds_toArray, List.set_cons_zero, List.set_cons_succ])
                        refine wpAnyH_take (i := 26) (v := ?_) rfl (by kernel_rfl) (by kernel_rfl) (by kernel_rfl) (fun _ _ _ h => h) (Or.inl ⟨by rfl, ?_⟩) (by assumption) ?_
                        rotate_left
                        · (intro w hSw; (try dsimp only at hSw); go_simp; (try with_reducible rfl))
                        (try simp only [Act.put, List.getElem_toArray, List.getElem_cons_succ, List.getElem_cons_zero, List.setIfInBounds_toArray, List.set_cons_zero, List.set_cons_succ])
                        refine wpAnyH_take (i := 27) (v := ?_) rfl (by kernel_rfl) (by kernel_rfl) (by kernel_rfl) (fun _ _ _ h => h) (Or.inl ⟨by rfl, ?_⟩) (by assumption) ?_
                        rotate_left
                        · (intro w hSw; (try dsimp only at hSw); go_simp; (try with_reducible rfl))
                        (try simp only [Act.put, List.getElem_toArray, List.getElem_cons_succ, List.getElem_cons_zero, List.setIfInBounds_toArray, List.set_cons_zero, List.set_cons_succ])
                        refine wpAnyH_done (by kernel_rfl) ?_ _
                        refine NoPanic.normal ?_
                        have HB8 := Lib.hid (HK.out.trans (hHeld.2.mono HK.out.size))
                        clear hHeld g0 g1
                        go_wp2_with fail
                        go_roundw
                        case rel => exact ⟨k + 1, by omega, by rw [HF.out], by go_num, HB8⟩
                        case measure => simp [intOf]; omega
                      | true =>
                        cases hsb : subN X A with
                        | false =>
                          rw [hsb] at hne HS
                          have HF : Hid (true = (u && (ag.take (k + 1)).all (aB X r))) := Lib.hid (by rw [HS.out]; rfl)
                          clear HS hsb
                          go_upto_region 21 with fail
                          refine wp_region_noPanic ?_
                          refine wp_region_held_drew (S := (fun w' => (w'.cell? (xa.add k) = some (.int .i64 (A : Int)) ∧ w'.cell? (xp.add i) = some (.int .i64 (X : Int))) ∧ Below w7.heap.size w7 w')) (by kernel_rfl) ?_ (fun hHeld => ?_)
                          · ((try dsimp only); exact ⟨⟨g0, g1⟩, (Below.refl _ _).drew⟩)
                          refine wpAnyH_take (i := 0) (v := ?_) rfl (by kernel_rfl) (by kernel_rfl) (by kernel_rfl) (fun _ _ _ h => h) (Or.inl ⟨by rfl, ?_⟩) (by assumption) ?_
                          rotate_left
                          · (intro w hSw; (try dsimp only at hSw); go_simp; (try with_reducible rfl))
                          (try simp only [Act.put, List.getElem_toArray, List.getElem_cons_zero, List.setIfInBounds_toArray, List.set_cons_zero, List.set_cons_succ])
                          refine wpAnyH_take (i := 1) (v := ?_) rfl (by kernel_rfl) (by kernel_rfl) (by kernel_rfl) (fun _ _ _ h => h) (Or.inl ⟨by rfl, ?_⟩) (by assumption) ?_
                          rotate_left
                          · (intro w hSw; (try dsimp only at hSw); go_simp; (try with_reducible rfl))
                          (try simp only [Act.put, List.getElem_toArray, List.getElem_cons_succ, List.getElem_cons_zero, List.setIfInBounds_toArray, List.set_cons_zero, List.set_cons_succ])
                          refine wpAnyH_take (i := 2) (v := ?_) rfl (by kernel_rfl) (by kernel_rfl) (by kernel_rfl) (fun _ _ _ h => h) (Or.inl ⟨by rfl, ?_⟩) (by assumption) ?_
                          rotate_left
                          · (intro w hSw; (try dsimp only at hSw); go_simp; (try with_reducible rfl))
                          (try simp only [Act.put, List.getElem_toArray, List.getElem_cons_succ, List.getElem_cons_zero, List.setIfInBounds_toArray, List.set_cons_zero, List.set_cons_succ])
                          refine wpAnyH_take (i := 3) (v := ?_) rfl (by kernel_rfl) (by kernel_rfl) (by kernel_rfl) (fun _ _ _ h => h) (Or.inl ⟨by rfl, ?_⟩) (by assumption) ?_
                          rotate_left
                          · (intro w hSw; (try dsimp only at hSw); go_simp; (try with_reducible rfl))
                          (try simp only [Act.put, List.getElem_toArray, List.getElem_cons_succ, List.getElem_cons_zero, List.setIfInBounds_toArray, List.set_cons_zero, List.set_cons_succ])
                          refine wpAnyH_take (i := 4) (v := ?_) rfl (by kernel_rfl) (by kernel_rfl) (by kernel_rfl) (fun _ _ _ h => h) (Or.inl ⟨by rfl, ?_⟩) (by assumption) ?_
                          rotate_left
                          · (intro w hSw; (try dsimp only at hSw); go_simp; (try with_reducible rfl))
                          (try simp only [Act.put, List.getElem_toArray, List.getElem_cons_succ, List.getElem_cons_zero, List.setIfInBounds_toArray, List.set_cons_zero, List.set_cons_succ])
                          refine wpAnyH_take (i := 5) (v := ?_) rfl (by kernel_rfl) (by kernel_rfl) (by kernel_rfl) (fun _ _ _ h => h) (Or.inl ⟨by rfl, ?_⟩) (by assumption) ?_
                          rotate_left
                          · (intro w hSw; (try dsimp only at hSw); go_simp; (try with_reducible rfl))
                          (try simp only [Act.put, List.getElem_toArray, List.getElem_cons_succ, List.getElem_cons_zero, List.setIfInBounds_toArray, List.set_cons_zero, List.set_cons_succ])
                          refine wpAnyH_take (i := 6) (v := ?_) rfl (by kernel_rfl) (by kernel_rfl) (by kernel_rfl) (fun _ _ _ h => h) (Or.inl ⟨by rfl, ?_⟩) (by assumption) ?_
                          rotate_left
                          · (intro w hSw; (try dsimp only at hSw); go_simp; (try with_reducible rfl))
                          (try simp only [Act.put, List.getElem_toArray, List.getElem_cons_succ, List.getElem_cons_zero, List.setIfInBounds_toArray, List.set_cons_zero, List.set_cons_succ])
                          refine wpAnyH_take (i := 7) (v := ?_) rfl (by kernel_rfl) (by kernel_rfl) (by kernel_rfl) (fun _ _ _ h => h) (Or.inl ⟨by rfl, ?_⟩) (by assumption) ?_
                          rotate_left
                          · (intro w hSw; (try dsimp only at hSw); go_simp; (try with_reducible rfl))
                          (try simp only [Act.put, List.getElem_toArray, List.getElem_cons_succ, List.getElem_cons_zero, List.setIfInBounds_toArray, List.set_cons_zero, List.set_cons_succ])
                          refine wpAnyH_take (i := 8) (v := ?_) rfl (by kernel_rfl) (by kernel_rfl) (by kernel_rfl) (fun _ _ _ h => h) (Or.inl ⟨by rfl, ?_⟩) (by assumption) ?_
                          rotate_left
                          · (intro w hSw; (try dsimp only at hSw); go_simp; (try with_reducible rfl))
                          (try simp only [Act.put, List.getElem_toArray, List.getElem_cons_succ, List.getElem_cons_zero, List.setIfInBounds_toArray, List.set_cons_zero, List.set_cons_succ])
                          refine wpAnyH_take (i := 9) (v := ?_) rfl (by kernel_rfl) (by kernel_rfl) (by kernel_rfl) (fun _ _ _ h => h) (Or.inl ⟨by rfl, ?_⟩) (by assumption) ?_
                          rotate_left
                          · (intro w hSw; (try dsimp only at hSw); go_simp; (try with_reducible rfl))
                          (try simp only [Act.put, List.getElem_toArray, List.getElem_cons_succ, List.getElem_cons_zero, List.setIfInBounds_toArray, List.set_cons_zero, List.set_cons_succ])
                          refine wpAnyH_take (i := 10) (v := ?_) rfl (by kernel_rfl) (by kernel_rfl) (by kernel_rfl) (fun _ _ _ h => h) (Or.inl ⟨by rfl, ?_⟩) (by assumption) ?_
                          rotate_left
                          · (intro w hSw; (try dsimp only at hSw); go_simp; (try with_reducible rfl))
                          (try simp only [Act.put, List.getElem_toArray, List.getElem_cons_succ, List.getElem_cons_zero, List.setIfInBounds_toArray, List.set_cons_zero, List.set_cons_succ])
                          refine wpAnyH_take (i := 11) (v := ?_) rfl (by kernel_rfl) (by kernel_rfl) (by kernel_rfl) (fun _ _ _ h => h) (Or.inl ⟨by rfl, ?_⟩) (by assumption) ?_
                          rotate_left
                          · (intro w hSw; (try dsimp only at hSw); go_simp; (try with_reducible rfl))
                          (try simp only [Act.put, List.getElem_toArray, List.getElem_cons_succ, List.getElem_cons_zero, List.setIfInBounds_toArray, List.set_cons_zero, List.set_cons_succ])
                          refine wpAnyH_take (i := 12) (v := ?_) rfl (by kernel_rfl) (by kernel_rfl) (by kernel_rfl) (fun _ _ _ h => h) (Or.inl ⟨by rfl, ?_⟩) (by assumption) ?_
                          rotate_left
                          · (intro w hSw; (try dsimp only at hSw); go_simp; (try with_reducible rfl))
                          (try simp only [Act.put, List.getElem_toArray, List.getElem_cons_succ, List.getElem_cons_zero, List.setIfInBounds_toArray, List.set_cons_zero, List.set_cons_succ])
                          refine wpAnyH_take (i := 13) (v := ?_) rfl (by kernel_rfl) (by kernel_rfl) (by kernel_rfl) (fun _ _ _ h => h) (Or.inl ⟨by rfl, ?_⟩) (by assumption) ?_
                          rotate_left
                          · (intro w hSw; (try dsimp only at hSw); go_simp; (try with_reducible rfl))
                          (try simp only [Act.put, List.getElem_toArray, List.getElem_cons_succ, List.getElem_cons_zero, List.setIfInBounds_toArray, List.set_cons_zero, List.set_cons_succ])
                          refine wpAnyH_take (i := 14) (v := ?_) rfl (by kernel_rfl) (by kernel_rfl) (by kernel_rfl) (fun _ _ _ h => h) (Or.inl ⟨by rfl, ?_⟩) (by assumption) ?_
                          rotate_left
                          · (intro w hSw; (try dsimp only at hSw); go_simp; (try with_reducible rfl))
                          (try simp only [Act.put, List.getElem_toArray, List.getElem_cons_succ, List.getElem_cons_zero, List.setIfInBounds_toArray, List.set_cons_zero, List.set_cons_succ])
                          refine wpAnyH_take (i := 15) (v := ?_) rfl (by kernel_rfl) (by kernel_rfl) (by kernel_rfl) (fun _ _ _ h => h) (Or.inl ⟨by rfl, ?_⟩) (by assumption) ?_
                          rotate_left
                          · (intro w hSw; (try dsimp only at hSw); go_simp; (try with_reducible rfl))
                          (try simp only [Act.put, List.getElem_toArray, List.getElem_cons_succ, List.getElem_cons_zero, List.setIfInBounds_toArray, List.set_cons_zero, List.set_cons_succ])
                          refine wpAnyH_take (i := 16) (v := ?_) rfl (by kernel_rfl) (by kernel_rfl) (by kernel_rfl) (fun _ _ _ h => h) (Or.inl ⟨by rfl, ?_⟩) (by assumption) ?_
                          rotate_left
                          · (intro w hSw; (try dsimp only at hSw); go_simp; (try with_reducible rfl))
                          (try simp only [Act.put, List.getElem_toArray, List.getElem_cons_succ, List.getElem_cons_zero, List.setIfInBounds_toArray, List.set_cons_zero, List.set_cons_succ])
                          refine wpAnyH_take (i := 17) (v := undef) rfl (by kernel_rfl) (by kernel_rfl) (by kernel_rfl) (fun _ _ _ h => h) (Or.inr ⟨by rfl, rfl⟩) (by assumption) ?_
                          (try simp only [Act.put, List.getElem_toArray, List.getElem_cons_succ, List.getElem_cons_zero, List.setIfInBounds_toArray, List.set_cons_zero, List.set_cons_succ])
                          refine wpAnyH_take (i := 18) (v := undef) rfl (by kernel_rfl) (by kernel_rfl) (by kernel_rfl) (fun _ _ _ h => h) (Or.inr ⟨by rfl, rfl⟩) (by assumption) ?_
                          (try simp only [Act.put, List.getElem_toArray, List.getElem_cons_succ, List.getElem_cons_zero, List.setIfInBounds_toArray, List.set_cons_zero, List.set_cons_succ])
                          refine wpAnyH_take (i := 19) (v := undef) rfl (by kernel_rfl) (by kernel_rfl) (by kernel_rfl) (fun _ _ _ h => h) (Or.inr ⟨by rfl, rfl⟩) (by assumption) ?_
                          (try simp only [Act.put, List.getElem_toArray, List.getElem_cons_succ, List.getElem_cons_zero, List.setIfInBounds_toArray, List.set_cons_zero, List.set_cons_succ])
                          refine wpAnyH_take (i := 20) (v := undef) rfl (by kernel_rfl) (by kernel_rfl) (by kernel_rfl) (fun _ _ _ h => h) (Or.inr ⟨by rfl, rfl⟩) (by assumption) ?_
                          (try simp only [Act.put, List.getElem_toArray, List.getElem_cons_succ, List.getElem_cons_zero, List.setIfInBounds_toArray, List.set_cons_zero, List.set_cons_succ])
                          refine wpAnyH_take (i := 21) (v := undef) rfl (by kernel_rfl) (by kernel_rfl) (by kernel_rfl) (fun _ _ _ h => h) (Or.inr ⟨by rfl, rfl⟩) (by assumption) ?_
                          (try simp only [Act.put, List.getElem_toArray, List.getElem_cons_succ, List.getElem_cons_zero, List.setIfInBounds_toArray, List.set_cons_zero, List.set_cons_succ])
                          refine wpAnyH_take (i := 22) (v := undef) rfl (by kernel_rfl) (by kernel_rfl) (by kernel_rfl) (fun _ _ _ h => h) (Or.inr ⟨by rfl, rfl⟩) (by assumption) ?_
                          (try simp only [Act.put, List.getElem_toArray, List.getElem_cons_succ, List.getElem_cons_zero, List.setIfInBounds_toArray, List.set_cons_zero, List.set_cons_succ])
                          refine wpAnyH_take (i := 23) (v := undef) rfl (by kernel_rfl) (by kernel_rfl) (by kernel_rfl) (fun _ _ _ h => h) (Or.inr ⟨by rfl, rfl⟩) (by assumption) ?_
                          (try simp only [Act.put, List.getElem_toArray, List.getElem_cons_succ, List.getElem_cons_zero, List.setIfInBounds_toArray, List.set_cons_zero, List.set_cons_succ])
                          refine wpAnyH_take (i := 24) (v := undef) rfl (by kernel_rfl) (by kernel_rfl) (by kernel_rfl) (fun _ _ _ h => h) (Or.inr ⟨by rfl, rfl⟩) (by assumption) ?_
                          (try simp only [Act.put, List.getElem_toArray, List.getElem_cons_succ, List.getElem_cons_zero, List.setIfInBounds_toArray, List.set_cons_zero, List.set_cons_succ])
                          refine wpAnyH_take (i := 25) (v := ?_) rfl (by kernel_rfl) (by kernel_rfl) (by kernel_rfl) (fun _ _ _ h => h) (Or.inl ⟨by rfl, ?_⟩) (by assumption) ?_
                          rotate_left
                          · (intro w hSw; (try dsimp only at hSw); go_simp; (try with_reducible rfl))
                          (try simp only [Act.put, List.getElem_toArray, List.getElem_cons_succ, List.getElem_cons_zero, List.setIfInBounds_toArray, List.set_cons_zero, List.set_cons_succ])
                          refine wpAnyH_take (i := 26) (v := ?_) rfl (by kernel_rfl) (by kernel_rfl) (by kernel_rfl) (fun _ _ _ h => h) (Or.inl ⟨by rfl, ?_⟩) (by assumption) ?_
                          rotate_left
                          · (intro w hSw; (try dsimp only at hSw); go_simp; (try with_reducible rfl))
                          (try simp only [Act.put, List.getElem_toArray, List.getElem_cons_succ, List.getElem_cons_zero, List.setIfInBounds_toArray, List.set_cons_zero, List.set_cons_succ])
                          refine wpAnyH_take (i := 27) (v := ?_) rfl (by kernel_rfl) (by kernel_rfl) (by kernel_rfl) (fun _ _ _ h => h) (Or.inl ⟨by rfl, ?_⟩) (by assumption) ?_
                          rotate_left
                          · (intro w hSw; (try dsimp only at hSw); go_simp; (try with_reducible rfl))
                          (try simp only [Act.put, List.getElem_toArray, List.getElem_cons_succ, List.getElem_cons_zero, List.setIfInBounds_toArray, List.set_cons_zero, List.set_cons_succ])
                          refine wpAnyH_done (by kernel_rfl) ?_ _
                          refine NoPanic.normal ?_
                          have HB8 := Lib.hid (HK.out.trans (hHeld.2.mono HK.out.size))
                          clear hHeld g0 g1
                          go_wp2_with fail
                          go_roundw
                          case rel => exact ⟨k + 1, by omega, by rw [HF.out], by go_num, HB8⟩
                          case measure => simp [intOf]; omega
                        | true =>
                          rw [hsb] at hne HS
                          obtain ⟨t, ht⟩ : ∃ t, t = bitB A r := ⟨_, rfl⟩
                          rw [← ht] at hbt HS
                          have HF : Hid (t = (u && (ag.take (k + 1)).all (aB X r))) := Lib.hid (by rw [HS.out]; simp)
                          clear HS hsb ht
                          go_upto_region 21 with fail
                          refine wp_region_noPanic ?_
                          refine wp_region_held_drew (S := (fun w' => (w'.cell? (xa.add k) = some (.int .i64 (A : Int)) ∧ w'.cell? (xp.add i) = some (.int .i64 (X : Int))) ∧ Below w7.heap.size w7 w')) (by kernel_rfl) ?_ (fun hHeld => ?_)
                          · ((try dsimp only); exact ⟨⟨g0, g1⟩, (Below.refl _ _).drew⟩)
                          refine wpAnyH_take (i := 0) (v := ?_) rfl (by kernel_rfl) (by kernel_rfl) (by kernel_rfl) (fun _ _ _ h => h) (Or.inl ⟨by rfl, ?_⟩) (by assumption) ?_
                          rotate_left
                          · (intro w hSw; (try dsimp only at hSw); go_simp; (try with_reducible rfl))
                          (try simp only [Act.put, List.getElem_toArray, List.getElem_cons_zero, List.setIfInBounds_toArray, List.set_cons_zero, List.set_cons_succ])
                          refine wpAnyH_take (i := 1) (v := ?_) rfl (by kernel_rfl) (by kernel_rfl) (by kernel_rfl) (fun _ _ _ h => h) (Or.inl ⟨by rfl, ?_⟩) (by assumption) ?_
                          rotate_left
                          · (intro w hSw; (try dsimp only at hSw); go_simp; (try with_reducible rfl))
                          (try simp only [Act.put, List.getElem_toArray, List.getElem_cons_succ, List.getElem_cons_zero, List.setIfInBounds_toArray, List.set_cons_zero, List.set_cons_succ])
                          refine wpAnyH_take (i := 2) (v := ?_) rfl (by kernel_rfl) (by kernel_rfl) (by kernel_rfl) (fun _ _ _ h => h) (Or.inl ⟨by rfl, ?_⟩) (by assumption) ?_
                          rotate_left
                          · (intro w hSw; (try dsimp only at hSw); go_simp; (try with_reducible rfl))
                          (try simp only [Act.put, List.getElem_toArray, List.getElem_cons_succ, List.getElem_cons_zero, List.setIfInBounds_toArray, List.set_cons_zero, List.set_cons_succ])
                          refine wpAnyH_take (i := 3) (v := ?_) rfl (by kernel_rfl) (by kernel_rfl) (by kernel_rfl) (fun _ _ _ h => h) (Or.inl ⟨by rfl, ?_⟩) (by assumption) ?_
                          rotate_left
                          · (intro w hSw; (try dsimp only at hSw); go_simp; (try with_reducible rfl))
                          (try simp only [Act.put, List.getElem_toArray, List.getElem_cons_succ, List.getElem_cons_zero, List.setIfInBounds_toArray, List.set_cons_zero, List.set_cons_succ])
                          refine wpAnyH_take (i := 4) (v := ?_) rfl (by kernel_rfl) (by kernel_rfl) (by kernel_rfl) (fun _ _ _ h => h) (Or.inl ⟨by rfl, ?_⟩) (by assumption) ?_
                          rotate_left
                          · (intro w hSw; (try dsimp only at hSw); go_simp; (try with_reducible rfl))
                          (try simp only [Act.put, List.getElem_toArray, List.getElem_cons_succ, List.getElem_cons_zero, List.setIfInBounds_toArray, List.set_cons_zero, List.set_cons_succ])
                          refine wpAnyH_take (i := 5) (v := ?_) rfl (by kernel_rfl) (by kernel_rfl) (by kernel_rfl) (fun _ _ _ h => h) (Or.inl ⟨by rfl, ?_⟩) (by assumption) ?_
                          rotate_left
                          · (intro w hSw; (try dsimp only at hSw); go_simp; (try with_reducible rfl))
                          (try simp only [Act.put, List.getElem_toArray, List.getElem_cons_succ, List.getElem_cons_zero, List.setIfInBounds_toArray, List.set_cons_zero, List.set_cons_succ])
                          refine wpAnyH_take (i := 6) (v := ?_) rfl (by kernel_rfl) (by kernel_rfl) (by kernel_rfl) (fun _ _ _ h => h) (Or.inl ⟨by rfl, ?_⟩) (by assumption) ?_
                          rotate_left
                          · (intro w hSw; (try dsimp only at hSw); go_simp; (try with_reducible rfl))
                          (try simp only [Act.put, List.getElem_toArray, List.getElem_cons_succ, List.getElem_cons_zero, List.setIfInBounds_toArray, List.set_cons_zero, List.set_cons_succ])
                          refine wpAnyH_take (i := 7) (v := ?_) rfl (by kernel_rfl) (by kernel_rfl) (by kernel_rfl) (fun _ _ _ h => h) (Or.inl ⟨by rfl, ?_⟩) (by assumption) ?_
                          rotate_left
                          · (intro w hSw; (try dsimp only at hSw); go_simp; (try with_reducible rfl))
                          (try simp only [Act.put, List.getElem_toArray, List.getElem_cons_succ, List.getElem_cons_zero, List.setIfInBounds_toArray, List.set_cons_zero, List.set_cons_succ])
                          refine wpAnyH_take (i := 8) (v := ?_) rfl (by kernel_rfl) (by kernel_rfl) (by kernel_rfl) (fun _ _ _ h => h) (Or.inl ⟨by rfl, ?_⟩) (by assumption) ?_
                          rotate_left
                          · (intro w hSw; (try dsimp only at hSw); go_simp; (try with_reducible rfl))
                          (try simp only [Act.put, List.getElem_toArray, List.getElem_cons_succ, List.getElem_cons_zero, List.setIfInBounds_toArray, List.set_cons_zero, List.set_cons_succ])
                          refine wpAnyH_take (i := 9) (v := ?_) rfl (by kernel_rfl) (by kernel_rfl) (by kernel_rfl) (fun _ _ _ h => h) (Or.inl ⟨by rfl, ?_⟩) (by assumption) ?_
                          rotate_left
                          · (intro w hSw; (try dsimp only at hSw); go_simp; (try with_reducible rfl))
                          (try simp only [Act.put, List.getElem_toArray, List.getElem_cons_succ, List.getElem_cons_zero, List.setIfInBounds_toArray, List.set_cons_zero, List.set_cons_succ])
                          refine wpAnyH_take (i := 10) (v := ?_) rfl (by kernel_rfl) (by kernel_rfl) (by kernel_rfl) (fun _ _ _ h => h) (Or.inl ⟨by rfl, ?_⟩) (by assumption) ?_
                          rotate_left
                          · (intro w hSw; (try dsimp only at hSw); go_simp; (try with_reducible rfl))
                          (try simp only [Act.put, List.getElem_toArray, List.getElem_cons_succ, List.getElem_cons_zero, List.setIfInBounds_toArray, List.set_cons_zero, List.set_cons_succ])
                          refine wpAnyH_take (i := 11) (v := ?_) rfl (by kernel_rfl) (by kernel_rfl) (by kernel_rfl) (fun _ _ _ h => h) (Or.inl ⟨by rfl, ?_⟩) (by assumption) ?_
                          rotate_left
                          · (intro w hSw; (try dsimp only at hSw); go_simp; (try with_reducible rfl))
                          (try simp only [Act.put, List.getElem_toArray, List.getElem_cons_succ, List.getElem_cons_zero, List.setIfInBounds_toArray, List.set_cons_zero, List.set_cons_succ])
                          refine wpAnyH_take (i := 12) (v := ?_) rfl (by kernel_rfl) (by kernel_rfl) (by kernel_rfl) (fun _ _ _ h => h) (Or.inl ⟨by rfl, ?_⟩) (by assumption) ?_
                          rotate_left
                          · (intro w hSw; (try dsimp only at hSw); go_simp; (try with_reducible rfl))
                          (try simp only [Act.put, List.getElem_toArray, List.getElem_cons_succ, List.getElem_cons_zero, List.setIfInBounds_toArray, List.set_cons_zero, List.set_cons_succ])
                          refine wpAnyH_take (i := 13) (v := ?_) rfl (by kernel_rfl) (by kernel_rfl) (by kernel_rfl) (fun _ _ _ h => h) (Or.inl ⟨by rfl, ?_⟩) (by assumption) ?_
                          rotate_left
                          · (intro w hSw; (try dsimp only at hSw); go_simp; (try with_reducible rfl))
                          (try simp only [Act.put, List.getElem_toArray, List.getElem_cons_succ, List.getElem_cons_zero, List.setIfInBounds_toArray, List.set_cons_zero, List.set_cons_succ])
                          refine wpAnyH_take (i := 14) (v := ?_) rfl (by kernel_rfl) (by kernel_rfl) (by kernel_rfl) (fun _ _ _ h => h) (Or.inl ⟨by rfl, ?_⟩) (by assumption) ?_
                          rotate_left
                          · (intro w hSw; (try dsimp only at hSw); go_simp; (try with_reducible rfl))
                          (try simp only [Act.put, List.getElem_toArray, List.getElem_cons_succ, List.getElem_cons_zero, List.setIfInBounds_toArray, List.set_cons_zero, List.set_cons_succ])
                          refine wpAnyH_take (i := 15) (v := ?_) rfl (by kernel_rfl) (by kernel_rfl) (by kernel_rfl) (fun _ _ _ h => h) (Or.inl ⟨by rfl, ?_⟩) (by assumption) ?_
                          rotate_left
                          · (intro w hSw; (try dsimp only at hSw); go_simp; (try with_reducible rfl))
                          (try simp only [Act.put, List.getElem_toArray, List.getElem_cons_succ, List.getElem_cons_zero, List.setIfInBounds_toArray, List.set_cons_zero, List.set_cons_succ])
                          refine wpAnyH_take (i := 16) (v := ?_) rfl (by kernel_rfl) (by kernel_rfl) (by kernel_rfl) (fun _ _ _ h => h) (Or.inl ⟨by rfl, ?_⟩) (by assumption) ?_
                          rotate_left
                          · (intro w hSw; (try dsimp only at hSw); go_simp; (try with_reducible rfl))
                          (try simp only [Act.put, List.getElem_toArray, List.getElem_cons_succ, List.getElem_cons_zero, List.setIfInBounds_toArray, List.set_cons_zero, List.set_cons_succ])
                          refine wpAnyH_take (i := 17) (v := ?_) rfl (by kernel_rfl) (by kernel_rfl) (by kernel_rfl) (fun _ _ _ h => h) (Or.inl ⟨by rfl, ?_⟩) (by assumption) ?_
                          rotate_left
                          · (intro w hSw; (try dsimp only at hSw); go_simp; (try with_reducible rfl))
                          (try simp only [Act.put, List.getElem_toArray, List.getElem_cons_succ, List.getElem_cons_zero, List.setIfInBounds_toArray, List.set_cons_zero, List.set_cons_succ])
                          refine wpAnyH_take (i := 18) (v := ?_) rfl (by kernel_rfl) (by kernel_rfl) (by kernel_rfl) (fun _ _ _ h => h) (Or.inl ⟨by rfl, ?_⟩) (by assumption) ?_
                          rotate_left
                          · (intro w hSw; (try dsimp only at hSw); go_simp; (try with_reducible rfl))
                          (try simp only [Act.put, List.getElem_toArray, List.getElem_cons_succ, List.getElem_cons_zero, List.setIfInBounds_toArray, List.set_cons_zero, List.set_cons_succ])
                          refine wpAnyH_take (i := 19) (v := ?_) rfl (by kernel_rfl) (by kernel_rfl) (by kernel_rfl) (fun _ _ _ h => h) (Or.inl ⟨by rfl, ?_⟩) (by assumption) ?_
                          rotate_left
                          · (intro w hSw; (try dsimp only at hSw); go_simp; (try with_reducible rfl))
                          (try simp only [Act.put, List.getElem_toArray, List.getElem_cons_succ, List.getElem_cons_zero, List.setIfInBounds_toArray, List.set_cons_zero, List.set_cons_succ])
                          refine wpAnyH_take (i := 20) (v := ?_) rfl (by kernel_rfl) (by kernel_rfl) (by kernel_rfl) (fun _ _ _ h => h) (Or.inl ⟨by rfl, ?_⟩) (by assumption) ?_
                          rotate_left
                          · (intro w hSw; (try dsimp only at hSw); go_simp; (try with_reducible rfl))
                          (try simp only [Act.put, List.getElem_toArray, List.getElem_cons_succ, List.getElem_cons_zero, List.setIfInBounds_toArray, List.set_cons_zero, List.set_cons_succ])
                          refine wpAnyH_take (i := 21) (v := ?_) rfl (by kernel_rfl) (by kernel_rfl) (by kernel_rfl) (fun _ _ _ h => h) (Or.inl ⟨by rfl, ?_⟩) (by assumption) ?_
                          rotate_left
                          · (intro w hSw; (try dsimp only at hSw); go_simp; (try with_reducible rfl))
                          (try simp only [Act.put, List.getElem_toArray, List.getElem_cons_succ, List.getElem_cons_zero, List.setIfInBounds_toArray, List.set_cons_zero, List.set_cons_succ])
                          refine wpAnyH_take (i := 22) (v := ?_) rfl (by kernel_rfl) (by kernel_rfl) (by kernel_rfl) (fun _ _ _ h => h) (Or.inl ⟨by rfl, ?_⟩) (by assumption) ?_
                          rotate_left
                          · (intro w hSw; (try dsimp only at hSw); go_simp; (try with_reducible rfl))
                          (try simp only [Act.put, List.getElem_toArray, List.getElem_cons_succ, List.getElem_cons_zero, List.setIfInBounds_toArray, List.set_cons_zero, List.set_cons_succ])
                          refine wpAnyH_take (i := 23) (v := ?_) rfl (by kernel_rfl) (by kernel_rfl) (by kernel_rfl) (fun _ _ _ h => h) (Or.inl ⟨by rfl, ?_⟩) (by assumption) ?_
                          rotate_left
                          · (intro w hSw; (try dsimp only at hSw); go_simp; (try with_reducible rfl))
                          (try simp only [Act.put, List.getElem_toArray, List.getElem_cons_succ, List.getElem_cons_zero, List.setIfInBounds_toArray, List.set_cons_zero, List.set_cons_succ])
                          refine wpAnyH_take (i := 24) (v := ?_) rfl (by kernel_rfl) (by kernel_rfl) (by kernel_rfl) (fun _ _ _ h => h) (Or.inl ⟨by rfl, ?_⟩) (by assumption) ?_
                          rotate_left
                          · (intro w hSw; (try dsimp only at hSw); go_simp; (try with_reducible rfl))
                          (try simp only [Act.put, List.getElem_toArray, List.getElem_cons_succ, List.getElem_cons_zero, List.setIfInBounds_toArray, List.set_cons_zero, List.set_cons_succ])
                          refine wpAnyH_take (i := 25) (v := ?_) rfl (by kernel_rfl) (by kernel_rfl) (by kernel_rfl) (fun _ _ _ h => h) (Or.inl ⟨by rfl, ?_⟩) (by assumption) ?_
                          rotate_left
                          · (intro w hSw; (try dsimp only at hSw); go_simp; (try with_reducible rfl))
                          (try simp only [Act.put, List.getElem_toArray, List.getElem_cons_succ, List.getElem_cons_zero, List.setIfInBounds_toArray, List.set_cons_zero, List.set_cons_succ])
                          refine wpAnyH_take (i := 26) (v := ?_) rfl (by kernel_rfl) (by kernel_rfl) (by kernel_rfl) (fun _ _ _ h => h) (Or.inl ⟨by rfl, ?_⟩) (by assumption) ?_
                          rotate_left
                          · (intro w hSw; (try dsimp only at hSw); go_simp; (try with_reducible rfl))
                          (try simp only [Act.put, List.getElem_toArray, List.getElem_cons_succ, List.getElem_cons_zero, List.setIfInBounds_toArray, List.set_cons_zero, List.set_cons_succ])
                          refine wpAnyH_take (i := 27) (v := ?_) rfl (by kernel_rfl) (by kernel_rfl) (by kernel_rfl) (fun _ _ _ h => h) (Or.inl ⟨by rfl, ?_⟩) (by assumption) ?_
                          rotate_left
                          · (intro w hSw; (try dsimp only at hSw); go_simp; (try with_reducible rfl))
                          (try simp only [Act.put, List.getElem_toArray, List.getElem_cons_succ, List.getElem_cons_zero, List.setIfInBounds_toArray, List.set_cons_zero, List.set_cons_succ])
                          refine wpAnyH_done (by kernel_rfl) ?_ _
                          refine NoPanic.normal ?_
                          have HB8 := Lib.hid (HK.out.trans (hHeld.2.mono HK.out.size))
                          clear hHeld g0 g1
                          go_wp2_with fail
                          go_roundw
                          case rel => exact ⟨k + 1, by omega, by rw [HF.out], by go_num, HB8⟩
                          case measure => simp [intOf]; omega
                    · obtain rfl : k = ag.length := by omega
                      have x1 : ¬ ((ag.length : Int) < (ag.length : Int)) := by omega
                      have HO7 := Lib.hid (HO6.out.below HK.out (fun k hk => (HO6.out.lt k hk).2))
                      have HP7 := Lib.hid (OwnI.kept HP6.out HK.out (fun k hk => (OwnI.lt HP6.out k hk).2))
                      have HB7 := Lib.hid (HB6.out.trans (HK.out.mono HB6.out.size))
                      have HX7 := Lib.hid (HX6.out.keep HK.out)
                      have HT : Hid ((u && (ag.take ag.length).all (aB X r)) = (dasG ag X r && !cvd q ((X : Int), (r : Int)))) := Lib.hid (by
                        rw [HAF.out, HU.out, List.take_length]
                        cases bitB X r <;> cases cvd q ((X : Int), (r : Int)) <;> simp)
                      obtain ⟨t, ht⟩ : ∃ t, t = (u && (ag.take ag.length).all (aB X r)) := ⟨_, rfl⟩
                      rw [← ht] at HT ⊢
                      clear ht
                      have d0 := HX7.out.c0
                      have d1 := HX7.out.c1
                      cases t with
                      | false =>
                        have HS' : Hid (q = accIn (dasG ag) r ps q0 (i + 1)) := Lib.hid (by rw [HS2.out, ← HT.out]; rfl)
                        go_wp2_with fail
                        go_roundw
                        case rel => exact ⟨i + 1, q, by omega, by go_num, HS', HO7, HP7, HB7⟩
                        case measure => simp [intOf]; omega
                      | true =>
                        have HS' : Hid (q ++ [((X : Int), (r : Int))] = accIn (dasG ag) r ps q0 (i + 1)) := Lib.hid (by rw [HS2.out, ← HT.out]; rfl)
                        have ho7 := HO7.out
                        unfold OwnD at ho7
                        have hpa : OwnI (w7.alloc (.cells #[.int .i64 (X : Int), .int .i64 (r : Int)] 35)) w.heap.size (.slice (some xp) ps.length cp) ps := World.ownsRow.alloc HP7.out _
                        have HPA7 := Lib.hid hpa
                        have HAP := Lib.hid (fun g hg => dep_apart (World.ownsRow.alloc ho7 (.cells #[.int .i64 (X : Int), .int .i64 (r : Int)] 35)) hpa g hg)
                        clear hpa
                        go_wp2_with (at_builtin; refine wpList_append_own _ rfl _ _ 24 rfl w.heap.size 35 i0 (.agg #[.int .i64 0, .int .i64 0]) 2 16 Tryz.underlying24 HI.out.1 HI.out.2.1 HI.out.2.2.1 HI.out.2.2.2 rfl (by decide) _ _ _ rfl (World.ownsRow.alloc ho7 _) ⟨w7.heap.size, 0, none⟩ 1 1 [.int .i64 (X : Int), .int .i64 (r : Int)] rfl rfl (cell_two_new _ _ _ _) (two_i64 _ _) (by unfold maxLen; omega) (by omega) (by have := HB7.out.size; rw [World.size_alloc]; omega) ?_; intro v8 w8 hown8 hgrow8 _; have HO8 := Lib.hid (OwnD.snoc hown8); have HB8 := Lib.hid ((HB7.out.alloc HB7.out.size (.cells #[.int .i64 (X : Int), .int .i64 (r : Int)] 35)).grown hgrow8 (by rw [World.size_alloc]; have := HB7.out.size; omega) (fun k hk => (OwnD.lt HO7.out k hk).1)); have HP8 := Lib.hid (HPA7.out.keptBy hgrow8 HAP.out); clear hown8 hgrow8 ho7)
                        go_roundw
                        case rel => exact ⟨i + 1, _, by omega, by go_num, HS', HO8, HP8, HB8⟩
                        case measure => simp [intOf]; omega
              · obtain rfl : i = ps.length := by omega
                have y1 : ¬ (((ps.length : Nat) : Int) < ((ps.length : Nat) : Int)) := by omega
                have HQ' : Hid (q = accOut (dasG ag) ps (r + 1)) := Lib.hid (by rw [HQ.out]; exact HSS.out)
                go_wp2_with fail
                go_roundw
                case rel => exact ⟨r + 1, q, by omega, by go_num, HQ', HO, HP, HB⟩
                case measure => simp [intOf]; omega
          · obtain rfl : r = C := by omega
            have z1 : ¬ ((r : Int) < (r : Int)) := by omega
            go_wp2_with fail
            go_ret
            exact ⟨_, rfl, by rw [← HEE.out, ← HQ.out]; exact HO.out, HB.out⟩
  · rw [decide_eq_false hn] at HIN
    have HE : Hid (dasL n ag = []) := Lib.hid (by unfold dasL dasOk; rw [decide_eq_false hn]; rfl)
    clear hn
    go_enter Tryz.func19, Tryz.ntmps19
    go_wp2_with fail
    refine (HIN.out _).mono ?_
    rintro e w' ⟨rfl, rfl⟩
    go_wp2_with fail
    go_ret
    exact ⟨_, rfl, by rw [HE.out]; exact HO1.out, HB1.out⟩
end
end Go.Proofs.YtnbjcelfdppkcadGreat
