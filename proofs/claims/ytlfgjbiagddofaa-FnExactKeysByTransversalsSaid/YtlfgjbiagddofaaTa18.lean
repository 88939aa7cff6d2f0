/- Texts of this claim, merged: TpT, FltI, CvA. Conditions: as stated. -/
import Derived.Test.YtlfgjbiagddofaaTpHm
import Derived.Test.YtlfgjbiagddofaaTa10
import Derived.Maps.AppendAt
import Derived.Test.YtlfgjbiagddofaaTa11
import Derived.Test.YtlfgjbiagddofaaTa13
import Derived.Test.YtlfgjbiagddofaaTa15
import Derived.Deep.Quiet
import Derived.Deep.RegionLaw
namespace Go.Proofs.Ytlfgjbiagddofaa
open Go.RowKit

theorem minS_val {l : List Int} {z : Int} (h : z ∈ minS l) : valB z = true := by
  rw [← minS_eq] at h
  unfold unsS at h
  split at h
  · obtain ⟨j, hj, -, rfl⟩ := (lstF_mem _ _).1 h
    exact val_nat hj
  · cases h
theorem grwL_val {l : List Int} {e z : Int} (h : z ∈ grwL l e) : valB z = true := by
  unfold grwL at h
  split at h
  · exact minS_val h
  · cases h
theorem trTo_val (E : List Int) : ∀ i, ∀ z ∈ trTo E i, valB z = true
  | 0, z, h => by
    have h : z ∈ [(0 : Int)] := h
    rw [List.mem_singleton.1 h]
    decide
  | _ + 1, _, h => grwL_val h
theorem trL_val {E : List Int} {n z : Int} (h : z ∈ trL E n) : valB z = true := by
  unfold trL at h
  split at h
  · exact trTo_val E _ z h
  · cases h
section
set_option maxRecDepth 20000
set_option maxHeartbeats 3200000
theorem implTrans_any (v : Value) (E : List Int) (n : Int) (w : World) (hr : ReadI w v E) (hl : E.length ≤ 1048576) (hbd : I64s E) :
    Calls Try.prog 13 #[v, .int .i64 n] w (RetI (trL E n) w) := by
  have HIN := Lib.hid (fun w' => colCount_any n w')
  have HIA := Lib.hid (fun x h0 h1 w' => implIsA_any n x h0 h1 w')
  have HG := Lib.hid (fun (v : Value) (l : List Int) (e : Int) w' (h : ReadI w' v l) (hl : l.length ≤ 1048576) (hb : I64s l) h0 h1 => implGrow_any v l e w' h hl hb h0 h1)
  have HBD := Lib.hid hbd
  obtain ⟨a, cap, rfl, ha⟩ := hr
  have HA := Lib.hid ha
  clear ha hbd
  have ho0 : OwnI (w.alloc (.cells #[.int .i64 0] 3)) w.heap.size (.slice (some ⟨w.heap.size, 0, none⟩) 1 1) [0] := World.ownsRow_lit w #[.int .i64 0] 1 (Nat.le_refl _) (by unfold maxLen; omega) rfl
  have hb0 : Below w.heap.size w (w.alloc (.cells #[.int .i64 0] 3)) := (Below.refl _ _).alloc (Nat.le_refl _) _
  have HO0 := Lib.hid ho0
  have HB0 := Lib.hid hb0
  clear ho0 hb0
  by_cases hn : 0 ≤ n ∧ n ≤ 5
  · rw [decide_eq_true hn] at HIN
    by_cases h100 : E.length ≤ 100
    · have hgt : ¬ ((100 : Int) < (E.length : Int)) := by omega
      have HE : Hid (E.all (isA n) = true → trL E n = trTo E E.length) := Lib.hid (fun h => by unfold trL; rw [h, decide_eq_true (show (0 ≤ n ∧ n ≤ 5) ∧ E.length ≤ 100 from ⟨hn, h100⟩)]; rfl)
      have HF : Hid (E.all (isA n) = false → trL E n = []) := Lib.hid (fun h => by unfold trL; rw [h, Bool.and_false]; rfl)
      clear hn
      go_enter Try.func13, Try.ntmps13
      go_wp2_with fail
      refine (HIN.out _).mono ?_
      rintro e' w' ⟨rfl, rfl⟩
      go_wp2_with fail
      go_loopw [5, 19] (fun ov iv wr => ∃ (i : Nat) (q : List Int), i ≤ E.length ∧ iv = .int .i64 (i : Int) ∧ Hid (q = trTo E i ∧ (E.take i).all (isA n) = true) ∧ Hid (OwnI wr w.heap.size ov q) ∧ Hid (Below w.heap.size w wr)) (fun _ iv _ => E.length - (intOf iv).toNat)
      case atStart => exact ⟨0, [0], by omega, rfl, Lib.hid ⟨rfl, rfl⟩, HO0, HB0⟩
      case round =>
        clear HO0 HB0
        obtain ⟨i, q, hi, rfl, hq, HO, HB⟩ := hrel
        obtain ⟨w3, hw3⟩ : ∃ w', w' = wr := ⟨_, rfl⟩
        rw [← hw3] at HO HB ⊢
        clear hw3
        have z0 : (0 : Int) ≤ (i : Int) := by omega
        have hql : q.length ≤ 1048576 := by rw [hq.out.1]; have := trTo_len E i; omega
        have HQI : Hid (I64s q) := Lib.hid (by rw [hq.out.1]; exact setsOk_i64 (trTo_val E i))
        by_cases hlt : i < E.length
        · obtain ⟨b, rfl, hb⟩ := HA.out i hlt
          have z1 : (i : Int) < (E.length : Int) := by omega
          have HOK := Lib.hid (fun h => all_snoc (p := isA n) hlt hq.out.2 h)
          have HNO := Lib.hid (fun h => all_not (p := isA n) hlt h)
          have HS : Hid (trTo E (i + 1) = grwL q E[i]) := Lib.hid (by rw [hq.out.1, get_getD E i hlt]; rfl)
          have HY := Lib.hid (HBD.out _ (List.getElem_mem hlt))
          obtain ⟨y, hy⟩ : ∃ y, y = E[i] := ⟨_, rfl⟩
          rw [← hy] at hb HOK HNO HS HY
          have HQ := Lib.hid (HIA.out y HY.out.1 HY.out.2)
          have hb3 := (HB.out.cell (World.block_lt_of_cell? _ _ hb)).trans hb
          clear hy hq hb
          cases hv : isA n y with
          | true =>
            rw [hv] at HQ
            have HX := Lib.hid (HOK.out hv)
            clear hv
            go_wp2_with fail
            refine (HQ.out _).mono ?_
            rintro e' w4 ⟨rfl, b4⟩
            have HO4 := Lib.hid (HO.out.kept b4 (fun k hk => (OwnI.lt HO.out k hk).2))
            have HB4 := Lib.hid (HB.out.trans (b4.mono HB.out.size))
            clear b4
            go_wp2_with fail
            refine (HG.out _ q y _ HO4.out.read hql HQI.out HY.out.1 HY.out.2).mono ?_
            rintro e' w5 ⟨v5, rfl, o5, b5⟩
            have HB5 := Lib.hid (HB4.out.trans (b5.mono HB4.out.size))
            have HO5 := Lib.hid (o5.base HB4.out.size)
            clear o5 b5 hb3
            go_wp2_with fail
            go_roundw
            case rel => exact ⟨i + 1, _, by omega, by go_num, Lib.hid ⟨HS.out.symm, HX.out⟩, HO5, HB5⟩
            case measure => simp [intOf]; omega
          | false =>
            rw [hv] at HQ
            have HX := Lib.hid (HF.out (HNO.out hv))
            clear hv
            go_wp2_with fail
            refine (HQ.out _).mono ?_
            rintro e' w4 ⟨rfl, b4⟩
            have HB4 := Lib.hid (HB.out.trans (b4.mono HB.out.size))
            clear b4
            go_wp2_with fail
            go_ret
            exact ⟨_, rfl, by rw [HX.out]; exact World.ownsRow_nil _ _ _ _, HB4.out⟩
        · obtain rfl : i = E.length := by omega
          have HX : Hid (trL E n = q) := Lib.hid (by rw [HE.out (by have := hq.out.2; rwa [List.take_length] at this), hq.out.1])
          clear hq
          go_wp2_with fail
          go_ret
          exact ⟨_, rfl, by rw [HX.out]; exact HO.out, HB.out⟩
    · have hgt : (100 : Int) < (E.length : Int) := by omega
      have HF : Hid (trL E n = []) := Lib.hid (by unfold trL; rw [decide_eq_false (fun h => h100 h.2), Bool.false_and]; rfl)
      clear hn HO0 HB0
      go_enter Try.func13, Try.ntmps13
      go_wp2_with fail
      refine (HIN.out _).mono ?_
      rintro e' w' ⟨rfl, rfl⟩
      go_wp2_with fail
      go_ret
      exact ⟨_, rfl, by rw [HF.out]; exact World.ownsRow_nil _ _ _ _, Below.refl _ _⟩
  · have HF : Hid (trL E n = []) := Lib.hid (by unfold trL; rw [decide_eq_false (fun h => hn h.1), Bool.false_and]; rfl)
    rw [decide_eq_false hn] at HIN
    clear hn HO0 HB0
    go_enter Try.func13, Try.ntmps13
    go_wp2_with fail
    refine (HIN.out _).mono ?_
    rintro e' w' ⟨rfl, rfl⟩
    go_wp2_with fail
    go_ret
    exact ⟨_, rfl, by rw [HF.out]; exact World.ownsRow_nil _ _ _ _, Below.refl _ _⟩
end
end Go.Proofs.Ytlfgjbiagddofaa
namespace Go.Proofs.Ytlfgjbiagddofaa
open Go.RowKit

end Go.Proofs.Ytlfgjbiagddofaa
namespace Go.Proofs.Ytlfgjbiagddofaa
open Go.RowKit

set_option maxHeartbeats 1600000 in
theorem inMode_any (c m : Int) (v : Value) (ll : List (List Int)) (w : World) (hr : ReadSS w v ll) (hl : ll.length ≤ 1048576) (ht : ∀ i, i < ll.length → (ll.getD i []).length ≤ 1048576) :
    Calls Try.prog 49 #[.agg #[.int .i64 c, v], .int .i64 m] w fun e w' => e = .returned (.bool (fineT c ll m)) ∧ Below w.heap.size w w' := by
  have HO := Lib.hid (eqOf_any m)
  have hb1 := (Below.refl w.heap.size w).alloc (Nat.le_refl _) (.cells #[.int .i64 c, v] 34)
  have HV := Lib.hid (fun w' (hb : Below w.heap.size w w') => implIsTable_any c v ll w' (hr.kept hb) hl ht)
  have HB1 := Lib.hid hb1
  obtain ⟨c0, c1⟩ := zero2 w 34 (.int .i64 c) v
  obtain ⟨a, cap, rfl, -⟩ := hr
  obtain ⟨F, hF⟩ : ∃ F, eqFn m = F := ⟨_, rfl⟩
  rw [hF] at HO
  clear hb1 hF
  cases hm : modeOk m with
  | false =>
    have HE : Hid (fineT c ll m = false) := Lib.hid (by unfold fineT; rw [hm]; simp)
    rw [hm] at HO
    clear hm
    go_enter Try.func49, Try.ntmps49
    go_wp2_with fail
    refine (HO.out _).mono ?_
    rintro e w' ⟨rfl, rfl⟩
    go_wp2_with fail
    go_ret
    exact ⟨ret_b HE.out, HB1.out⟩
  | true =>
    have HE : Hid (fineT c ll m = isT c ll) := Lib.hid (by unfold fineT; rw [hm]; simp)
    rw [hm] at HO
    clear hm
    go_enter Try.func49, Try.ntmps49
    go_wp2_with fail
    refine (HO.out _).mono ?_
    rintro e w' ⟨rfl, rfl⟩
    go_wp2_with fail
    refine (HV.out _ HB1.out).mono ?_
    rintro e w2 ⟨rfl, b2⟩
    have hb2 := HB1.out.trans (b2.mono HB1.out.size)
    go_wp2_with fail
    go_ret
    exact ⟨ret_b HE.out, hb2⟩
theorem pw_next (ps : List Int) (r k : Nat) (h : k < ps.length) : (ps.take (k + 1)).map (fun S => (S, (r : Int))) = (ps.take k).map (fun S => (S, (r : Int))) ++ [(ps.getD k 0, (r : Int))] := by
  rw [take_succ_getD ps 0 k h, List.map_append]; rfl
theorem cand_len (C r : Nat) (hC : C ≤ 5) (hr : r ≤ C) : (mdOut (fun S r => !bitB S.toNat r) (parts (C : Int)) r).length ≤ 160 := by
  have h1 := mdOut_len (fun S r => !bitB S.toNat r) (parts (C : Int)) r
  have h2 := parts_len32 hC
  have h3 : r * (parts (C : Int)).length ≤ 5 * 32 := Nat.mul_le_mul (by omega) h2
  omega
end Go.Proofs.Ytlfgjbiagddofaa
