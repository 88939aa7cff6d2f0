/- The program's areTogether and IsFiner, by contract. Conditions: as stated. -/
import Derived.Test.YtkaalgbcdcbgoaaPgB
namespace Go.Proofs.Ytkaalgbcdcbgoaa
open Go.RowKit

theorem tog_no1 {q : List (List Int)} {f y : Int} (h : fcl q y = none) : inQ q f y = false := by
  unfold fcl at h; unfold inQ
  split at h
  · exact decide_eq_false (by omega)
  · cases h
theorem tog_no2 {q : List (List Int)} {f y c : Int} (h : fcl q y = some c) (hne : ¬ c = (fcl q f).getD 0) : inQ q f y = false := by
  unfold fcl at *; unfold inQ
  split at h
  · cases h
  · cases h
    refine decide_eq_false (fun ⟨h1, h2⟩ => hne ?_)
    rw [if_neg (by omega)]; exact h2
theorem tog_yes {q : List (List Int)} {f y c : Int} (h : fcl q y = some c) (he : c = (fcl q f).getD 0) (hf : y = f ∨ 0 ≤ clsI q f) : inQ q f y = true ∧ 0 ≤ clsI q f := by
  unfold fcl at *; unfold inQ
  split at h
  · cases h
  · cases h
    have h0 : 0 ≤ clsI q f := by
      rcases hf with rfl | h
      · omega
      · exact h
    rw [if_neg (by omega)] at he
    exact ⟨decide_eq_true ⟨by omega, he⟩, h0⟩
theorem fcl_get (q : List (List Int)) (x : Int) : ∃ d : Int, d = (fcl q x).getD 0 := ⟨_, rfl⟩

set_option maxHeartbeats 1600000 in
theorem areTogether_any (v : Value) (r : List Int) (b n : Nat) (q : List (List Int)) (w : World) (hr : ReadI w v r) (hl : r.length ≤ 1048576) (hm : MapI w b n (fcl q)) (hwf : ∀ x ∈ r, (Lit.int .i64 x).wf = true) (f : Int) (hf : f = r.getD 0 0) :
    Calls Try.prog 49 #[v, .map (some b)] w fun e w' => e = .returned (.bool (r.all (inQ q f))) ∧ w = w' := by
  obtain ⟨a, cap, rfl, ha⟩ := hr
  have HA := Lib.hid ha
  clear ha
  have HW := Lib.hid hwf
  clear hwf
  have HFE := Lib.hid hf
  clear hf
  have HMM := Lib.hid hm
  clear hm
  go_enter Try.func49, Try.ntmps49
  go_wp2_with fail
  go_loop [11] (fun iv => ∃ k : Nat, k ≤ r.length ∧ iv = .int .i64 (k : Int) ∧ Hid ((r.take k).all (inQ q f) = true) ∧ Hid (0 < k → 0 ≤ clsI q f)) (fun iv => r.length - (intOf iv).toNat)
  case atStart => exact ⟨0, by omega, rfl, Lib.hid rfl, Lib.hid (fun h => absurd h (Nat.lt_irrefl _))⟩
  case round =>
    obtain ⟨k, hk, rfl, hall, h0k⟩ := hrel
    by_cases hlt : k < r.length
    · obtain ⟨xr, rfl, hxk⟩ := HA.out k hlt
      obtain ⟨xr', hx0', hx0⟩ := HA.out 0 (by omega)
      obtain rfl := Option.some.inj hx0'
      clear hx0'
      rw [Addr.add_zero'] at hx0
      rw [get_getD r 0 (by omega), ← HFE.out] at hx0
      have HO2 := Lib.hid (fun h => all_snoc (p := inQ q f) hlt hall.out h)
      have HN2 := Lib.hid (fun h => all_not (p := inQ q f) hlt h)
      have HEQ : Hid (k = 0 → r[k] = f) := Lib.hid (fun h => by subst h; rw [get_getD r 0 hlt, HFE.out])
      have hyw := HW.out r[k] (List.getElem_mem _)
      have hfw := HW.out f (by rw [HFE.out, ← get_getD r 0 (by omega)]; exact List.getElem_mem _)
      obtain ⟨y, hy⟩ : ∃ y, y = r[k] := ⟨_, rfl⟩
      rw [← hy] at hxk hyw HO2 HN2 HEQ
      clear hy
      have hrun := mapI_run HMM.out f hfw
      obtain ⟨d, hd⟩ := fcl_get q f
      rw [← hd] at hrun
      have z0 : (0 : Int) ≤ (k : Int) := by omega
      have z1 : (k : Int) < (r.length : Int) := by omega
      have z4 : (0 : Int) < (r.length : Int) := by omega
      have z5 : 0 < r.length := by omega
      cases hc : fcl q y with
      | none =>
        have HX := Lib.hid (HN2.out (tog_no1 hc))
        have HC := Lib.hid hc
        clear hc hd
        go_wp2_with (at_lookup; refine mapI_look_none _ rfl _ _ rfl _ _ _ rfl HMM.out _ rfl hyw HC.out ?_)
        go_ret
        exact ⟨ret_b HX.out, rfl⟩
      | some c =>
        have HC := Lib.hid hc
        clear hc
        by_cases hcd : c = d
        · have hY := tog_yes HC.out (hcd.trans hd) (by
            rcases Nat.eq_zero_or_pos k with h | h
            · exact .inl (HEQ.out h)
            · exact .inr (h0k.out h))
          have HX := Lib.hid (HO2.out hY.1)
          have HZ := Lib.hid (fun (_ : 0 < k + 1) => hY.2)
          have hcd2 : (c != d) = false := by simpa using hcd
          clear hY hcd hd
          go_wp2_with (at_lookup; refine mapI_look_some _ rfl _ _ rfl _ _ _ rfl HMM.out _ _ rfl hyw HC.out ?_)
          go_round
          case rel => exact ⟨k + 1, by omega, by go_num, HX, HZ⟩
          case measure => simp [intOf]; omega
        · have HX := Lib.hid (HN2.out (tog_no2 HC.out (by rw [← hd]; exact hcd)))
          have hcd2 : (c != d) = true := by simpa using hcd
          clear hcd hd
          go_wp2_with (at_lookup; refine mapI_look_some _ rfl _ _ rfl _ _ _ rfl HMM.out _ _ rfl hyw HC.out ?_)
          go_ret
          exact ⟨ret_b HX.out, rfl⟩
    · obtain rfl : k = r.length := by omega
      have HX : Hid (r.all (inQ q f) = true) := Lib.hid (by have := hall.out; rwa [List.take_length] at this)
      go_wp2_with fail
      go_ret
      exact ⟨ret_b HX.out, rfl⟩
set_option maxHeartbeats 1600000 in
theorem implIsFiner_any (v v' : Value) (p q : List (List Int)) (w : World) (hr : ReadSS w v p) (hq : ReadSS w v' q) (hl : p.length ≤ 1048576) (ht : tot p ≤ 1048576) (hp : I64ss p) (hl' : q.length ≤ 1048576) (ht' : tot q ≤ 1048576) (hq' : I64ss q) :
    Calls Try.prog 26 #[v, v'] w fun e w' => e = .returned (.bool (finB p q)) ∧ Below w.heap.size w w' := by
  have HFC := Lib.hid (firstClasses_any v' q w hq hl' ht' hq')
  obtain ⟨a, cap, rfl, ha⟩ := hr
  obtain ⟨a', cap', rfl, -⟩ := hq
  have HA := Lib.hid ha
  have HTT := Lib.hid (fun i (hi : i < p.length) => tot_get hi)
  have HWF := Lib.hid (fun i (hi : i < p.length) x (hx : x ∈ p.getD i []) => I64ss.wf hp hi hx)
  clear ha hp hq'
  by_cases hq0 : q.length = 0
  · have hqz : ((q.length : Int) == 0) = true := by rw [hq0]; rfl
    have HE : Hid (((p.length : Int) == 0) = finB p q) := Lib.hid (by
      have hqe := List.eq_nil_of_length_eq_zero hq0
      subst hqe
      cases p with
      | nil => rfl
      | cons r t =>
        have : finB (r :: t) [] = false := rfl
        rw [this, beq_eq_false_iff_ne]
        simp only [List.length_cons]; omega)
    clear hq0
    go_enter Try.func26, Try.ntmps26
    go_wp2_with fail
    go_ret
    exact ⟨ret_b HE.out.symm, Below.refl _ _⟩
  · have hqz : ((q.length : Int) == 0) = false := by rw [beq_eq_false_iff_ne]; omega
    have HQ0 : Hid (q.isEmpty = false) := Lib.hid (by cases q; simp at hq0; rfl)
    clear hq0
    go_enter Try.func26, Try.ntmps26
    go_wp2_with fail
    refine HFC.out.mono ?_
    rintro e w1 ⟨rfl, hm, hb⟩
    have HMM := Lib.hid hm
    clear hm
    go_wp2_with fail
    go_loop [18] (fun iv => ∃ i : Nat, i ≤ p.length ∧ iv = .int .i64 (i : Int) ∧ Hid ((p.take i).all (finR q) = true)) (fun iv => p.length - (intOf iv).toNat)
    case atStart => exact ⟨0, by omega, rfl, Lib.hid rfl⟩
    case round =>
      obtain ⟨i, hi, rfl, hall⟩ := hrel
      by_cases hlt : i < p.length
      · obtain ⟨xa, u, rfl, hx, hu⟩ := HA.out i hlt
        replace hx := (hb.cell (World.block_lt_of_cell? w _ hx)).trans hx
        have hlr := HTT.out i hlt
        have HOK := Lib.hid (fun h => all_snoc (p := finR q) hlt hall.out h)
        have HNO := Lib.hid (fun h => all_not (p := finR q) hlt h)
        have hg : p[i] = p.getD i [] := by rw [List.getD_eq_getElem?_getD, List.getElem?_eq_getElem hlt]; rfl
        rw [hg] at HOK HNO
        have hw := HWF.out i hlt
        obtain ⟨r, hrr⟩ : ∃ r, r = p.getD i [] := ⟨_, rfl⟩
        rw [← hrr] at HOK HNO hu hlr hw
        have HTG := Lib.hid (areTogether_any u r w.heap.size 1048576 q w1 (hu.kept hb) (by omega) HMM.out hw _ rfl)
        have HFR : Hid (finR q r = r.all (inQ q (r.getD 0 0))) := Lib.hid (by unfold finR; rw [HQ0.out]; rfl)
        clear hg hrr hw
        obtain ⟨ar, cr, rfl, -⟩ := hu
        have z0 : (0 : Int) ≤ (i : Int) := by omega
        have z1 : (i : Int) < (p.length : Int) := by omega
        cases hro : r.all (inQ q (r.getD 0 0)) with
        | true =>
          rw [hro] at HTG HFR
          have HX := Lib.hid (HOK.out HFR.out)
          clear hro
          go_wp2_with fail
          refine HTG.out.mono ?_
          rintro e w' ⟨rfl, rfl⟩
          go_wp2_with fail
          go_round
          case rel => exact ⟨i + 1, by omega, by go_num, HX⟩
          case measure => simp [intOf]; omega
        | false =>
          rw [hro] at HTG HFR
          have HX := Lib.hid (HNO.out HFR.out)
          clear hro
          go_wp2_with fail
          refine HTG.out.mono ?_
          rintro e w' ⟨rfl, rfl⟩
          go_wp2_with fail
          go_ret
          exact ⟨ret_b (by unfold finB; rw [HX.out]), hb⟩
      · obtain rfl : i = p.length := by omega
        have HX : Hid (p.all (finR q) = true) := Lib.hid (by have := hall.out; rwa [List.take_length] at this)
        go_wp2_with fail
        go_ret
        exact ⟨ret_b (by unfold finB; rw [HX.out]), hb⟩
theorem isFiner_any3 (v v' : Value) (p q : List (List Int)) (w : World) (hr : ReadSS w v p) (hr' : ReadSS w v' q) (hl : p.length ≤ 1048576) (ht : tot p ≤ 1048576) (_hp : I64ss p) (hl' : q.length ≤ 1048576) (ht' : tot q ≤ 1048576) (_hq : I64ss q) :
    Calls Try.prog 25 #[v, v'] w fun e w' => e = .returned (.bool (finB p q)) ∧ Below w.heap.size w w' := isFiner_any2 v v' p q w hr hr' hl ht hl' ht'
end Go.Proofs.Ytkaalgbcdcbgoaa
