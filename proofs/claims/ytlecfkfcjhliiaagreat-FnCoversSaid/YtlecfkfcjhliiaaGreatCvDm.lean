/- The program's IsMinimalDep, ViolatedBorder, by contract. Conditions: as stated. -/
import Derived.Test.YtlecfkfcjhliiaaGreatWc40
import Derived.Test.YtlecfkfcjhliiaaGreatWc17
import Derived.Test.YtlecfkfcjhliiaaGreatWc14
namespace Go.Proofs.YtlecfkfcjhliiaaGreat
open Go.RowKit

theorem mems_bits : ∀ L : Fin 32, ∀ y ∈ mems ((L.val : Nat) : Int), 0 ≤ y ∧ y < 5 ∧ bitB L.val y.toNat = true := by decide +kernel
theorem bits_mems : ∀ (L : Fin 32) (j : Fin 5), bitB L.val j.val = true → ((j.val : Nat) : Int) ∈ mems ((L.val : Nat) : Int) := by decide +kernel
theorem minN_mems {C : Nat} (hC : C ≤ 5) (ll : List (List Int)) (m : Int) {L R : Nat} (hL : L < 2 ^ C) : minN C ll m L R = (!bitB L R && h7 C ll m L R && (mems (L : Int)).all (fun y => !h7 C ll m (L - 2 ^ y.toNat) R)) := by
  have h32 := two5 hC
  have h : (List.range C).all (fun i => !(bitB L i && h7 C ll m (L - 2 ^ i) R)) = (mems (L : Int)).all (fun y => !h7 C ll m (L - 2 ^ y.toNat) R) := by
    rw [Bool.eq_iff_iff, List.all_eq_true, List.all_eq_true]
    constructor
    · intro h y hy
      obtain ⟨y0, y5, yb⟩ := mems_bits ⟨L, by omega⟩ y hy
      have hyC := bit_lt ⟨C, by omega⟩ ⟨L, by omega⟩ ⟨y.toNat, by omega⟩ hL yb
      have := h y.toNat (List.mem_range.2 hyC)
      simp only at yb
      rw [yb, Bool.true_and] at this
      exact this
    · intro h i hi
      have hiC := List.mem_range.1 hi
      cases hb : bitB L i with
      | false => rfl
      | true =>
        have := h (i : Int) (bits_mems ⟨L, by omega⟩ ⟨i, by omega⟩ hb)
        rw [Bool.true_and]
        exact this
  unfold minN
  rw [h]
theorem wf_small (X : Nat) (h : X < 32) : (Lit.int .i64 (X : Int)).wf = true := by
  have k1 : ∀ X : Fin 32, (Lit.int .i64 ((X.val : Nat) : Int)).wf = true := by decide +kernel
  exact k1 ⟨X, h⟩
section
set_option maxRecDepth 20000
set_option maxHeartbeats 3200000
theorem implIsMinimalDep_any (c m l r : Int) (v : Value) (ll : List (List Int)) (_w1 : (Lit.int .i64 m).wf = true) (_w2 : (Lit.int .i64 l).wf = true) (_w3 : (Lit.int .i64 r).wf = true) (w : World) (hr : ReadSS w v ll) (hl : ll.length ≤ 1048576) (ht : ∀ i, i < ll.length → (ll.getD i []).length ≤ 1048576) :
    Calls Tryz.prog 12 #[.agg #[.int .i64 c, v], .int .i64 m, .agg #[.int .i64 l, .int .i64 r]] w fun e w' => e = .returned (.bool (imB c ll m l r)) ∧ Below w.heap.size w w' := by
  have HH := Lib.hid (fun (x : Int) (hx : (Lit.int .i64 x).wf = true) w' (hb : Below w.heap.size w w') => implHoldsDep_any c m x r v ll _w1 hx _w3 w' (hr.kept hb) hl ht)
  obtain ⟨a, cap, rfl, -⟩ := hr
  have hb1 := (Below.refl w.heap.size w).alloc (Nat.le_refl _) (.cells #[.int .i64 c, .slice a ll.length cap] 26)
  have hb2 := hb1.alloc hb1.size (.cells #[.int .i64 l, .int .i64 r] 37)
  have HB2 := Lib.hid hb2
  have HTD := Lib.hid (TDc.mk' w 26 37 c (.slice a ll.length cap) l r)
  obtain ⟨⟨c0, c1⟩, d0, d1⟩ := HTD.out
  have H0 := Lib.hid (HH.out l _w2)
  clear hb1 hb2 ht
  cases hh : holdsD c ll m l r with
  | false =>
    have HE : Hid (imB c ll m l r = false) := Lib.hid (by
      unfold imB
      cases hk : okD c ll m l r with
      | false => rfl
      | true =>
        have hk' := hk
        unfold okD at hk'
        rw [Bool.and_eq_true] at hk'
        obtain ⟨C, L, R, rfl, rfl, rfl, hC1, hC5, hLC, hL, hR⟩ := depB_small hk'.2
        rw [holds_h7 hk'.1 hC1 hC5 hLC hR] at hh
        show (true && minN C ll m L R) = false
        rw [minN_mems hC5 ll m hLC, hh]; simp)
    rw [hh] at H0
    clear hh
    go_enter Tryz.func12, Tryz.ntmps12
    go_wp2_with fail
    refine (H0.out _ HB2.out).mono ?_
    rintro e w3 ⟨rfl, b3⟩
    have hb3 := HB2.out.trans (b3.mono HB2.out.size)
    go_wp2_with fail
    go_ret
    exact ⟨ret_b HE.out, hb3⟩
  | true =>
    have hk : okD c ll m l r = true := by unfold holdsD at hh; rw [Bool.and_eq_true] at hh; exact hh.1
    have hk' := hk
    unfold okD at hk'
    rw [Bool.and_eq_true] at hk'
    obtain ⟨C, L, R, rfl, rfl, rfl, hC1, hC5, hLC, hL, hR⟩ := depB_small hk'.2
    have hE : imB (C : Int) ll m (L : Int) (R : Int) = (!bitB L R && (mems (L : Int)).all (fun y => !h7 C ll m (L - 2 ^ y.toNat) R)) := by
      unfold imB
      rw [hk, Bool.true_and]
      show minN C ll m L R = _
      rw [minN_mems hC5 ll m hLC, ← holds_h7 hk'.1 hC1 hC5 hLC hR, hh, Bool.and_true]
    have HBT := Lib.hid (fun w' => has_any L R (by omega) w')
    have HME := Lib.hid (fun w' => members_any L hL w')
    rw [hh] at H0
    have HDR := Lib.hid (fun (Y : Nat) w' (hb : Below w.heap.size w w') => show Calls Tryz.prog 14 #[.agg #[.int .i64 (C : Int), .slice a ll.length cap], .int .i64 m, .agg #[.int .i64 ((L - 2 ^ Y : Nat) : Int), .int .i64 (R : Int)]] w' fun e w'' => e = .returned (.bool (h7 C ll m (L - 2 ^ Y) R)) ∧ Below w'.heap.size w' w'' from by
      have h := HH.out ((L - 2 ^ Y : Nat) : Int) (wf_small _ (Nat.lt_of_le_of_lt (Nat.sub_le _ _) hL)) w' hb
      rw [holds_h7 hk'.1 hC1 hC5 (Nat.lt_of_le_of_lt (Nat.sub_le _ _) hLC) hR] at h
      exact h)
    have HMB := Lib.hid (fun y hy => mems_bits ⟨L, hL⟩ y hy)
    have hml := mems_len (L : Int)
    simp only at HMB
    obtain ⟨ms, hms⟩ : ∃ ms, ms = mems (L : Int) := ⟨_, rfl⟩
    rw [← hms] at hE HME HMB hml
    clear hh hk hk' hms HH
    cases hB : bitB L R with
    | true =>
      rw [hB] at hE HBT
      have HE : Hid (imB (C : Int) ll m (L : Int) (R : Int) = false) := Lib.hid (by rw [hE]; rfl)
      clear hE hB
      go_enter Tryz.func12, Tryz.ntmps12
      go_wp2_with fail
      refine (H0.out _ HB2.out).mono ?_
      rintro e w3 ⟨rfl, b3⟩
      have hb3 := HB2.out.trans (b3.mono HB2.out.size)
      have HT3 := Lib.hid (HTD.out.kept b3)
      clear b3 c0 c1 d0 d1
      obtain ⟨⟨c0, c1⟩, d0, d1⟩ := HT3.out
      go_wp2_with fail
      refine (HBT.out _).mono ?_
      rintro e w' ⟨rfl, rfl⟩
      go_wp2_with fail
      go_ret
      exact ⟨ret_b HE.out, hb3⟩
    | false =>
      rw [hB] at hE HBT
      rw [show (!false && ms.all (fun y => !h7 C ll m (L - 2 ^ y.toNat) R)) = ms.all (fun y => !h7 C ll m (L - 2 ^ y.toNat) R) from rfl] at hE
      have HE := Lib.hid hE
      clear hE hB
      go_enter Tryz.func12, Tryz.ntmps12
      go_wp2_with fail
      refine (H0.out _ HB2.out).mono ?_
      rintro e w3 ⟨rfl, b3⟩
      have hb3 := HB2.out.trans (b3.mono HB2.out.size)
      have HT3 := Lib.hid (HTD.out.kept b3)
      clear b3 c0 c1 d0 d1
      obtain ⟨⟨c0, c1⟩, d0, d1⟩ := HT3.out
      go_wp2_with fail
      refine (HBT.out _).mono ?_
      rintro e w' ⟨rfl, rfl⟩
      go_wp2_with fail
      refine (HME.out _).mono ?_
      rintro e w3b ⟨vm, rfl, om, b3⟩
      have hb4 := hb3.trans (b3.mono hb3.size)
      have HT4 := Lib.hid (HT3.out.kept b3)
      obtain ⟨am, capm, rfl, hcm⟩ := om.read
      have HCM := Lib.hid hcm
      clear b3 c0 c1 d0 d1 hb3 om hcm
      obtain ⟨⟨c0, c1⟩, d0, d1⟩ := HT4.out
      go_wp2_with fail
      go_loopw [25] (fun iv wr => ∃ k : Nat, k ≤ ms.length ∧ iv = .int .i64 (k : Int) ∧ Hid ((ms.take k).all (fun y => !h7 C ll m (L - 2 ^ y.toNat) R) = true) ∧ Hid (TDc wr w.heap.size (C : Int) (.slice a ll.length cap) (L : Int) (R : Int)) ∧ Hid (Below w3b.heap.size w3b wr)) (fun iv _ => ms.length - (intOf iv).toNat)
      case atStart => exact ⟨0, by omega, rfl, Lib.hid rfl, HT4, Lib.hid (Below.refl _ _)⟩
      case round =>
        clear c0 c1 d0 d1
        obtain ⟨k, hk, rfl, HALL, HTW, HBW⟩ := hrel
        obtain ⟨w4, hw4⟩ : ∃ w', w' = wr := ⟨_, rfl⟩
        rw [← hw4] at HTW HBW ⊢
        clear hw4
        have HB := Lib.hid (hb4.trans (HBW.out.mono hb4.size))
        obtain ⟨⟨c0, c1⟩, d0, d1⟩ := HTW.out
        by_cases hlt : k < ms.length
        · obtain ⟨x, rfl, hx⟩ := HCM.out k hlt
          replace hx := (HBW.out.cell (World.block_lt_of_cell? _ _ hx)).trans hx
          rw [get_getD ms k hlt] at hx
          obtain ⟨y0, y5, yb⟩ := HMB.out (ms.getD k 0) (by rw [← get_getD ms k hlt]; exact List.getElem_mem hlt)
          obtain ⟨Y, hY⟩ : ∃ Y : Nat, ms.getD k 0 = (Y : Int) := ⟨(ms.getD k 0).toNat, by omega⟩
          have HS := Lib.hid (take_succ_getD ms 0 k hlt)
          have HNA := Lib.hid (fun h => all_hit (p := fun y => !h7 C ll m (L - 2 ^ y.toNat) R) ms 0 k hlt h)
          rw [hY] at hx yb HS y5 HNA
          simp only [Int.toNat_natCast] at yb HNA
          have hY5 : Y < 5 := by omega
          have hD := drop_b ⟨L, hL⟩ ⟨Y, hY5⟩ yb
          simp only at hD
          have hW : IntKind.i64.wrap (2 ^ Y) = ((2 ^ Y : Nat) : Int) := wrap_pw5 ⟨Y, hY5⟩
          rw [← hW] at hD
          have HQ : Hid (∀ w', Below w.heap.size w w' → Calls Tryz.prog 14 #[.agg #[.int .i64 (C : Int), .slice a ll.length cap], .int .i64 m, .agg #[.int .i64 (bits .andNot .i64 (L : Int) (IntKind.i64.wrap (2 ^ Y))), .int .i64 (R : Int)]] w' fun e w'' => e = .returned (.bool (h7 C ll m (L - 2 ^ Y) R)) ∧ Below w'.heap.size w' w'') := Lib.hid (fun w' hb => by rw [hD]; exact HDR.out Y w' hb)
          obtain ⟨q, hq⟩ : ∃ q, q = h7 C ll m (L - 2 ^ Y) R := ⟨_, rfl⟩
          have HX : Hid (h7 C ll m (L - 2 ^ Y) R = q) := Lib.hid hq.symm
          rw [← hq] at HQ
          have HWO := Lib.hid (fun w' => without_any (L : Int) (R : Int) Y (by omega) w')
          have z0 : (0 : Int) ≤ (k : Int) := by omega
          have z1 : (k : Int) < (ms.length : Int) := by omega
          clear hq hD hW hY yb y0
          cases q with
          | true =>
            have HN := Lib.hid (HE.out.trans (HNA.out (by rw [HX.out]; rfl)))
            clear HX
            go_wp2_with fail
            refine wp_region_noPanic ?_
            refine wp_region_held_drew (S := (fun w' => ((w'.cell? ⟨w.heap.size, 0, none⟩ = some (.int .i64 (C : Int)) ∧ w'.cell? ⟨w.heap.size, 1, none⟩ = some (.slice a ll.length cap)) ∧ w'.cell? ⟨w.heap.size + 1, 0, none⟩ = some (.int .i64 (L : Int)) ∧ w'.cell? ⟨w.heap.size + 1, 1, none⟩ = some (.int .i64 (R : Int))) ∧ Below w4.heap.size w4 w')) (by kernel_rfl) ?_ (fun hHeld => ?_)
            · ((try dsimp only); (first | exact keepTc hHeld b92 | exact keepTc hHeld b91 | exact ⟨⟨⟨c0, c1⟩, d0, d1⟩, (Below.refl _ _).drew⟩))
            refine wpAnyH_take (i := 0) (v := ?_) rfl (by kernel_rfl) (by kernel_rfl) (by kernel_rfl) (fun _ _ _ h => h) (Or.inl ⟨by rfl, ?_⟩) (by assumption) ?_
            rotate_left
            · (intro w hSw; (try dsimp only at hSw); go_simp; (try with_reducible rfl))
            (try simp only [Act.put, List.getElem_toArray, List.getElem_cons_zero, List.setIfInBounds_toArray, List.set_cons_zero, List.set_cons_succ])
            refine wpAnyH_take (i := 1) (v := ?_) rfl (by kernel_rfl) (by kernel_rfl) (by kernel_rfl) (fun _ _ _ h => h) (Or.inl ⟨by rfl, ?_⟩) (by assumption) ?_
            rotate_left
            · (intro w hSw; (try dsimp only at hSw); go_simp; (try with_reducible rfl))
            (try simp only [Act.put, List.getElem_toArray, List.getElem_cons_succ, List.getElem_cons_zero, List.setIfInBounds_toArray, List.set_cons_zero, List.set_cons_succ])
            refine wpAnyH_take (i := 2) (v := ?_) rfl (by kernel_rfl) (by kernel_rfl) (by kernel_rfl) (fun _ _ _ h => h) (Or.inl ⟨by rfl, ?_⟩) (by assumption) ?_
            rotate_left
            · (intro w hSw; (try dsimp only at hSw); go_simp; (try with_reducible rfl))
            (try simp only [Act.put, List.getElem_toArray, List.getElem_cons_succ, List.getElem_cons_zero, List.setIfInBounds_toArray, List.set_cons_zero, List.set_cons_succ])
            refine wpAnyH_take (i := 3) (v := ?_) rfl (by kernel_rfl) (by kernel_rfl) (by kernel_rfl) (fun _ _ _ h => h) (Or.inl ⟨by rfl, ?_⟩) (by assumption) ?_
            rotate_left
            · (intro w hSw; (try dsimp only at hSw); go_simp; (try with_reducible rfl))
            (try simp only [Act.put, List.getElem_toArray, List.getElem_cons_succ, List.getElem_cons_zero, List.setIfInBounds_toArray, List.set_cons_zero, List.set_cons_succ])
            refine wpAnyH_ready (rs := [4]) (by kernel_rfl) (by simp) (AllReadyH.cons rfl (fun K hK => ?_) AllReadyH.nil)
            (first | ((first | (go_at_call 41; refine (HWO.out _).mono ?_; rintro e w91 ⟨rfl, b91⟩) | (go_at_call 14; refine (HQ.out _ (HB.out.trans (hHeld.2.mono HB.out.size))).mono ?_; rintro e w92 ⟨rfl, b92⟩))) | (go_simp; (first | (go_at_call 41; refine (HWO.out _).mono ?_; rintro e w91 ⟨rfl, b91⟩) | (go_at_call 14; refine (HQ.out _ (HB.out.trans (hHeld.2.mono HB.out.size))).mono ?_; rintro e w92 ⟨rfl, b92⟩))))
            (try (go_wp2_with fail))
            refine hK.out _ _ ?_ (fun hHeld => ?_)
            · ((try dsimp only); (first | exact keepTc hHeld b92 | exact keepTc hHeld b91 | exact ⟨⟨⟨c0, c1⟩, d0, d1⟩, (Below.refl _ _).drew⟩))
            clear hK K
            (try simp only [Act.put, List.getElem_toArray, List.getElem_cons_succ, List.getElem_cons_zero, List.setIfInBounds_toArray, List.set_cons_zero, List.set_cons_succ])
            refine wpAnyH_ready (rs := [5]) (by kernel_rfl) (by simp) (AllReadyH.cons rfl (fun K hK => ?_) AllReadyH.nil)
            (first | ((first | (go_at_call 41; refine (HWO.out _).mono ?_; rintro e w91 ⟨rfl, b91⟩) | (go_at_call 14; refine (HQ.out _ (HB.out.trans (hHeld.2.mono HB.out.size))).mono ?_; rintro e w92 ⟨rfl, b92⟩))) | (go_simp; (first | (go_at_call 41; refine (HWO.out _).mono ?_; rintro e w91 ⟨rfl, b91⟩) | (go_at_call 14; refine (HQ.out _ (HB.out.trans (hHeld.2.mono HB.out.size))).mono ?_; rintro e w92 ⟨rfl, b92⟩))))
            (try (go_wp2_with fail))
            refine hK.out _ _ ?_ (fun hHeld => ?_)
            · ((try dsimp only); (first | exact keepTc hHeld b92 | exact keepTc hHeld b91 | exact ⟨⟨⟨c0, c1⟩, d0, d1⟩, (Below.refl _ _).drew⟩))
            clear hK K
            (try simp only [Act.put, List.getElem_toArray, List.getElem_cons_succ, List.getElem_cons_zero, List.setIfInBounds_toArray, List.set_cons_zero, List.set_cons_succ])
            refine wpAnyH_done (by kernel_rfl) ?_ _
            refine NoPanic.normal ?_
            obtain ⟨w5, hw5⟩ : ∃ w', w' = w92 := ⟨_, rfl⟩
            rw [← hw5] at hHeld ⊢
            have b5 := hHeld.2
            clear hHeld b91 b92 hw5
            have hb5 := HB.out.trans (b5.mono HB.out.size)
            clear b5 c0 c1 d0 d1
            go_wp2_with fail
            go_ret
            exact ⟨ret_b HN.out, hb5⟩
          | false =>
            have HN : Hid ((ms.take (k + 1)).all (fun y => !h7 C ll m (L - 2 ^ y.toNat) R) = true) := Lib.hid (by rw [HS.out, List.all_append, HALL.out]; simp [HX.out])
            clear HX
            go_wp2_with fail
            refine wp_region_noPanic ?_
            refine wp_region_held_drew (S := (fun w' => ((w'.cell? ⟨w.heap.size, 0, none⟩ = some (.int .i64 (C : Int)) ∧ w'.cell? ⟨w.heap.size, 1, none⟩ = some (.slice a ll.length cap)) ∧ w'.cell? ⟨w.heap.size + 1, 0, none⟩ = some (.int .i64 (L : Int)) ∧ w'.cell? ⟨w.heap.size + 1, 1, none⟩ = some (.int .i64 (R : Int))) ∧ Below w4.heap.size w4 w')) (by kernel_rfl) ?_ (fun hHeld => ?_)
            · ((try dsimp only); (first | exact keepTc hHeld b92 | exact keepTc hHeld b91 | exact ⟨⟨⟨c0, c1⟩, d0, d1⟩, (Below.refl _ _).drew⟩))
            refine wpAnyH_take (i := 0) (v := ?_) rfl (by kernel_rfl) (by kernel_rfl) (by kernel_rfl) (fun _ _ _ h => h) (Or.inl ⟨by rfl, ?_⟩) (by assumption) ?_
            rotate_left
            · (intro w hSw; (try dsimp only at hSw); go_simp; (try with_reducible rfl))
            (try simp only [Act.put, List.getElem_toArray, List.getElem_cons_zero, List.setIfInBounds_toArray, List.set_cons_zero, List.set_cons_succ])
            refine wpAnyH_take (i := 1) (v := ?_) rfl (by kernel_rfl) (by kernel_rfl) (by kernel_rfl) (fun _ _ _ h => h) (Or.inl ⟨by rfl, ?_⟩) (by assumption) ?_
            rotate_left
            · (intro w hSw; (try dsimp only at hSw); go_simp; (try with_reducible rfl))
            (try simp only [Act.put, List.getElem_toArray, List.getElem_cons_succ, List.getElem_cons_zero, List.setIfInBounds_toArray, List.set_cons_zero, List.set_cons_succ])
            refine wpAnyH_take (i := 2) (v := ?_) rfl (by kernel_rfl) (by kernel_rfl) (by kernel_rfl) (fun _ _ _ h => h) (Or.inl ⟨by rfl, ?_⟩) (by assumption) ?_
            rotate_left
            · (intro w hSw; (try dsimp only at hSw); go_simp; (try with_reducible rfl))
            (try simp only [Act.put, List.getElem_toArray, List.getElem_cons_succ, List.getElem_cons_zero, List.setIfInBounds_toArray, List.set_cons_zero, List.set_cons_succ])
            refine wpAnyH_take (i := 3) (v := ?_) rfl (by kernel_rfl) (by kernel_rfl) (by kernel_rfl) (fun _ _ _ h => h) (Or.inl ⟨by rfl, ?_⟩) (by assumption) ?_
            rotate_left
            · (intro w hSw; (try dsimp only at hSw); go_simp; (try with_reducible rfl))
            (try simp only [Act.put, List.getElem_toArray, List.getElem_cons_succ, List.getElem_cons_zero, List.setIfInBounds_toArray, List.set_cons_zero, List.set_cons_succ])
            refine wpAnyH_ready (rs := [4]) (by kernel_rfl) (by simp) (AllReadyH.cons rfl (fun K hK => ?_) AllReadyH.nil)
            (first | ((first | (go_at_call 41; refine (HWO.out _).mono ?_; rintro e w91 ⟨rfl, b91⟩) | (go_at_call 14; refine (HQ.out _ (HB.out.trans (hHeld.2.mono HB.out.size))).mono ?_; rintro e w92 ⟨rfl, b92⟩))) | (go_simp; (first | (go_at_call 41; refine (HWO.out _).mono ?_; rintro e w91 ⟨rfl, b91⟩) | (go_at_call 14; refine (HQ.out _ (HB.out.trans (hHeld.2.mono HB.out.size))).mono ?_; rintro e w92 ⟨rfl, b92⟩))))
            (try (go_wp2_with fail))
            refine hK.out _ _ ?_ (fun hHeld => ?_)
            · ((try dsimp only); (first | exact keepTc hHeld b92 | exact keepTc hHeld b91 | exact ⟨⟨⟨c0, c1⟩, d0, d1⟩, (Below.refl _ _).drew⟩))
            clear hK K
            (try simp only [Act.put, List.getElem_toArray, List.getElem_cons_succ, List.getElem_cons_zero, List.setIfInBounds_toArray, List.set_cons_zero, List.set_cons_succ])
            refine wpAnyH_ready (rs := [5]) (by kernel_rfl) (by simp) (AllReadyH.cons rfl (fun K hK => ?_) AllReadyH.nil)
            (first | ((first | (go_at_call 41; refine (HWO.out _).mono ?_; rintro e w91 ⟨rfl, b91⟩) | (go_at_call 14; refine (HQ.out _ (HB.out.trans (hHeld.2.mono HB.out.size))).mono ?_; rintro e w92 ⟨rfl, b92⟩))) | (go_simp; (first | (go_at_call 41; refine (HWO.out _).mono ?_; rintro e w91 ⟨rfl, b91⟩) | (go_at_call 14; refine (HQ.out _ (HB.out.trans (hHeld.2.mono HB.out.size))).mono ?_; rintro e w92 ⟨rfl, b92⟩))))
            (try (go_wp2_with fail))
            refine hK.out _ _ ?_ (fun hHeld => ?_)
            · ((try dsimp only); (first | exact keepTc hHeld b92 | exact keepTc hHeld b91 | exact ⟨⟨⟨c0, c1⟩, d0, d1⟩, (Below.refl _ _).drew⟩))
            clear hK K
            (try simp only [Act.put, List.getElem_toArray, List.getElem_cons_succ, List.getElem_cons_zero, List.setIfInBounds_toArray, List.set_cons_zero, List.set_cons_succ])
            refine wpAnyH_done (by kernel_rfl) ?_ _
            refine NoPanic.normal ?_
            obtain ⟨w5, hw5⟩ : ∃ w', w' = w92 := ⟨_, rfl⟩
            rw [← hw5] at hHeld ⊢
            have b5 := hHeld.2
            clear hHeld b91 b92 hw5
            have HB5 := Lib.hid (HBW.out.trans (b5.mono HBW.out.size))
            have HT5 := Lib.hid (HTW.out.kept b5)
            clear b5 c0 c1 d0 d1
            go_wp2_with fail
            go_roundw
            case rel => exact ⟨k + 1, by omega, by go_num, HN, HT5, HB5⟩
            case measure => simp [intOf]; omega
        · obtain rfl : k = ms.length := by omega
          have HX : Hid (imB (C : Int) ll m (L : Int) (R : Int) = true) := Lib.hid (by have h := HALL.out; rw [List.take_length] at h; exact HE.out.trans h)
          go_wp2_with fail
          go_ret
          exact ⟨ret_b HX.out, HB.out⟩
end
theorem parts_lenS (n : Int) : (parts n).length ≤ 1048576 := by
  by_cases hn : 0 ≤ n ∧ n ≤ 5
  · obtain ⟨C, rfl⟩ : ∃ C : Nat, n = (C : Int) := ⟨n.toNat, by omega⟩
    have := parts_len32 (C := C) (by omega)
    omega
  · unfold parts; rw [if_neg hn]; simp
theorem filt_I64 (n : Int) (p : Int → Bool) : I64s ((parts n).filter p) := by
  intro x hx
  obtain ⟨X, rfl, hX⟩ := parts_small n x (List.mem_filter.1 hx).1
  omega
section
set_option maxRecDepth 20000
set_option maxHeartbeats 1600000
theorem borderFun_any (c m r : Int) (v : Value) (ll : List (List Int)) (_w1 : (Lit.int .i64 m).wf = true) (_w3 : (Lit.int .i64 r).wf = true) (b : Nat) (s : Int) (_w2 : (Lit.int .i64 s).wf = true) (w : World) (he : Env2 w b c m v ll) (h2 : w.cell? ⟨b + 2, 0, none⟩ = some (.int .i64 r)) (hl : ll.length ≤ 1048576) (ht : ∀ i, i < ll.length → (ll.getD i []).length ≤ 1048576) :
    Calls Tryz.prog 28 #[.int .i64 s, .pointer (some ⟨b, 0, none⟩), .pointer (some ⟨b + 1, 0, none⟩), .pointer (some ⟨b + 2, 0, none⟩)] w fun e w' => e = .returned (.bool (!holdsD c ll m s r)) ∧ Below w.heap.size w w' := by
  have HU := Lib.hid (implHoldsDep_any c m s r v ll _w1 _w2 _w3 w he.s hl ht)
  obtain ⟨t0, t1, m0, hs⟩ := he
  obtain ⟨a, cap, rfl, -⟩ := hs
  go_enter Tryz.func28, Tryz.ntmps28
  go_wp2_with fail
  refine HU.out.mono ?_
  rintro e w2 ⟨rfl, b2⟩
  go_wp2_with fail
  go_ret
  exact ⟨rfl, b2⟩
end
section
set_option maxRecDepth 20000
set_option maxHeartbeats 3200000
theorem implViolatedBorder_any (c m r : Int) (v : Value) (ll : List (List Int)) (_w1 : (Lit.int .i64 m).wf = true) (_w2 : (Lit.int .i64 r).wf = true) (w : World) (hr : ReadSS w v ll) (hl : ll.length ≤ 1048576) (ht : ∀ i, i < ll.length → (ll.getD i []).length ≤ 1048576) :
    Calls Tryz.prog 6 #[.agg #[.int .i64 c, v], .int .i64 m, .int .i64 r] w (RetI (vbL c ll m r) w) := by
  have hb1 := (Below.refl w.heap.size w).alloc (Nat.le_refl _) (.cells #[.int .i64 c, v] 26)
  have hb2 := hb1.alloc hb1.size (.cells #[.int .i64 m] 3)
  have hb2' := hb2.alloc hb2.size (.cells #[.int .i64 r] 3)
  have he0 := Env2.mk' (c := c) (m := m) hr 26 3
  have he := he0.kept ((Below.refl _ _).alloc (Nat.le_refl _) (.cells #[.int .i64 r] 3))
  have hr0 := one_at ((w.alloc (.cells #[.int .i64 c, v] 26)).alloc (.cells #[.int .i64 m] 3)) 3 (.int .i64 r)
  rw [World.size_alloc, World.size_alloc] at hr0
  have HM := Lib.hid (inMode_any c m v ll _ he.s hl ht)
  have HCO := Lib.hid (fun w' (h : Env2 w' w.heap.size c m v ll) => hasColumn_any c r v ll w' h.s hl ht)
  have HB := Lib.hid hb2'
  have hs1 : (w.alloc (.cells #[.int .i64 c, v] 26)).heap.size = w.heap.size + 1 := by simp
  cases hf : fineT c ll m with
  | false =>
    have HE : Hid (vbL c ll m r = []) := Lib.hid (by unfold vbL; rw [hf, if_neg (fun h => by cases h.1)])
    rw [hf] at HM
    obtain ⟨t0, t1, m0, hs⟩ := he
    obtain ⟨a, cap, rfl, -⟩ := hs
    clear hf hb1 hb2 hb2' ht he0
    go_enter Tryz.func6, Tryz.ntmps6
    go_wp2_with fail
    refine HM.out.mono ?_
    rintro e w1 ⟨rfl, b1⟩
    have hb3 := HB.out.trans (b1.mono HB.out.size)
    go_wp2_with fail
    go_ret
    exact ⟨_, rfl, by rw [HE.out]; exact OwnI.none _ _, hb3⟩
  | true =>
    have hT := fineT_isT hf
    by_cases hrc : 0 ≤ r ∧ r ≤ c - 1
    · have hcb : colB c ll r = true := by unfold colB; rw [hT, decide_eq_true hrc]; rfl
      obtain ⟨hc1, hc5, h40⟩ := isT_bd hT
      obtain ⟨C, rfl⟩ : ∃ C : Nat, c = (C : Int) := ⟨c.toNat, by omega⟩
      obtain ⟨R, rfl⟩ : ∃ R : Nat, r = (R : Int) := ⟨r.toNat, by omega⟩
      have HE : Hid (vbL (C : Int) ll m (R : Int) = maxS (((parts (C : Int)).filter (fun S => !bitB S.toNat R)).filter (fun S => !holdsD (C : Int) ll m S (R : Int)))) := Lib.hid (by
        unfold vbL
        rw [if_pos ⟨hf, by omega, by omega⟩, brd_filt hf (by omega) (by omega) (by omega)]; rfl)
      have HP := Lib.hid (fun w' => partsW_any (C : Int) R (by omega) w')
      have hpl := parts_lenS (C : Int)
      have hfl := List.length_filter_le (fun S => !bitB S.toNat R) (parts (C : Int))
      have hfl2 := List.length_filter_le (fun S => !holdsD (C : Int) ll m S (R : Int)) ((parts (C : Int)).filter (fun S => !bitB S.toNat R))
      have HFI := Lib.hid (fun vp w' (h : Env2 w' w.heap.size (C : Int) m v ll) (h2 : w'.cell? ⟨w.heap.size + 2, 0, none⟩ = some (.int .i64 (R : Int))) (hp : ReadI w' vp ((parts (C : Int)).filter (fun S => !bitB S.toNat R))) => filtVB_any (.pointer (some ⟨w.heap.size, 0, none⟩)) (.pointer (some ⟨w.heap.size + 1, 0, none⟩)) (.pointer (some ⟨w.heap.size + 2, 0, none⟩)) (fun S => !holdsD (C : Int) ll m S (R : Int)) vp _ w' hp (by omega)
        (fun x hx w'' hb => by
          obtain ⟨X, rfl, hX⟩ := parts_small (C : Int) x (List.mem_filter.1 hx).1
          exact borderFun_any (C : Int) m (R : Int) v ll _w1 _w2 w.heap.size (X : Int) (wf_small X hX) w'' (h.kept hb) ((hb.cell (World.block_lt_of_cell? _ _ h2)).trans h2) hl ht))
      have HMX := Lib.hid (fun vp w' (hp : ReadI w' vp (((parts (C : Int)).filter (fun S => !bitB S.toNat R)).filter (fun S => !holdsD (C : Int) ll m S (R : Int)))) => implMaximalM_any vp _ w' hp (by omega) (by rw [List.filter_filter]; exact filt_I64 _ _))
      rw [← HE.out] at HMX
      rw [hf] at HM
      rw [hcb] at HCO
      have HEV := Lib.hid he
      obtain ⟨t0, t1, m0, hs⟩ := he
      obtain ⟨a, cap, rfl, -⟩ := hs
      clear hf hb1 hb2 hb2' ht hT he0 HE hcb hpl hfl hfl2
      go_enter Tryz.func6, Tryz.ntmps6
      go_wp2_with fail
      refine HM.out.mono ?_
      rintro e w1 ⟨rfl, b1⟩
      have hb3 := HB.out.trans (b1.mono HB.out.size)
      have he1 := HEV.out.kept b1
      replace hr0 := (b1.cell (World.block_lt_of_cell? _ _ hr0)).trans hr0
      have HC1 := Lib.hid (HCO.out w1 he1)
      have HE1 := Lib.hid he1
      obtain ⟨t0, t1, m0, -⟩ := he1
      clear b1
      go_wp2_with fail
      refine HC1.out.mono ?_
      rintro e w2 ⟨rfl, b2⟩
      have hb4 := hb3.trans (b2.mono hb3.size)
      have he2 := HE1.out.kept b2
      replace hr0 := (b2.cell (World.block_lt_of_cell? _ _ hr0)).trans hr0
      have HE2 := Lib.hid he2
      clear t0 t1 m0 b2
      obtain ⟨t0, t1, m0, -⟩ := he2
      go_wp2_with fail
      refine (HP.out _).mono ?_
      rintro e w3 ⟨v3, rfl, o3, b3⟩
      have hb5 := hb4.trans (b3.mono hb4.size)
      have HG := Lib.hid (HFI.out v3 w3 (HE2.out.kept b3) ((b3.cell (World.block_lt_of_cell? _ _ hr0)).trans hr0) o3.read)
      clear o3 b3 t0 t1 m0 hr0
      go_wp2_with fail
      refine HG.out.mono ?_
      rintro e w4 ⟨v4, rfl, o4, b4⟩
      have hb6 := hb5.trans (b4.mono hb5.size)
      have HN := Lib.hid (HMX.out v4 w4 o4.read)
      clear o4 b4
      go_wp2_with fail
      refine HN.out.mono ?_
      rintro e w5 ⟨v5, rfl, o5, b5⟩
      have hb7 := hb6.trans (b5.mono hb6.size)
      have o6 := o5.base hb6.size
      clear o5 b5
      go_wp2_with fail
      go_ret
      exact ⟨_, rfl, o6, hb7⟩
    · have hcb : colB c ll r = false := by unfold colB; rw [decide_eq_false hrc]; simp
      have HE : Hid (vbL c ll m r = []) := Lib.hid (by unfold vbL; rw [if_neg (fun h => hrc ⟨h.2.1, by omega⟩)])
      rw [hf] at HM
      rw [hcb] at HCO
      have HEV := Lib.hid he
      obtain ⟨t0, t1, m0, hs⟩ := he
      obtain ⟨a, cap, rfl, -⟩ := hs
      clear hf hb1 hb2 hb2' ht hT he0 hcb
      go_enter Tryz.func6, Tryz.ntmps6
      go_wp2_with fail
      refine HM.out.mono ?_
      rintro e w1 ⟨rfl, b1⟩
      have hb3 := HB.out.trans (b1.mono HB.out.size)
      have he1 := HEV.out.kept b1
      replace hr0 := (b1.cell (World.block_lt_of_cell? _ _ hr0)).trans hr0
      have HC1 := Lib.hid (HCO.out w1 he1)
      obtain ⟨t0, t1, m0, -⟩ := he1
      clear b1
      go_wp2_with fail
      refine HC1.out.mono ?_
      rintro e w2 ⟨rfl, b2⟩
      have hb4 := hb3.trans (b2.mono hb3.size)
      go_wp2_with fail
      go_ret
      exact ⟨_, rfl, by rw [HE.out]; exact OwnI.none _ _, hb4⟩
end
end Go.Proofs.YtlecfkfcjhliiaaGreat
