/- The model's chapter 13: SynthesizeThird, by contract. Conditions: as stated. -/
import Derived.Test.YtcgkfbjdlhapkaaYa33
import Derived.Test.YtcgkfbjdlhapkaaClPm
import Derived.Test.YtcgkfbjdlhapkaaYa23
import Derived.Test.YtcgkfbjdlhapkaaNfFm
namespace Go.Proofs.Ytcgkfbjdlhapkaa
open Go.RowKit

theorem orN_w13 : ∀ (x : Fin 32) (R : Fin 5), bits .or .i64 ((x.val : Nat) : Int) (wrap64 (2 ^ R.val)) = ((orN x.val R.val : Nat) : Int) := by decide +kernel
theorem syN_lt {C : Nat} (hC : C ≤ 5) {c : List (Int × Int)} (hc : DepsN C c) {L : Nat} (hL : L < 32) : ∀ k, k ≤ c.length → syN c L k < 32
  | 0, _ => hL
  | k + 1, hk => by
    have ih := syN_lt hC hc hL k (by omega)
    unfold syN
    split
    · obtain ⟨x, R, e, -, hR⟩ := hc _ (memD (show k < c.length by omega))
      rw [e]
      exact (orN_fin ⟨syN c L k, ih⟩ ⟨R, by omega⟩).1
    · exact ih
theorem syO_len (c : List (Int × Int)) : ∀ i, (syO c i).length ≤ i
  | 0 => Nat.le_refl _
  | i + 1 => by
    have h1 := syO_len c i
    have h2 := put4_len13 (syO c i) ((syN c (c.getD i (0, 0)).1.toNat c.length : Nat) : Int)
    show (put4 _ _).length ≤ _
    omega
theorem syL_len (n : Int) (l : List (Int × Int)) : (syL n l).length ≤ 100 := by
  unfold syL
  split
  · exact Nat.le_trans (maxS_len _) (by omega)
  · exact Nat.zero_le _
section
set_option maxRecDepth 100000
set_option maxHeartbeats 3200000
theorem synth13_any (v : Value) (n : Int) (l : List (Int × Int)) (w : World) (hr : ReadD w v l) (hl : l.length ≤ 1048576) :
    Calls Try.prog 32 #[.int .i64 n, v] w (RetI (syL n l) w) := by
  have HB1 := Lib.hid ((Below.refl w.heap.size w).alloc (Nat.le_refl _) (.cells #[] 3))
  have HO1 : Hid (OwnI (w.alloc (.cells #[] 3)) w.heap.size (.slice (some ⟨w.heap.size, 0, none⟩) 0 0) []) := Lib.hid (OwnI.made (World.ownsRow_made w #[] 0 (Nat.le_refl _) (by unfold maxLen; omega) rfl))
  have HAD := Lib.hid (fun w' (hb : Below w.heap.size w w') => areDeps10_any v n l w' (hr.kept hb) hl)
  cases ha : arD n l with
  | false =>
    have HE : Hid (syL n l = []) := Lib.hid (by unfold syL; rw [ha]; rfl)
    rw [ha] at HAD
    rw [HE.out]
    obtain ⟨a, cap, rfl, -⟩ := hr
    clear ha
    go_enter Try.func32, Try.ntmps32
    go_wp2_with fail
    refine (HAD.out _ HB1.out).mono ?_
    rintro e w2 ⟨rfl, b2⟩
    have HB := Lib.hid (HB1.out.trans (b2.mono HB1.out.size))
    have HO := Lib.hid (HO1.out.kept b2 (fun k hk => (HO1.out.lt k hk).2))
    clear b2
    go_wp2_with fail
    go_ret
    exact ⟨_, rfl, HO.out, HB.out⟩
  | true =>
    have HCO := Lib.hid (fun w' (hb : Below w.heap.size w w') => coverOf11_any v n l w' (hr.kept hb) hl)
    have HKO := Lib.hid (fun w' (hb : Below w.heap.size w w') => keysOf11_any v n l w' (hr.kept hb) hl)
    obtain ⟨hca, hcl, -, -⟩ := cover_facts ha
    have hkp := koL_pos ha
    have hkl := koL_len n l
    have hl20 : l.length ≤ 20 := by obtain ⟨_, _, _, _, h, _⟩ := arD_n ha; exact h
    have HCD : Hid (∃ C : Nat, C ≤ 5 ∧ DepsN C (coL11 n l)) := Lib.hid (by obtain ⟨C, e, -, h5, -, hd⟩ := arD_n hca; exact ⟨C, h5, hd⟩)
    have HE : Hid (syL n l = maxS (if syH (koL n l) (syO (coL11 n l) (coL11 n l).length) (syO (coL11 n l) (coL11 n l).length).length = true then syO (coL11 n l) (coL11 n l).length else put4 (syO (coL11 n l) (coL11 n l).length) ((koL n l).getD 0 0))) := Lib.hid (by unfold syL; rw [if_pos ha])
    obtain ⟨c, hc⟩ : ∃ c, c = coL11 n l := ⟨_, rfl⟩
    rw [← hc] at HCO HCD HE hcl
    obtain ⟨ks, hks⟩ : ∃ ks, ks = koL n l := ⟨_, rfl⟩
    rw [← hks] at HKO HE hkp hkl
    rw [ha] at HAD
    obtain ⟨a, cap, rfl, -⟩ := hr
    clear ha hca hc hks
    go_enter Try.func32, Try.ntmps32
    go_wp2_with fail
    refine (HAD.out _ HB1.out).mono ?_
    rintro e w2 ⟨rfl, b2⟩
    have HB2 := Lib.hid (HB1.out.trans (b2.mono HB1.out.size))
    have HO2 := Lib.hid (HO1.out.kept b2 (fun k hk => (HO1.out.lt k hk).2))
    clear b2 HO1 HB1
    go_wp2_with fail
    refine (HCO.out _ HB2.out).mono ?_
    rintro e w3 ⟨vc, rfl, oc, b3⟩
    have HB3 := Lib.hid (HB2.out.trans (b3.mono HB2.out.size))
    have HO3 := Lib.hid (HO2.out.kept b3 (fun k hk => (HO2.out.lt k hk).2))
    have HC3 := Lib.hid oc.read
    obtain ⟨ac, cc, hvc, -⟩ := oc.read
    subst hvc
    clear b3 oc HO2 HB2
    go_wp2_with fail
    go_loopw [5, 7, 8, 9] (fun ov iv xv kv wr => ∃ i : Nat, i ≤ c.length ∧ iv = .int .i64 (i : Int) ∧ Hid (OwnI wr w.heap.size ov (syO c i)) ∧ Hid (ReadD wr (.slice ac c.length cc) c) ∧ Hid (Below w.heap.size w wr)) (fun _ iv _ _ _ => c.length - (intOf iv).toNat)
    case atStart => exact ⟨0, by omega, rfl, HO3, HC3, HB3⟩
    case round =>
      clear HO3 HC3 HB3
      obtain ⟨i, hi, rfl, HO, HC, HB⟩ := hrel
      obtain ⟨w5, hw⟩ : ∃ w', w' = wr := ⟨_, rfl⟩
      rw [← hw] at HO HC HB ⊢
      clear hw
      have z0 : (0 : Int) ≤ (i : Int) := by omega
      by_cases hlt : i < c.length
      · have z1 : (i : Int) < (c.length : Int) := by omega
        obtain ⟨C, hC5, hCN⟩ := HCD.out
        have h32 := two5 hC5
        obtain ⟨bd, od, hbd, h0, h1⟩ := readD_cells HC.out hlt
        subst hbd
        obtain ⟨L, R, hd, hL, hR⟩ := hCN _ (memD hlt)
        have HN : Hid (syO c (i + 1) = put4 (syO c i) ((syN c L c.length : Nat) : Int)) := Lib.hid (by show put4 _ ((syN c (c.getD i (0, 0)).1.toNat c.length : Nat) : Int) = _; rw [hd]; rfl)
        have hsl := syO_len c i
        rw [hd] at h0
        simp only at h0
        have HH0 := Lib.hid h0
        have HLT := Lib.hid (fun k (hk : k ≤ c.length) => syN_lt hC5 hCN (L := L) (by omega) k hk)
        have HCN := Lib.hid hCN
        clear h1 hd hCN
        go_wp2_with fail
        go_loopw [8, 9] (fun xv kv wr => ∃ k : Nat, k ≤ c.length ∧ kv = .int .i64 (k : Int) ∧ xv = .int .i64 ((syN c L k : Nat) : Int) ∧ Hid (Below w5.heap.size w5 wr)) (fun _ kv _ => c.length - (intOf kv).toNat)
        case atStart => exact ⟨0, by omega, rfl, rfl, Lib.hid (Below.refl _ _)⟩
        case round =>
          clear h0
          obtain ⟨k, hk, rfl, rfl, HW⟩ := hrel
          obtain ⟨w6, hw⟩ : ∃ w', w' = wr := ⟨_, rfl⟩
          rw [← hw] at HW ⊢
          clear hw
          have y0 : (0 : Int) ≤ (k : Int) := by omega
          by_cases hlk : k < c.length
          · have y1 : (k : Int) < (c.length : Int) := by omega
            obtain ⟨_, _, e1, g0, g1⟩ := readD_cells (HC.out.kept HW.out) hlk
            cases e1
            have h0 := keep_in HH0.out HW.out
            obtain ⟨M, Q, hm, hM, hQ⟩ := HCN.out _ (memD hlk)
            have hxk := HLT.out k (by omega)
            have HS : Hid (syN c L (k + 1) = if (M : Int) = (L : Int) then orN (syN c L k) Q else syN c L k) := Lib.hid (by show (if (c.getD k (0, 0)).1 = (L : Int) then orN (syN c L k) (c.getD k (0, 0)).2.toNat else syN c L k) = _; rw [hm]; rfl)
            have how := orN_w13 ⟨syN c L k, hxk⟩ ⟨Q, by omega⟩
            simp only at how
            rw [hm] at g0 g1
            simp only at g0 g1
            have G1 := Lib.hid (fun w' (hb : Below w6.heap.size w6 w') => keep_in g1 hb)
            have hQ0 : (0 : Int) ≤ (Q : Int) := by omega
            have hQ64 : Q ≤ 64 := by omega
            obtain ⟨X, hX⟩ : ∃ X, X = syN c L k := ⟨_, rfl⟩
            rw [← hX] at HS how ⊢
            clear hX hm g1 hxk
            by_cases he : (M : Int) = (L : Int)
            · rw [if_pos he] at HS
              have hee : ((M : Int) == (L : Int)) = true := by rw [he]; simp
              clear he
              go_upto_region 12 with fail
              refine wp_region_noPanic ?_
              refine wp_region_held_drew (S := (fun w' => w'.cell? ⟨bd, od + k * 2, none⟩ = some (.int .i64 (M : Int)) ∧ w'.cell? ⟨bd, od + i * 2, none⟩ = some (.int .i64 (L : Int)))) (by kernel_rfl) ?_ (fun hHeld => ?_)
              · ((try dsimp only); (first | exact ⟨g0, h0⟩ | exact hHeld))
              refine wpAnyH_take (i := 0) (v := ?_) rfl (by kernel_rfl) (by kernel_rfl) (by kernel_rfl) (fun _ _ _ h => h) (Or.inl ⟨by rfl, ?_⟩) (by assumption) ?_
              rotate_left
              · (intro w hSw; (try dsimp only at hSw); go_simp; (try with_reducible rfl))
              (try simp only [Act.put, List.getElem_toArray, List.getElem_cons_zero, List.setIfInBounds_toArray, List.set_cons_zero, List.set_cons_succ])
              refine wpAnyH_take (i := 1) (v := ?_) rfl (by kernel_rfl) (by kernel_rfl) (by kernel_rfl) (fun _ _ _ h => h) (Or.inl ⟨by rfl, ?_⟩) (by assumption) ?_
              rotate_left
              · (intro w hSw; (try dsimp only at hSw); go_simp; (try with_reducible rfl))
              (try simp only [Act.put, List.getElem_toArray, List.getElem_cons_succ, List.getElem_cons_zero, List.setIfInBounds_toArray, List.set_cons_zero, List.set_cons_succ])
              refine wpAnyH_take (i := 2) (v := ?_) rfl (by kernel_rfl) (by kernel_rfl) (by kernel_rfl) (fun _ _ _ h => h) (Or.inl ⟨by rfl, ?_⟩) (by assumption) ?_
              rotate_left
              · (intro w hSw; (try dsimp only at hSw); go_simp; (try with_reducible rfl))
              (try simp only [Act.put, List.getElem_toArray, List.getElem_cons_succ, List.getElem_cons_zero, List.setIfInBounds_toArray, List.set_cons_zero, List.set_cons_succ])
              refine wpAnyH_take (i := 3) (v := ?_) rfl (by kernel_rfl) (by kernel_rfl) (by kernel_rfl) (fun _ _ _ h => h) (Or.inl ⟨by rfl, ?_⟩) (by assumption) ?_
              rotate_left
              · (intro w hSw; (try dsimp only at hSw); go_simp; (try with_reducible rfl))
              (try simp only [Act.put, List.getElem_toArray, List.getElem_cons_succ, List.getElem_cons_zero, List.setIfInBounds_toArray, List.set_cons_zero, List.set_cons_succ])
              refine wpAnyH_take (i := 4) (v := ?_) rfl (by kernel_rfl) (by kernel_rfl) (by kernel_rfl) (fun _ _ _ h => h) (Or.inl ⟨by rfl, ?_⟩) (by assumption) ?_
              rotate_left
              · (intro w hSw; (try dsimp only at hSw); go_simp; (try with_reducible rfl))
              (try simp only [Act.put, List.getElem_toArray, List.getElem_cons_succ, List.getElem_cons_zero, List.setIfInBounds_toArray, List.set_cons_zero, List.set_cons_succ])
              refine wpAnyH_take (i := 5) (v := ?_) rfl (by kernel_rfl) (by kernel_rfl) (by kernel_rfl) (fun _ _ _ h => h) (Or.inl ⟨by rfl, ?_⟩) (by assumption) ?_
              rotate_left
              · (intro w hSw; (try dsimp only at hSw); go_simp; (try with_reducible rfl))
              (try simp only [Act.put, List.getElem_toArray, List.getElem_cons_succ, List.getElem_cons_zero, List.setIfInBounds_toArray, List.set_cons_zero, List.set_cons_succ])
              refine wpAnyH_take (i := 6) (v := ?_) rfl (by kernel_rfl) (by kernel_rfl) (by kernel_rfl) (fun _ _ _ h => h) (Or.inl ⟨by rfl, ?_⟩) (by assumption) ?_
              rotate_left
              · (intro w hSw; (try dsimp only at hSw); go_simp; (try with_reducible rfl))
              (try simp only [Act.put, List.getElem_toArray, List.getElem_cons_succ, List.getElem_cons_zero, List.setIfInBounds_toArray, List.set_cons_zero, List.set_cons_succ])
              refine wpAnyH_take (i := 7) (v := ?_) rfl (by kernel_rfl) (by kernel_rfl) (by kernel_rfl) (fun _ _ _ h => h) (Or.inl ⟨by rfl, ?_⟩) (by assumption) ?_
              rotate_left
              · (intro w hSw; (try dsimp only at hSw); go_simp; (try with_reducible rfl))
              (try simp only [Act.put, List.getElem_toArray, List.getElem_cons_succ, List.getElem_cons_zero, List.setIfInBounds_toArray, List.set_cons_zero, List.set_cons_succ])
              refine wpAnyH_take (i := 8) (v := ?_) rfl (by kernel_rfl) (by kernel_rfl) (by kernel_rfl) (fun _ _ _ h => h) (Or.inl ⟨by rfl, ?_⟩) (by assumption) ?_
              rotate_left
              · (intro w hSw; (try dsimp only at hSw); go_simp; (try with_reducible rfl))
              (try simp only [Act.put, List.getElem_toArray, List.getElem_cons_succ, List.getElem_cons_zero, List.setIfInBounds_toArray, List.set_cons_zero, List.set_cons_succ])
              refine wpAnyH_take (i := 9) (v := ?_) rfl (by kernel_rfl) (by kernel_rfl) (by kernel_rfl) (fun _ _ _ h => h) (Or.inl ⟨by rfl, ?_⟩) (by assumption) ?_
              rotate_left
              · (intro w hSw; (try dsimp only at hSw); go_simp; (try with_reducible rfl))
              (try simp only [Act.put, List.getElem_toArray, List.getElem_cons_succ, List.getElem_cons_zero, List.setIfInBounds_toArray, List.set_cons_zero, List.set_cons_succ])
              refine wpAnyH_take (i := 10) (v := ?_) rfl (by kernel_rfl) (by kernel_rfl) (by kernel_rfl) (fun _ _ _ h => h) (Or.inl ⟨by rfl, ?_⟩) (by assumption) ?_
              rotate_left
              · (intro w hSw; (try dsimp only at hSw); go_simp; (try with_reducible rfl))
              (try simp only [Act.put, List.getElem_toArray, List.getElem_cons_succ, List.getElem_cons_zero, List.setIfInBounds_toArray, List.set_cons_zero, List.set_cons_succ])
              refine wpAnyH_done (by kernel_rfl) ?_ _
              refine NoPanic.normal ?_
              have HW7 := Lib.hid (HW.out.trans ((Below.refl w6.heap.size w6).drew.mono HW.out.size))
              have g1 := G1.out _ (Below.refl w6.heap.size w6).drew
              clear hHeld g0 h0
              go_wp2_with fail
              go_roundw
              case rel => exact ⟨k + 1, by omega, by go_num, by rw [HS.out], HW7⟩
              case measure => simp [intOf]; omega
            · rw [if_neg he] at HS
              have hee : ((M : Int) == (L : Int)) = false := by simpa using he
              clear he
              go_upto_region 12 with fail
              refine wp_region_noPanic ?_
              refine wp_region_held_drew (S := (fun w' => w'.cell? ⟨bd, od + k * 2, none⟩ = some (.int .i64 (M : Int)) ∧ w'.cell? ⟨bd, od + i * 2, none⟩ = some (.int .i64 (L : Int)))) (by kernel_rfl) ?_ (fun hHeld => ?_)
              · ((try dsimp only); (first | exact ⟨g0, h0⟩ | exact hHeld))
              refine wpAnyH_take (i := 0) (v := ?_) rfl (by kernel_rfl) (by kernel_rfl) (by kernel_rfl) (fun _ _ _ h => h) (Or.inl ⟨by rfl, ?_⟩) (by assumption) ?_
              rotate_left
              · (intro w hSw; (try dsimp only at hSw); go_simp; (try with_reducible rfl))
              (try simp only [Act.put, List.getElem_toArray, List.getElem_cons_zero, List.setIfInBounds_toArray, List.set_cons_zero, List.set_cons_succ])
              refine wpAnyH_take (i := 1) (v := ?_) rfl (by kernel_rfl) (by kernel_rfl) (by kernel_rfl) (fun _ _ _ h => h) (Or.inl ⟨by rfl, ?_⟩) (by assumption) ?_
              rotate_left
              · (intro w hSw; (try dsimp only at hSw); go_simp; (try with_reducible rfl))
              (try simp only [Act.put, List.getElem_toArray, List.getElem_cons_succ, List.getElem_cons_zero, List.setIfInBounds_toArray, List.set_cons_zero, List.set_cons_succ])
              refine wpAnyH_take (i := 2) (v := ?_) rfl (by kernel_rfl) (by kernel_rfl) (by kernel_rfl) (fun _ _ _ h => h) (Or.inl ⟨by rfl, ?_⟩) (by assumption) ?_
              rotate_left
              · (intro w hSw; (try dsimp only at hSw); go_simp; (try with_reducible rfl))
              (try simp only [Act.put, List.getElem_toArray, List.getElem_cons_succ, List.getElem_cons_zero, List.setIfInBounds_toArray, List.set_cons_zero, List.set_cons_succ])
              refine wpAnyH_take (i := 3) (v := ?_) rfl (by kernel_rfl) (by kernel_rfl) (by kernel_rfl) (fun _ _ _ h => h) (Or.inl ⟨by rfl, ?_⟩) (by assumption) ?_
              rotate_left
              · (intro w hSw; (try dsimp only at hSw); go_simp; (try with_reducible rfl))
              (try simp only [Act.put, List.getElem_toArray, List.getElem_cons_succ, List.getElem_cons_zero, List.setIfInBounds_toArray, List.set_cons_zero, List.set_cons_succ])
              refine wpAnyH_take (i := 4) (v := ?_) rfl (by kernel_rfl) (by kernel_rfl) (by kernel_rfl) (fun _ _ _ h => h) (Or.inl ⟨by rfl, ?_⟩) (by assumption) ?_
              rotate_left
              · (intro w hSw; (try dsimp only at hSw); go_simp; (try with_reducible rfl))
              (try simp only [Act.put, List.getElem_toArray, List.getElem_cons_succ, List.getElem_cons_zero, List.setIfInBounds_toArray, List.set_cons_zero, List.set_cons_succ])
              refine wpAnyH_take (i := 5) (v := ?_) rfl (by kernel_rfl) (by kernel_rfl) (by kernel_rfl) (fun _ _ _ h => h) (Or.inl ⟨by rfl, ?_⟩) (by assumption) ?_
              rotate_left
              · (intro w hSw; (try dsimp only at hSw); go_simp; (try with_reducible rfl))
              (try simp only [Act.put, List.getElem_toArray, List.getElem_cons_succ, List.getElem_cons_zero, List.setIfInBounds_toArray, List.set_cons_zero, List.set_cons_succ])
              refine wpAnyH_take (i := 6) (v := ?_) rfl (by kernel_rfl) (by kernel_rfl) (by kernel_rfl) (fun _ _ _ h => h) (Or.inl ⟨by rfl, ?_⟩) (by assumption) ?_
              rotate_left
              · (intro w hSw; (try dsimp only at hSw); go_simp; (try with_reducible rfl))
              (try simp only [Act.put, List.getElem_toArray, List.getElem_cons_succ, List.getElem_cons_zero, List.setIfInBounds_toArray, List.set_cons_zero, List.set_cons_succ])
              refine wpAnyH_take (i := 7) (v := ?_) rfl (by kernel_rfl) (by kernel_rfl) (by kernel_rfl) (fun _ _ _ h => h) (Or.inl ⟨by rfl, ?_⟩) (by assumption) ?_
              rotate_left
              · (intro w hSw; (try dsimp only at hSw); go_simp; (try with_reducible rfl))
              (try simp only [Act.put, List.getElem_toArray, List.getElem_cons_succ, List.getElem_cons_zero, List.setIfInBounds_toArray, List.set_cons_zero, List.set_cons_succ])
              refine wpAnyH_take (i := 8) (v := ?_) rfl (by kernel_rfl) (by kernel_rfl) (by kernel_rfl) (fun _ _ _ h => h) (Or.inl ⟨by rfl, ?_⟩) (by assumption) ?_
              rotate_left
              · (intro w hSw; (try dsimp only at hSw); go_simp; (try with_reducible rfl))
              (try simp only [Act.put, List.getElem_toArray, List.getElem_cons_succ, List.getElem_cons_zero, List.setIfInBounds_toArray, List.set_cons_zero, List.set_cons_succ])
              refine wpAnyH_take (i := 9) (v := ?_) rfl (by kernel_rfl) (by kernel_rfl) (by kernel_rfl) (fun _ _ _ h => h) (Or.inl ⟨by rfl, ?_⟩) (by assumption) ?_
              rotate_left
              · (intro w hSw; (try dsimp only at hSw); go_simp; (try with_reducible rfl))
              (try simp only [Act.put, List.getElem_toArray, List.getElem_cons_succ, List.getElem_cons_zero, List.setIfInBounds_toArray, List.set_cons_zero, List.set_cons_succ])
              refine wpAnyH_take (i := 10) (v := ?_) rfl (by kernel_rfl) (by kernel_rfl) (by kernel_rfl) (fun _ _ _ h => h) (Or.inl ⟨by rfl, ?_⟩) (by assumption) ?_
              rotate_left
              · (intro w hSw; (try dsimp only at hSw); go_simp; (try with_reducible rfl))
              (try simp only [Act.put, List.getElem_toArray, List.getElem_cons_succ, List.getElem_cons_zero, List.setIfInBounds_toArray, List.set_cons_zero, List.set_cons_succ])
              refine wpAnyH_done (by kernel_rfl) ?_ _
              refine NoPanic.normal ?_
              have HW7 := Lib.hid (HW.out.trans ((Below.refl w6.heap.size w6).drew.mono HW.out.size))
              clear hHeld g0 h0
              go_wp2_with fail
              go_roundw
              case rel => exact ⟨k + 1, by omega, by go_num, by rw [HS.out], HW7⟩
              case measure => simp [intOf]; omega
          · obtain rfl : k = c.length := by omega
            have HO6 := Lib.hid (HO.out.kept HW.out (fun k hk => (HO.out.lt k hk).2))
            have HB6 := Lib.hid (HB.out.trans (HW.out.mono HB.out.size))
            have HC6 := Lib.hid (HC.out.kept HW.out)
            obtain ⟨ao, co, hov, -⟩ := HO6.out.read
            subst hov
            have HPT := Lib.hid (l4Put_any _ _ ((syN c L c.length : Nat) : Int) w.heap.size w6 HO6.out HB6.out.size (by omega))
            clear HO6 HO HB HC
            go_wp2_with fail
            refine HPT.out.mono ?_
            rintro e w7 ⟨v7, rfl, o7, b7⟩
            have HB7 := Lib.hid (HB6.out.trans (b7.mono HB6.out.size))
            have HC7 := Lib.hid (HC6.out.kept b7)
            have HO7 := Lib.hid o7
            clear o7 b7
            go_wp2_with fail
            go_roundw
            case rel => exact ⟨i + 1, by omega, by go_num, Lib.hid (by rw [HN.out]; exact HO7.out), HC7, HB7⟩
            case measure => simp [intOf]; omega
      · obtain rfl : i = c.length := by omega
        obtain ⟨ao, co, hov, -⟩ := HO.out.read
        subst hov
        go_wp2_with fail
        refine (HKO.out _ HB.out).mono ?_
        rintro e w6 ⟨vk, rfl, ok, b6⟩
        have HB6 := Lib.hid (HB.out.trans (b6.mono HB.out.size))
        have HO6 := Lib.hid (HO.out.kept b6 (fun k hk => (HO.out.lt k hk).2))
        have HK6 := Lib.hid ok.read
        obtain ⟨ak, ck, hvk, -⟩ := ok.read
        subst hvk
        clear ok b6 HO HB HC
        go_wp2_with fail
        have hol := syO_len c c.length
        obtain ⟨O, hO⟩ : ∃ O, O = syO c c.length := ⟨_, rfl⟩
        rw [← hO] at HE HO6 hol ⊢
        clear hO
        have HRO := Lib.hid (fun w' (hb : Below w6.heap.size w6 w') => HO6.out.read.kept hb)
        have HRK := Lib.hid (fun w' (hb : Below w6.heap.size w6 w') => HK6.out.kept hb)
        go_loopw [11, 12, 13] (fun hv iv _ wr => ∃ i : Nat, i ≤ O.length ∧ iv = .int .i64 (i : Int) ∧ hv = .bool (syH ks O i) ∧ Hid (Below w6.heap.size w6 wr)) (fun _ iv _ _ => O.length - (intOf iv).toNat)
        case atStart => exact ⟨0, by omega, rfl, rfl, Lib.hid (Below.refl _ _)⟩
        case round =>
          obtain ⟨i, hi, rfl, rfl, HW⟩ := hrel
          obtain ⟨w7, hw⟩ : ∃ w', w' = wr := ⟨_, rfl⟩
          rw [← hw] at HW ⊢
          clear hw
          have z0 : (0 : Int) ≤ (i : Int) := by omega
          by_cases hlt : i < O.length
          · have z1 : (i : Int) < (O.length : Int) := by omega
            have HN : Hid (syH ks O (i + 1) = (syH ks O i || syK ks (O.getD i 0) ks.length)) := Lib.hid rfl
            have HRO7 := Lib.hid (fun w' (hb : Below w6.heap.size w6 w') => readI_at13 (HRO.out w' hb) hlt)
            obtain ⟨o, ho⟩ : ∃ o, o = O.getD i 0 := ⟨_, rfl⟩
            rw [← ho] at HN HRO7
            obtain ⟨b, hb⟩ : ∃ b, b = syH ks O i := ⟨_, rfl⟩
            rw [← hb] at HN ⊢
            clear ho hb
            obtain ⟨xo, hxo, -⟩ := HRO7.out w7 HW.out
            subst hxo
            have HRO8 : Hid (∀ w', Below w6.heap.size w6 w' → w'.cell? (xo.add i) = some (.int .i64 o)) := Lib.hid (fun w' hb => by obtain ⟨x, e, h⟩ := HRO7.out w' hb; cases e; exact h)
            clear HRO7
            go_wp2_with fail
            go_loopw [11, 13] (fun hv jv wr => ∃ j : Nat, j ≤ ks.length ∧ jv = .int .i64 (j : Int) ∧ hv = .bool (b || syK ks o j) ∧ Hid (Below w6.heap.size w6 wr)) (fun _ jv _ => ks.length - (intOf jv).toNat)
            case atStart => exact ⟨0, by omega, rfl, by simp [syK], HW⟩
            case round =>
              clear HW
              obtain ⟨j, hj, rfl, rfl, HW⟩ := hrel
              obtain ⟨w8, hw⟩ : ∃ w', w' = wr := ⟨_, rfl⟩
              rw [← hw] at HW ⊢
              clear hw
              have y0 : (0 : Int) ≤ (j : Int) := by omega
              by_cases hlj : j < ks.length
              · have y1 : (j : Int) < (ks.length : Int) := by omega
                obtain ⟨xk, hxk, hk0⟩ := readI_at13 (HRK.out w8 HW.out) hlj
                subst hxk
                have ho0 := HRO8.out w8 HW.out
                have HJ : Hid (syK ks o (j + 1) = (syK ks o j || decide (bits .and .i64 (ks.getD j 0) o = ks.getD j 0))) := Lib.hid rfl
                obtain ⟨q, hq⟩ : ∃ q, q = ks.getD j 0 := ⟨_, rfl⟩
                rw [← hq] at hk0 HJ
                clear hq
                cases hh : (b || syK ks o j) with
                | true =>
                  have HX : Hid ((b || syK ks o (j + 1)) = true) := Lib.hid (by rw [HJ.out, ← Bool.or_assoc, hh]; rfl)
                  clear hh HJ
                  go_upto_region 23 with fail
                  refine wp_region_noPanic ?_
                  refine wp_region_held_drew (S := (fun w' => w'.cell? (xk.add j) = some (.int .i64 q) ∧ w'.cell? (xo.add i) = some (.int .i64 o) ∧ Below w8.heap.size w8 w')) (by kernel_rfl) ?_ (fun hHeld => ?_)
                  · ((try dsimp only); (first | exact ⟨hk0, ho0, (Below.refl _ _).drew⟩ | exact hHeld))
                  refine wpAnyH_take (i := 0) (v := ?_) rfl (by kernel_rfl) (by kernel_rfl) (by kernel_rfl) (fun _ _ _ h => h) (Or.inl ⟨by rfl, ?_⟩) (by assumption) ?_
                  rotate_left
                  · (intro w hSw; (try dsimp only at hSw); go_simp; (try with_reducible rfl))
                  (try simp only [Act.put, List.getElem_toArray, List.getElem_cons_zero, List.setIfInBounds_toArray, List.set_cons_zero, List.set_cons_succ])
                  refine wpAnyH_take (i := 1) (v := ?_) rfl (by kernel_rfl) (by kernel_rfl) (by kernel_rfl) (fun _ _ _ h => h) (Or.inl ⟨by rfl, ?_⟩) (by assumption) ?_
                  rotate_left
                  · (intro w hSw; (try dsimp only at hSw); go_simp; (try with_reducible rfl))
                  (try simp only [Act.put, List.getElem_toArray, List.getElem_cons_succ, List.getElem_cons_zero, List.setIfInBounds_toArray, List.set_cons_zero, List.set_cons_succ])
                  refine wpAnyH_take (i := 2) (v := undef) rfl (by kernel_rfl) (by kernel_rfl) (by kernel_rfl) (fun _ _ _ h => h) (Or.inr ⟨by rfl, rfl⟩) (by assumption) ?_
                  (try simp only [Act.put, List.getElem_toArray, List.getElem_cons_succ, List.getElem_cons_zero, List.setIfInBounds_toArray, List.set_cons_zero, List.set_cons_succ])
                  refine wpAnyH_take (i := 3) (v := undef) rfl (by kernel_rfl) (by kernel_rfl) (by kernel_rfl) (fun _ _ _ h => h) (Or.inr ⟨by rfl, rfl⟩) (by assumption) ?_
                  (try simp only [Act.put, List.getElem_toArray, List.getElem_cons_succ, List.getElem_cons_zero, List.setIfInBounds_toArray, List.set_cons_zero, List.set_cons_succ])
                  refine wpAnyH_take (i := 4) (v := undef) rfl (by kernel_rfl) (by kernel_rfl) (by kernel_rfl) (fun _ _ _ h => h) (Or.inr ⟨by rfl, rfl⟩) (by assumption) ?_
                  (try simp only [Act.put, List.getElem_toArray, List.getElem_cons_succ, List.getElem_cons_zero, List.setIfInBounds_toArray, List.set_cons_zero, List.set_cons_succ])
                  refine wpAnyH_take (i := 5) (v := undef) rfl (by kernel_rfl) (by kernel_rfl) (by kernel_rfl) (fun _ _ _ h => h) (Or.inr ⟨by rfl, rfl⟩) (by assumption) ?_
                  (try simp only [Act.put, List.getElem_toArray, List.getElem_cons_succ, List.getElem_cons_zero, List.setIfInBounds_toArray, List.set_cons_zero, List.set_cons_succ])
                  refine wpAnyH_take (i := 6) (v := undef) rfl (by kernel_rfl) (by kernel_rfl) (by kernel_rfl) (fun _ _ _ h => h) (Or.inr ⟨by rfl, rfl⟩) (by assumption) ?_
                  (try simp only [Act.put, List.getElem_toArray, List.getElem_cons_succ, List.getElem_cons_zero, List.setIfInBounds_toArray, List.set_cons_zero, List.set_cons_succ])
                  refine wpAnyH_take (i := 7) (v := undef) rfl (by kernel_rfl) (by kernel_rfl) (by kernel_rfl) (fun _ _ _ h => h) (Or.inr ⟨by rfl, rfl⟩) (by assumption) ?_
                  (try simp only [Act.put, List.getElem_toArray, List.getElem_cons_succ, List.getElem_cons_zero, List.setIfInBounds_toArray, List.set_cons_zero, List.set_cons_succ])
                  refine wpAnyH_take (i := 8) (v := undef) rfl (by kernel_rfl) (by kernel_rfl) (by kernel_rfl) (fun _ _ _ h => h) (Or.inr ⟨by rfl, rfl⟩) (by assumption) ?_
                  (try simp only [Act.put, List.getElem_toArray, List.getElem_cons_succ, List.getElem_cons_zero, List.setIfInBounds_toArray, List.set_cons_zero, List.set_cons_succ])
                  refine wpAnyH_take (i := 9) (v := undef) rfl (by kernel_rfl) (by kernel_rfl) (by kernel_rfl) (fun _ _ _ h => h) (Or.inr ⟨by rfl, rfl⟩) (by assumption) ?_
                  (try simp only [Act.put, List.getElem_toArray, List.getElem_cons_succ, List.getElem_cons_zero, List.setIfInBounds_toArray, List.set_cons_zero, List.set_cons_succ])
                  refine wpAnyH_take (i := 10) (v := undef) rfl (by kernel_rfl) (by kernel_rfl) (by kernel_rfl) (fun _ _ _ h => h) (Or.inr ⟨by rfl, rfl⟩) (by assumption) ?_
                  (try simp only [Act.put, List.getElem_toArray, List.getElem_cons_succ, List.getElem_cons_zero, List.setIfInBounds_toArray, List.set_cons_zero, List.set_cons_succ])
                  refine wpAnyH_take (i := 11) (v := undef) rfl (by kernel_rfl) (by kernel_rfl) (by kernel_rfl) (fun _ _ _ h => h) (Or.inr ⟨by rfl, rfl⟩) (by assumption) ?_
                  (try simp only [Act.put, List.getElem_toArray, List.getElem_cons_succ, List.getElem_cons_zero, List.setIfInBounds_toArray, List.set_cons_zero, List.set_cons_succ])
                  refine wpAnyH_take (i := 12) (v := undef) rfl (by kernel_rfl) (by kernel_rfl) (by kernel_rfl) (fun _ _ _ h => h) (Or.inr ⟨by rfl, rfl⟩) (by assumption) ?_
                  (try simp only [Act.put, List.getElem_toArray, List.getElem_cons_succ, List.getElem_cons_zero, List.setIfInBounds_toArray, List.set_cons_zero, List.set_cons_succ])
                  refine wpAnyH_take (i := 13) (v := undef) rfl (by kernel_rfl) (by kernel_rfl) (by kernel_rfl) (fun _ _ _ h => h) (Or.inr ⟨by rfl, rfl⟩) (by assumption) ?_
                  (try simp only [Act.put, List.getElem_toArray, List.getElem_cons_succ, List.getElem_cons_zero, List.setIfInBounds_toArray, List.set_cons_zero, List.set_cons_succ])
                  refine wpAnyH_take (i := 14) (v := undef) rfl (by kernel_rfl) (by kernel_rfl) (by kernel_rfl) (fun _ _ _ h => h) (Or.inr ⟨by rfl, rfl⟩) (by assumption) ?_
                  (try simp only [Act.put, List.getElem_toArray, List.getElem_cons_succ, List.getElem_cons_zero, List.setIfInBounds_toArray, List.set_cons_zero, List.set_cons_succ])
                  refine wpAnyH_take (i := 15) (v := undef) rfl (by kernel_rfl) (by kernel_rfl) (by kernel_rfl) (fun _ _ _ h => h) (Or.inr ⟨by rfl, rfl⟩) (by assumption) ?_
                  (try simp only [Act.put, List.getElem_toArray, List.getElem_cons_succ, List.getElem_cons_zero, List.setIfInBounds_toArray, List.set_cons_zero, List.set_cons_succ])
                  refine wpAnyH_take (i := 16) (v := ?_) rfl (by kernel_rfl) (by kernel_rfl) (by kernel_rfl) (fun _ _ _ h => h) (Or.inl ⟨by rfl, ?_⟩) (by assumption) ?_
                  rotate_left
                  · (intro w hSw; (try dsimp only at hSw); go_simp; (try with_reducible rfl))
                  (try simp only [Act.put, List.getElem_toArray, List.getElem_cons_succ, List.getElem_cons_zero, List.setIfInBounds_toArray, List.set_cons_zero, List.set_cons_succ])
                  refine wpAnyH_take (i := 17) (v := ?_) rfl (by kernel_rfl) (by kernel_rfl) (by kernel_rfl) (fun _ _ _ h => h) (Or.inl ⟨by rfl, ?_⟩) (by assumption) ?_
                  rotate_left
                  · (intro w hSw; (try dsimp only at hSw); go_simp; (try with_reducible rfl))
                  (try simp only [Act.put, List.getElem_toArray, List.getElem_cons_succ, List.getElem_cons_zero, List.setIfInBounds_toArray, List.set_cons_zero, List.set_cons_succ])
                  refine wpAnyH_done (by kernel_rfl) ?_ _
                  refine NoPanic.normal ?_
                  have HW9 := Lib.hid (HW.out.trans (hHeld.2.2.mono HW.out.size))
                  clear hHeld hk0 ho0
                  go_wp2_with fail
                  go_roundw
                  case rel => exact ⟨j + 1, by omega, by go_num, by rw [HX.out], HW9⟩
                  case measure => simp [intOf]; omega
                | false =>
                  cases he : decide (bits .and .i64 q o = q) with
                  | true =>
                    have hee : (bits .and .i64 q o == q) = true := he
                    have HX : Hid ((b || syK ks o (j + 1)) = true) := Lib.hid (by rw [HJ.out, he]; simp)
                    clear hh HJ he
                    go_upto_region 23 with fail
                    refine wp_region_noPanic ?_
                    refine wp_region_held_drew (S := (fun w' => w'.cell? (xk.add j) = some (.int .i64 q) ∧ w'.cell? (xo.add i) = some (.int .i64 o) ∧ Below w8.heap.size w8 w')) (by kernel_rfl) ?_ (fun hHeld => ?_)
                    · ((try dsimp only); (first | exact ⟨hk0, ho0, (Below.refl _ _).drew⟩ | exact hHeld))
                    refine wpAnyH_take (i := 0) (v := ?_) rfl (by kernel_rfl) (by kernel_rfl) (by kernel_rfl) (fun _ _ _ h => h) (Or.inl ⟨by rfl, ?_⟩) (by assumption) ?_
                    rotate_left
                    · (intro w hSw; (try dsimp only at hSw); go_simp; (try with_reducible rfl))
                    (try simp only [Act.put, List.getElem_toArray, List.getElem_cons_zero, List.setIfInBounds_toArray, List.set_cons_zero, List.set_cons_succ])
                    refine wpAnyH_take (i := 1) (v := ?_) rfl (by kernel_rfl) (by kernel_rfl) (by kernel_rfl) (fun _ _ _ h => h) (Or.inl ⟨by rfl, ?_⟩) (by assumption) ?_
                    rotate_left
                    · (intro w hSw; (try dsimp only at hSw); go_simp; (try with_reducible rfl))
                    (try simp only [Act.put, List.getElem_toArray, List.getElem_cons_succ, List.getElem_cons_zero, List.setIfInBounds_toArray, List.set_cons_zero, List.set_cons_succ])
                    refine wpAnyH_take (i := 2) (v := ?_) rfl (by kernel_rfl) (by kernel_rfl) (by kernel_rfl) (fun _ _ _ h => h) (Or.inl ⟨by rfl, ?_⟩) (by assumption) ?_
                    rotate_left
                    · (intro w hSw; (try dsimp only at hSw); go_simp; (try with_reducible rfl))
                    (try simp only [Act.put, List.getElem_toArray, List.getElem_cons_succ, List.getElem_cons_zero, List.setIfInBounds_toArray, List.set_cons_zero, List.set_cons_succ])
                    refine wpAnyH_take (i := 3) (v := ?_) rfl (by kernel_rfl) (by kernel_rfl) (by kernel_rfl) (fun _ _ _ h => h) (Or.inl ⟨by rfl, ?_⟩) (by assumption) ?_
                    rotate_left
                    · (intro w hSw; (try dsimp only at hSw); go_simp; (try with_reducible rfl))
                    (try simp only [Act.put, List.getElem_toArray, List.getElem_cons_succ, List.getElem_cons_zero, List.setIfInBounds_toArray, List.set_cons_zero, List.set_cons_succ])
                    refine wpAnyH_take (i := 4) (v := ?_) rfl (by kernel_rfl) (by kernel_rfl) (by kernel_rfl) (fun _ _ _ h => h) (Or.inl ⟨by rfl, ?_⟩) (by assumption) ?_
                    rotate_left
                    · (intro w hSw; (try dsimp only at hSw); go_simp; (try with_reducible rfl))
                    (try simp only [Act.put, List.getElem_toArray, List.getElem_cons_succ, List.getElem_cons_zero, List.setIfInBounds_toArray, List.set_cons_zero, List.set_cons_succ])
                    refine wpAnyH_take (i := 5) (v := ?_) rfl (by kernel_rfl) (by kernel_rfl) (by kernel_rfl) (fun _ _ _ h => h) (Or.inl ⟨by rfl, ?_⟩) (by assumption) ?_
                    rotate_left
                    · (intro w hSw; (try dsimp only at hSw); go_simp; (try with_reducible rfl))
                    (try simp only [Act.put, List.getElem_toArray, List.getElem_cons_succ, List.getElem_cons_zero, List.setIfInBounds_toArray, List.set_cons_zero, List.set_cons_succ])
                    refine wpAnyH_take (i := 6) (v := ?_) rfl (by kernel_rfl) (by kernel_rfl) (by kernel_rfl) (fun _ _ _ h => h) (Or.inl ⟨by rfl, ?_⟩) (by assumption) ?_
                    rotate_left
                    · (intro w hSw; (try dsimp only at hSw); go_simp; (try with_reducible rfl))
                    (try simp only [Act.put, List.getElem_toArray, List.getElem_cons_succ, List.getElem_cons_zero, List.setIfInBounds_toArray, List.set_cons_zero, List.set_cons_succ])
                    refine wpAnyH_take (i := 7) (v := ?_) rfl (by kernel_rfl) (by kernel_rfl) (by kernel_rfl) (fun _ _ _ h => h) (Or.inl ⟨by rfl, ?_⟩) (by assumption) ?_
                    rotate_left
                    · (intro w hSw; (try dsimp only at hSw); go_simp; (try with_reducible rfl))
                    (try simp only [Act.put, List.getElem_toArray, List.getElem_cons_succ, List.getElem_cons_zero, List.setIfInBounds_toArray, List.set_cons_zero, List.set_cons_succ])
                    refine wpAnyH_take (i := 8) (v := ?_) rfl (by kernel_rfl) (by kernel_rfl) (by kernel_rfl) (fun _ _ _ h => h) (Or.inl ⟨by rfl, ?_⟩) (by assumption) ?_
                    rotate_left
                    · (intro w hSw; (try dsimp only at hSw); go_simp; (try with_reducible rfl))
                    (try simp only [Act.put, List.getElem_toArray, List.getElem_cons_succ, List.getElem_cons_zero, List.setIfInBounds_toArray, List.set_cons_zero, List.set_cons_succ])
                    refine wpAnyH_take (i := 9) (v := ?_) rfl (by kernel_rfl) (by kernel_rfl) (by kernel_rfl) (fun _ _ _ h => h) (Or.inl ⟨by rfl, ?_⟩) (by assumption) ?_
                    rotate_left
                    · (intro w hSw; (try dsimp only at hSw); go_simp; (try with_reducible rfl))
                    (try simp only [Act.put, List.getElem_toArray, List.getElem_cons_succ, List.getElem_cons_zero, List.setIfInBounds_toArray, List.set_cons_zero, List.set_cons_succ])
                    refine wpAnyH_take (i := 10) (v := ?_) rfl (by kernel_rfl) (by kernel_rfl) (by kernel_rfl) (fun _ _ _ h => h) (Or.inl ⟨by rfl, ?_⟩) (by assumption) ?_
                    rotate_left
                    · (intro w hSw; (try dsimp only at hSw); go_simp; (try with_reducible rfl))
                    (try simp only [Act.put, List.getElem_toArray, List.getElem_cons_succ, List.getElem_cons_zero, List.setIfInBounds_toArray, List.set_cons_zero, List.set_cons_succ])
                    refine wpAnyH_take (i := 11) (v := ?_) rfl (by kernel_rfl) (by kernel_rfl) (by kernel_rfl) (fun _ _ _ h => h) (Or.inl ⟨by rfl, ?_⟩) (by assumption) ?_
                    rotate_left
                    · (intro w hSw; (try dsimp only at hSw); go_simp; (try with_reducible rfl))
                    (try simp only [Act.put, List.getElem_toArray, List.getElem_cons_succ, List.getElem_cons_zero, List.setIfInBounds_toArray, List.set_cons_zero, List.set_cons_succ])
                    refine wpAnyH_take (i := 12) (v := ?_) rfl (by kernel_rfl) (by kernel_rfl) (by kernel_rfl) (fun _ _ _ h => h) (Or.inl ⟨by rfl, ?_⟩) (by assumption) ?_
                    rotate_left
                    · (intro w hSw; (try dsimp only at hSw); go_simp; (try with_reducible rfl))
                    (try simp only [Act.put, List.getElem_toArray, List.getElem_cons_succ, List.getElem_cons_zero, List.setIfInBounds_toArray, List.set_cons_zero, List.set_cons_succ])
                    refine wpAnyH_take (i := 13) (v := ?_) rfl (by kernel_rfl) (by kernel_rfl) (by kernel_rfl) (fun _ _ _ h => h) (Or.inl ⟨by rfl, ?_⟩) (by assumption) ?_
                    rotate_left
                    · (intro w hSw; (try dsimp only at hSw); go_simp; (try with_reducible rfl))
                    (try simp only [Act.put, List.getElem_toArray, List.getElem_cons_succ, List.getElem_cons_zero, List.setIfInBounds_toArray, List.set_cons_zero, List.set_cons_succ])
                    refine wpAnyH_take (i := 14) (v := ?_) rfl (by kernel_rfl) (by kernel_rfl) (by kernel_rfl) (fun _ _ _ h => h) (Or.inl ⟨by rfl, ?_⟩) (by assumption) ?_
                    rotate_left
                    · (intro w hSw; (try dsimp only at hSw); go_simp; (try with_reducible rfl))
                    (try simp only [Act.put, List.getElem_toArray, List.getElem_cons_succ, List.getElem_cons_zero, List.setIfInBounds_toArray, List.set_cons_zero, List.set_cons_succ])
                    refine wpAnyH_take (i := 15) (v := ?_) rfl (by kernel_rfl) (by kernel_rfl) (by kernel_rfl) (fun _ _ _ h => h) (Or.inl ⟨by rfl, ?_⟩) (by assumption) ?_
                    rotate_left
                    · (intro w hSw; (try dsimp only at hSw); go_simp; (try with_reducible rfl))
                    (try simp only [Act.put, List.getElem_toArray, List.getElem_cons_succ, List.getElem_cons_zero, List.setIfInBounds_toArray, List.set_cons_zero, List.set_cons_succ])
                    refine wpAnyH_take (i := 16) (v := ?_) rfl (by kernel_rfl) (by kernel_rfl) (by kernel_rfl) (fun _ _ _ h => h) (Or.inl ⟨by rfl, ?_⟩) (by assumption) ?_
                    rotate_left
                    · (intro w hSw; (try dsimp only at hSw); go_simp; (try with_reducible rfl))
                    (try simp only [Act.put, List.getElem_toArray, List.getElem_cons_succ, List.getElem_cons_zero, List.setIfInBounds_toArray, List.set_cons_zero, List.set_cons_succ])
                    refine wpAnyH_take (i := 17) (v := ?_) rfl (by kernel_rfl) (by kernel_rfl) (by kernel_rfl) (fun _ _ _ h => h) (Or.inl ⟨by rfl, ?_⟩) (by assumption) ?_
                    rotate_left
                    · (intro w hSw; (try dsimp only at hSw); go_simp; (try with_reducible rfl))
                    (try simp only [Act.put, List.getElem_toArray, List.getElem_cons_succ, List.getElem_cons_zero, List.setIfInBounds_toArray, List.set_cons_zero, List.set_cons_succ])
                    refine wpAnyH_done (by kernel_rfl) ?_ _
                    refine NoPanic.normal ?_
                    have HW9 := Lib.hid (HW.out.trans (hHeld.2.2.mono HW.out.size))
                    clear hHeld hk0 ho0
                    go_wp2_with fail
                    go_roundw
                    case rel => exact ⟨j + 1, by omega, by go_num, by rw [HX.out], HW9⟩
                    case measure => simp [intOf]; omega
                  | false =>
                    have hee : (bits .and .i64 q o == q) = false := he
                    have HX : Hid ((b || syK ks o (j + 1)) = false) := Lib.hid (by rw [HJ.out, he, ← Bool.or_assoc, hh]; rfl)
                    clear hh HJ he
                    go_upto_region 23 with fail
                    refine wp_region_noPanic ?_
                    refine wp_region_held_drew (S := (fun w' => w'.cell? (xk.add j) = some (.int .i64 q) ∧ w'.cell? (xo.add i) = some (.int .i64 o) ∧ Below w8.heap.size w8 w')) (by kernel_rfl) ?_ (fun hHeld => ?_)
                    · ((try dsimp only); (first | exact ⟨hk0, ho0, (Below.refl _ _).drew⟩ | exact hHeld))
                    refine wpAnyH_take (i := 0) (v := ?_) rfl (by kernel_rfl) (by kernel_rfl) (by kernel_rfl) (fun _ _ _ h => h) (Or.inl ⟨by rfl, ?_⟩) (by assumption) ?_
                    rotate_left
                    · (intro w hSw; (try dsimp only at hSw); go_simp; (try with_reducible rfl))
                    (try simp only [Act.put, List.getElem_toArray, List.getElem_cons_zero, List.setIfInBounds_toArray, List.set_cons_zero, List.set_cons_succ])
                    refine wpAnyH_take (i := 1) (v := ?_) rfl (by kernel_rfl) (by kernel_rfl) (by kernel_rfl) (fun _ _ _ h => h) (Or.inl ⟨by rfl, ?_⟩) (by assumption) ?_
                    rotate_left
                    · (intro w hSw; (try dsimp only at hSw); go_simp; (try with_reducible rfl))
                    (try simp only [Act.put, List.getElem_toArray, List.getElem_cons_succ, List.getElem_cons_zero, List.setIfInBounds_toArray, List.set_cons_zero, List.set_cons_succ])
                    refine wpAnyH_take (i := 2) (v := ?_) rfl (by kernel_rfl) (by kernel_rfl) (by kernel_rfl) (fun _ _ _ h => h) (Or.inl ⟨by rfl, ?_⟩) (by assumption) ?_
                    rotate_left
                    · (intro w hSw; (try dsimp only at hSw); go_simp; (try with_reducible rfl))
                    (try simp only [Act.put, List.getElem_toArray, List.getElem_cons_succ, List.getElem_cons_zero, List.setIfInBounds_toArray, List.set_cons_zero, List.set_cons_succ])
                    refine wpAnyH_take (i := 3) (v := ?_) rfl (by kernel_rfl) (by kernel_rfl) (by kernel_rfl) (fun _ _ _ h => h) (Or.inl ⟨by rfl, ?_⟩) (by assumption) ?_
                    rotate_left
                    · (intro w hSw; (try dsimp only at hSw); go_simp; (try with_reducible rfl))
                    (try simp only [Act.put, List.getElem_toArray, List.getElem_cons_succ, List.getElem_cons_zero, List.setIfInBounds_toArray, List.set_cons_zero, List.set_cons_succ])
                    refine wpAnyH_take (i := 4) (v := ?_) rfl (by kernel_rfl) (by kernel_rfl) (by kernel_rfl) (fun _ _ _ h => h) (Or.inl ⟨by rfl, ?_⟩) (by assumption) ?_
                    rotate_left
                    · (intro w hSw; (try dsimp only at hSw); go_simp; (try with_reducible rfl))
                    (try simp only [Act.put, List.getElem_toArray, List.getElem_cons_succ, List.getElem_cons_zero, List.setIfInBounds_toArray, List.set_cons_zero, List.set_cons_succ])
                    refine wpAnyH_take (i := 5) (v := ?_) rfl (by kernel_rfl) (by kernel_rfl) (by kernel_rfl) (fun _ _ _ h => h) (Or.inl ⟨by rfl, ?_⟩) (by assumption) ?_
                    rotate_left
                    · (intro w hSw; (try dsimp only at hSw); go_simp; (try with_reducible rfl))
                    (try simp only [Act.put, List.getElem_toArray, List.getElem_cons_succ, List.getElem_cons_zero, List.setIfInBounds_toArray, List.set_cons_zero, List.set_cons_succ])
                    refine wpAnyH_take (i := 6) (v := ?_) rfl (by kernel_rfl) (by kernel_rfl) (by kernel_rfl) (fun _ _ _ h => h) (Or.inl ⟨by rfl, ?_⟩) (by assumption) ?_
                    rotate_left
                    · (intro w hSw; (try dsimp only at hSw); go_simp; (try with_reducible rfl))
                    (try simp only [Act.put, List.getElem_toArray, List.getElem_cons_succ, List.getElem_cons_zero, List.setIfInBounds_toArray, List.set_cons_zero, List.set_cons_succ])
                    refine wpAnyH_take (i := 7) (v := ?_) rfl (by kernel_rfl) (by kernel_rfl) (by kernel_rfl) (fun _ _ _ h => h) (Or.inl ⟨by rfl, ?_⟩) (by assumption) ?_
                    rotate_left
                    · (intro w hSw; (try dsimp only at hSw); go_simp; (try with_reducible rfl))
                    (try simp only [Act.put, List.getElem_toArray, List.getElem_cons_succ, List.getElem_cons_zero, List.setIfInBounds_toArray, List.set_cons_zero, List.set_cons_succ])
                    refine wpAnyH_take (i := 8) (v := ?_) rfl (by kernel_rfl) (by kernel_rfl) (by kernel_rfl) (fun _ _ _ h => h) (Or.inl ⟨by rfl, ?_⟩) (by assumption) ?_
                    rotate_left
                    · (intro w hSw; (try dsimp only at hSw); go_simp; (try with_reducible rfl))
                    (try simp only [Act.put, List.getElem_toArray, List.getElem_cons_succ, List.getElem_cons_zero, List.setIfInBounds_toArray, List.set_cons_zero, List.set_cons_succ])
                    refine wpAnyH_take (i := 9) (v := ?_) rfl (by kernel_rfl) (by kernel_rfl) (by kernel_rfl) (fun _ _ _ h => h) (Or.inl ⟨by rfl, ?_⟩) (by assumption) ?_
                    rotate_left
                    · (intro w hSw; (try dsimp only at hSw); go_simp; (try with_reducible rfl))
                    (try simp only [Act.put, List.getElem_toArray, List.getElem_cons_succ, List.getElem_cons_zero, List.setIfInBounds_toArray, List.set_cons_zero, List.set_cons_succ])
                    refine wpAnyH_take (i := 10) (v := ?_) rfl (by kernel_rfl) (by kernel_rfl) (by kernel_rfl) (fun _ _ _ h => h) (Or.inl ⟨by rfl, ?_⟩) (by assumption) ?_
                    rotate_left
                    · (intro w hSw; (try dsimp only at hSw); go_simp; (try with_reducible rfl))
                    (try simp only [Act.put, List.getElem_toArray, List.getElem_cons_succ, List.getElem_cons_zero, List.setIfInBounds_toArray, List.set_cons_zero, List.set_cons_succ])
                    refine wpAnyH_take (i := 11) (v := ?_) rfl (by kernel_rfl) (by kernel_rfl) (by kernel_rfl) (fun _ _ _ h => h) (Or.inl ⟨by rfl, ?_⟩) (by assumption) ?_
                    rotate_left
                    · (intro w hSw; (try dsimp only at hSw); go_simp; (try with_reducible rfl))
                    (try simp only [Act.put, List.getElem_toArray, List.getElem_cons_succ, List.getElem_cons_zero, List.setIfInBounds_toArray, List.set_cons_zero, List.set_cons_succ])
                    refine wpAnyH_take (i := 12) (v := ?_) rfl (by kernel_rfl) (by kernel_rfl) (by kernel_rfl) (fun _ _ _ h => h) (Or.inl ⟨by rfl, ?_⟩) (by assumption) ?_
                    rotate_left
                    · (intro w hSw; (try dsimp only at hSw); go_simp; (try with_reducible rfl))
                    (try simp only [Act.put, List.getElem_toArray, List.getElem_cons_succ, List.getElem_cons_zero, List.setIfInBounds_toArray, List.set_cons_zero, List.set_cons_succ])
                    refine wpAnyH_take (i := 13) (v := ?_) rfl (by kernel_rfl) (by kernel_rfl) (by kernel_rfl) (fun _ _ _ h => h) (Or.inl ⟨by rfl, ?_⟩) (by assumption) ?_
                    rotate_left
                    · (intro w hSw; (try dsimp only at hSw); go_simp; (try with_reducible rfl))
                    (try simp only [Act.put, List.getElem_toArray, List.getElem_cons_succ, List.getElem_cons_zero, List.setIfInBounds_toArray, List.set_cons_zero, List.set_cons_succ])
                    refine wpAnyH_take (i := 14) (v := ?_) rfl (by kernel_rfl) (by kernel_rfl) (by kernel_rfl) (fun _ _ _ h => h) (Or.inl ⟨by rfl, ?_⟩) (by assumption) ?_
                    rotate_left
                    · (intro w hSw; (try dsimp only at hSw); go_simp; (try with_reducible rfl))
                    (try simp only [Act.put, List.getElem_toArray, List.getElem_cons_succ, List.getElem_cons_zero, List.setIfInBounds_toArray, List.set_cons_zero, List.set_cons_succ])
                    refine wpAnyH_take (i := 15) (v := ?_) rfl (by kernel_rfl) (by kernel_rfl) (by kernel_rfl) (fun _ _ _ h => h) (Or.inl ⟨by rfl, ?_⟩) (by assumption) ?_
                    rotate_left
                    · (intro w hSw; (try dsimp only at hSw); go_simp; (try with_reducible rfl))
                    (try simp only [Act.put, List.getElem_toArray, List.getElem_cons_succ, List.getElem_cons_zero, List.setIfInBounds_toArray, List.set_cons_zero, List.set_cons_succ])
                    refine wpAnyH_take (i := 16) (v := ?_) rfl (by kernel_rfl) (by kernel_rfl) (by kernel_rfl) (fun _ _ _ h => h) (Or.inl ⟨by rfl, ?_⟩) (by assumption) ?_
                    rotate_left
                    · (intro w hSw; (try dsimp only at hSw); go_simp; (try with_reducible rfl))
                    (try simp only [Act.put, List.getElem_toArray, List.getElem_cons_succ, List.getElem_cons_zero, List.setIfInBounds_toArray, List.set_cons_zero, List.set_cons_succ])
                    refine wpAnyH_take (i := 17) (v := ?_) rfl (by kernel_rfl) (by kernel_rfl) (by kernel_rfl) (fun _ _ _ h => h) (Or.inl ⟨by rfl, ?_⟩) (by assumption) ?_
                    rotate_left
                    · (intro w hSw; (try dsimp only at hSw); go_simp; (try with_reducible rfl))
                    (try simp only [Act.put, List.getElem_toArray, List.getElem_cons_succ, List.getElem_cons_zero, List.setIfInBounds_toArray, List.set_cons_zero, List.set_cons_succ])
                    refine wpAnyH_done (by kernel_rfl) ?_ _
                    refine NoPanic.normal ?_
                    have HW9 := Lib.hid (HW.out.trans (hHeld.2.2.mono HW.out.size))
                    clear hHeld hk0 ho0
                    go_wp2_with fail
                    go_roundw
                    case rel => exact ⟨j + 1, by omega, by go_num, by rw [HX.out], HW9⟩
                    case measure => simp [intOf]; omega
              · obtain rfl : j = ks.length := by omega
                go_wp2_with fail
                go_roundw
                case rel => exact ⟨i + 1, by omega, by go_num, by rw [HN.out], HW⟩
                case measure => simp [intOf]; omega
          · obtain rfl : i = O.length := by omega
            have HO7 := Lib.hid (HO6.out.kept HW.out (fun k hk => (HO6.out.lt k hk).2))
            have HB7 := Lib.hid (HB6.out.trans (HW.out.mono HB6.out.size))
            have HMX := Lib.hid (fun L v w' (hr : ReadI w' v L) (hl : L.length ≤ 1048576) => maximalSets_any v L w' hr hl)
            clear HO6 HB6
            cases hh : syH ks O O.length with
            | true =>
              rw [hh] at HE
              have HE2 : Hid (syL n l = maxS O) := Lib.hid (by rw [HE.out]; rfl)
              rw [HE2.out]
              clear hh HE
              go_wp2_with fail
              refine (HMX.out O _ _ HO7.out.read (by omega)).mono ?_
              rintro e w8 ⟨v8, rfl, o8, b8⟩
              have HB8 := Lib.hid (HB7.out.trans (b8.mono HB7.out.size))
              have HO8 := Lib.hid (o8.base HB7.out.size)
              obtain ⟨a8, c8, hv8, -⟩ := o8.read
              subst hv8
              clear o8 b8
              go_wp2_with fail
              go_ret
              exact ⟨Value.slice a8 _ c8, rfl, (by (try rw [HE2.out]); exact HO8.out), HB8.out⟩
            | false =>
              rw [hh] at HE
              obtain ⟨xk, hxk, hk0⟩ := readI_at13 (HRK.out w7 HW.out) hkp
              subst hxk
              rw [Addr.add_zero'] at hk0
              obtain ⟨q, hq⟩ : ∃ q, q = ks.getD 0 0 := ⟨_, rfl⟩
              rw [← hq] at hk0 HE
              have HE2 : Hid (syL n l = maxS (put4 O q)) := Lib.hid (by rw [HE.out]; rfl)
              rw [HE2.out]
              have hpl := put4_len13 O q
              have HPT := Lib.hid (l4Put_any _ O q w.heap.size w7 HO7.out HB7.out.size (by omega))
              clear hh HE hq
              go_wp2_with fail
              refine HPT.out.mono ?_
              rintro e w8 ⟨v8, rfl, o8, b8⟩
              have HB8 := Lib.hid (HB7.out.trans (b8.mono HB7.out.size))
              have HO8 := Lib.hid o8
              obtain ⟨a8, c8, hv8, -⟩ := o8.read
              subst hv8
              clear o8 b8 HO7 HB7 HPT hk0
              go_wp2_with fail
              refine (HMX.out _ _ _ HO8.out.read (by omega)).mono ?_
              rintro e w9 ⟨v9, rfl, o9, b9⟩
              have HB9 := Lib.hid (HB8.out.trans (b9.mono HB8.out.size))
              have HO9 := Lib.hid (o9.base HB8.out.size)
              obtain ⟨a9, c9, hv9, -⟩ := o9.read
              subst hv9
              clear o9 b9
              go_wp2_with fail
              go_ret
              exact ⟨Value.slice a9 _ c9, rfl, (by (try rw [HE2.out]); exact HO9.out), HB9.out⟩
end
end Go.Proofs.Ytcgkfbjdlhapkaa
