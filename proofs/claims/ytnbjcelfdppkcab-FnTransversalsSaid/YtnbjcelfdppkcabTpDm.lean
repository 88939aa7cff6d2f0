/- The program's DepsByTransversals, by contract. Conditions: as stated. -/
import Derived.Test.YtnbjcelfdppkcabTz25
import Derived.Deep.CutBlock
import Derived.Deep.DeepCutAuto
namespace Go.Proofs.Ytnbjcelfdppkcab
open Go.RowKit

theorem mdIn_filt (f : Int → Nat → Bool) (ps : List Int) (r : Nat) (l0 : List (Int × Int)) : ∀ n, n ≤ ps.length → mdIn f ps r l0 n = l0 ++ ((ps.take n).filter fun S => f S r).map fun S => (S, (r : Int))
  | 0, _ => by simp [mdIn]
  | n + 1, h => by
    have hg : ps.getD n 0 = ps[n] := by rw [List.getD_eq_getElem?_getD, List.getElem?_eq_getElem (by omega)]; rfl
    have hs : mdIn f ps r l0 (n + 1) = if f (ps.getD n 0) r = true then mdIn f ps r l0 n ++ [(ps.getD n 0, (r : Int))] else mdIn f ps r l0 n := rfl
    rw [hs, mdIn_filt f ps r l0 n (by omega), List.take_succ_eq_append_getElem (by omega), List.filter_append, List.map_append, hg]
    split
    · rename_i hb
      rw [List.filter_cons, if_pos hb, List.append_assoc]; rfl
    · rename_i hb
      rw [List.filter_cons, if_neg hb]
      simp
theorem mdOut_parts (C : Nat) (T : Nat → List Int) (r : Nat) : mdOut (fun S r => decide (S ∈ T r)) (parts (C : Int)) (r + 1) = mdOut (fun S r => decide (S ∈ T r)) (parts (C : Int)) r ++ (partsIn C (T r)).map fun S => (S, (r : Int)) := by
  show mdIn _ _ _ _ _ = _
  rw [mdIn_filt _ _ _ _ _ (Nat.le_refl _), List.take_length]
  rfl
theorem partsIn_len {C : Nat} (hC : C ≤ 5) (M : List Int) : (partsIn C M).length ≤ 32 := by
  have h1 := parts_len32 hC
  have h2 := List.length_filter_le (fun S => decide (S ∈ M)) (parts (C : Int))
  unfold partsIn
  omega
theorem difT_facts {C r : Nat} {ll : List (List Int)} {m : Int} (hf : fineT (C : Int) ll m = true) (hC : C ≤ 5) (hr : r < C) :
    AscI (trL (difS (C : Int) ll m (r : Int)) (C : Int)) ∧ ∀ y ∈ trL (difS (C : Int) ll m (r : Int)) (C : Int), ∃ X : Nat, y = (X : Int) ∧ X < 2 ^ C := by
  have h := dif_fine hf hC hr
  refine ⟨by rw [trL_eq h]; exact minS_asc _, fun y hy => ?_⟩
  obtain ⟨x, h1, rfl, h2⟩ := (trL_least h y).1 hy
  exact ⟨x, rfl, ((dif_least hf hC hr h1).1 h2).1⟩
theorem dtL_len (c : Int) (ll : List (List Int)) (m : Int) : (dtL c ll m).length ≤ 160 := by
  unfold dtL
  split
  · rename_i hf
    have hb := isT_bd (fineT_isT hf)
    have h := mdOut_len (fun S r => decide (S ∈ trL (difS c ll m (r : Int)) c)) (parts c) c.toNat
    have h2 := parts_len32 (C := c.toNat) (by omega)
    rw [show ((c.toNat : Nat) : Int) = c by omega] at h2
    have : c.toNat * (parts c).length ≤ 5 * 32 := Nat.mul_le_mul (by omega) h2
    omega
  · exact Nat.zero_le _
section
set_option maxRecDepth 20000
set_option maxHeartbeats 6400000
theorem implDepsT_any (c m : Int) (v : Value) (ll : List (List Int)) (w : World) (hr : ReadSS w v ll) (hl : ll.length ≤ 1048576) (ht : ∀ i, i < ll.length → (ll.getD i []).length ≤ 1048576) (hcap : CapOk v) :
    Calls Try.prog 17 #[.agg #[.int .i64 c, v], .int .i64 m] w (RetD (dtL c ll m) w) := by
  obtain ⟨i0, hi, hz0, hz1, hz2⟩ := info_parts infoDp
  have HI : Hid (_ ∧ _ ∧ _ ∧ _) := Lib.hid ⟨hi, hz0, hz1, hz2⟩
  clear hi hz0 hz1 hz2
  have hb1 := (Below.refl w.heap.size w).alloc (Nat.le_refl _) (.cells #[.int .i64 c, v] 32)
  have HF := Lib.hid (fun w' (hb : Below w.heap.size w w') => inMode_any c m v ll w' (hr.kept hb) hl ht)
  have HDS := Lib.hid (fun (q : Int) w' (hb : Below w.heap.size w w') => implDifferenceSetsM_any c m q v ll w' (hr.kept hb) hl ht hcap)
  have HTR := Lib.hid (fun (v : Value) (E : List Int) w' (h : ReadI w' v E) (hl : E.length ≤ 1048576) (hb : I64s E) => implTrans_any v E c w' h hl hb)
  have HB1 := Lib.hid hb1
  obtain ⟨c0, c1⟩ := zero2 w 32 (.int .i64 c) v
  obtain ⟨a, cap, rfl, -⟩ := hr
  clear hb1 ht hcap
  cases hf : fineT c ll m with
  | false =>
    have HE : Hid (dtL c ll m = []) := Lib.hid (by unfold dtL; rw [hf]; rfl)
    rw [hf] at HF
    clear hf
    go_enter Try.func17, Try.ntmps17
    go_wp2_with fail
    refine (HF.out _ HB1.out).mono ?_
    rintro e w1 ⟨rfl, b1⟩
    have HN := Lib.hid (HB1.out.trans (b1.mono HB1.out.size))
    clear b1
    go_wp2_with fail
    go_ret
    exact ⟨_, rfl, by rw [HE.out]; exact OwnD.nil _ _, HN.out⟩
  | true =>
    rw [hf] at HF
    have hT := fineT_isT hf
    obtain ⟨hc1, hc5, h40⟩ := isT_bd hT
    obtain ⟨C, rfl⟩ : ∃ C : Nat, c = (C : Int) := ⟨c.toNat, by omega⟩
    have hC5 : C ≤ 5 := by omega
    obtain ⟨T, hTT⟩ : ∃ T : Nat → List Int, T = fun r => trL (difS (C : Int) ll m ((r : Nat) : Int)) (C : Int) := ⟨_, rfl⟩
    have HTT : Hid (∀ r : Nat, trL (difS (C : Int) ll m ((r : Nat) : Int)) (C : Int) = T r) := Lib.hid (fun r => by rw [hTT])
    have HE : Hid (dtL (C : Int) ll m = mdOut (fun S r => decide (S ∈ T r)) (parts (C : Int)) C) := Lib.hid (by unfold dtL; rw [if_pos hf, hTT]; rfl)
    have HDL : Hid (∀ q : Int, (difS (C : Int) ll m q).length ≤ 1048576) := Lib.hid (fun q => Nat.le_trans (difS_len (C : Int) ll m q) (by omega))
    have HFX : Hid (∀ r, r < C → AscI (T r) ∧ (∀ y ∈ T r, ∃ X : Nat, y = (X : Int) ∧ X < 2 ^ C) ∧ (T r).length ≤ 10) := Lib.hid (fun r hr => by
      obtain ⟨k1, k2⟩ := difT_facts hf hC5 hr
      rw [HTT.out] at k1 k2
      exact ⟨k1, k2, by rw [← HTT.out]; exact trL_ten _ _⟩)
    have HDV : Hid (∀ r : Nat, r < C → I64s (difS (C : Int) ll m ((r : Nat) : Int))) := Lib.hid (fun r hr => setsOk_i64 fun z hz => by
      have h := dif_fine hf hC5 hr
      rw [Bool.and_eq_true, List.all_eq_true] at h
      exact isA_val (h.2 z hz))
    have HNX := Lib.hid (mdOut_parts C T)
    have HLEN : Hid (∀ r, r ≤ C → (mdOut (fun S r => decide (S ∈ T r)) (parts (C : Int)) r).length ≤ 160) := Lib.hid (fun r hr => by
      have h := mdOut_len (fun S r => decide (S ∈ T r)) (parts (C : Int)) r
      have h2 := parts_len32 hC5
      have : r * (parts (C : Int)).length ≤ 5 * 32 := Nat.mul_le_mul (by omega) h2
      omega)
    have HPL := Lib.hid (fun M => partsIn_len hC5 M)
    clear hf hT hTT
    go_enter Try.func17, Try.ntmps17
    go_wp2_with fail
    refine (HF.out _ HB1.out).mono ?_
    rintro e w1 ⟨rfl, b1⟩
    have HB := Lib.hid (HB1.out.trans (b1.mono HB1.out.size))
    have HBX := Lib.hid (And.intro (cell_inB c0 b1) (cell_inB c1 b1))
    have HBS : Hid (w.heap.size + 1 ≤ w1.heap.size) := Lib.hid (by have h := b1.size; rw [World.size_alloc] at h; exact h)
    clear b1 c0 c1
    go_wp2_with fail
    go_loopw [5, 6] (fun ov rv wr => ∃ (r : Nat) (q : List (Int × Int)), r ≤ C ∧ rv = .int .i64 (r : Int) ∧ Hid (q = mdOut (fun S r => decide (S ∈ T r)) (parts (C : Int)) r) ∧ Hid (OwnD wr (w.heap.size + 1) ov q) ∧ Hid (wr.cell? ⟨w.heap.size, 0, none⟩ = some (.int .i64 (C : Int)) ∧ wr.cell? ⟨w.heap.size, 1, none⟩ = some (.slice a ll.length cap)) ∧ Hid (Below w.heap.size w wr ∧ w.heap.size + 1 ≤ wr.heap.size)) (fun _ rv _ => C - (intOf rv).toNat)
    case atStart => exact ⟨0, [], by omega, rfl, Lib.hid rfl, Lib.hid (OwnD.nil _ _), HBX, Lib.hid ⟨HB.out, HBS.out⟩⟩
    case round =>
      clear HBX HB HBS
      obtain ⟨r, q, hr, rfl, hq, HO, HBX, HBB⟩ := hrel
      obtain ⟨w3, hw3⟩ : ∃ w', w' = wr := ⟨_, rfl⟩
      rw [← hw3] at HO HBX HBB ⊢
      clear hw3
      have HB := Lib.hid HBB.out.1
      have HBS := Lib.hid HBB.out.2
      obtain ⟨c0, c1⟩ := HBX.out
      by_cases hlt : r < C
      · have hql : q.length ≤ 160 := by have h := HLEN.out r (by omega); rw [← hq.out] at h; exact h
        have HN2 : Hid (mdOut (fun S r => decide (S ∈ T r)) (parts (C : Int)) (r + 1) = q ++ (partsIn C (T r)).map fun S => (S, (r : Int))) := Lib.hid (by rw [HNX.out, hq.out])
        have hdl := HDL.out (r : Int)
        have HDI := Lib.hid (HDV.out r hlt)
        have HFR := Lib.hid (HFX.out r hlt)
        have HTR2 := Lib.hid (HTT.out r)
        have z0 : (0 : Int) ≤ (r : Int) := by omega
        have z1 : (r : Int) < (C : Int) := by omega
        clear hq
        go_upto_region 7 with fail
        refine wp_region_noPanic ?_
        refine wp_region_held_drew (S := (fun w' => (w'.cell? ⟨w.heap.size, 0, none⟩ = some (.int .i64 (C : Int)) ∧ w'.cell? ⟨w.heap.size, 1, none⟩ = some (.slice a ll.length cap)) ∧ Below w3.heap.size w3 w')) (by kernel_rfl) ?_ (fun hHeld => ?_)
        · ((try dsimp only); exact ⟨⟨c0, c1⟩, (Below.refl _ _).drew⟩)
        refine wpAnyH_take (i := 0) (v := ?_) rfl (by kernel_rfl) (by kernel_rfl) (by kernel_rfl) (fun _ _ _ h => h) (Or.inl ⟨by rfl, ?_⟩) (by assumption) ?_
        rotate_left
        · (intro w hSw; (try dsimp only at hSw); go_simp; (try with_reducible rfl))
        (try simp only [Act.put, List.getElem_toArray, List.getElem_cons_zero, List.setIfInBounds_toArray, List.set_cons_zero, List.set_cons_succ])
        refine wpAnyH_take (i := 1) (v := ?_) rfl (by kernel_rfl) (by kernel_rfl) (by kernel_rfl) (fun _ _ _ h => h) (Or.inl ⟨by rfl, ?_⟩) (by assumption) ?_
        rotate_left
        · (intro w hSw; (try dsimp only at hSw); go_simp; (try with_reducible rfl))
        (try simp only [Act.put, List.getElem_toArray, List.getElem_cons_succ, List.getElem_cons_zero, List.setIfInBounds_toArray, List.set_cons_zero, List.set_cons_succ])
        refine wpAnyH_take (i := 2) (v := ?_) rfl (by kernel_rfl) (by kernel_rfl) (by kernel_rfl) (fun _ _ _ h => h) (Or.inl ⟨by rfl, ?_⟩) (by assumption) ?_
        rotate_left
        · (intro w hSw; (try dsimp only at hSw); go_simp; (try with_reducible rfl))
        (try simp only [Act.put, List.getElem_toArray, List.getElem_cons_succ, List.getElem_cons_zero, List.setIfInBounds_toArray, List.set_cons_zero, List.set_cons_succ])
        refine wpAnyH_take (i := 4) (v := ?_) rfl (by kernel_rfl) (by kernel_rfl) (by kernel_rfl) (fun _ _ _ h => h) (Or.inl ⟨by rfl, ?_⟩) (by assumption) ?_
        rotate_left
        · (intro w hSw; (try dsimp only at hSw); go_simp; (try with_reducible rfl))
        (try simp only [Act.put, List.getElem_toArray, List.getElem_cons_succ, List.getElem_cons_zero, List.setIfInBounds_toArray, List.set_cons_zero, List.set_cons_succ])
        refine wpAnyH_take (i := 5) (v := ?_) rfl (by kernel_rfl) (by kernel_rfl) (by kernel_rfl) (fun _ _ _ h => h) (Or.inl ⟨by rfl, ?_⟩) (by assumption) ?_
        rotate_left
        · (intro w hSw; (try dsimp only at hSw); go_simp; (try with_reducible rfl))
        (try simp only [Act.put, List.getElem_toArray, List.getElem_cons_succ, List.getElem_cons_zero, List.setIfInBounds_toArray, List.set_cons_zero, List.set_cons_succ])
        refine wpAnyH_ready (rs := [3]) (by kernel_rfl) (by simp) (AllReadyH.cons rfl (fun K hK => ?_) AllReadyH.nil)
        (first | (go_at_call 39; refine (HDS.out (r : Int) _ (HB.out.trans (hHeld.2.mono HB.out.size))).mono ?_; rintro e w91 ⟨v91, rfl, o91, b91⟩; have R91 := Lib.hid o91.read) | (go_simp; go_at_call 39; refine (HDS.out (r : Int) _ (HB.out.trans (hHeld.2.mono HB.out.size))).mono ?_; rintro e w91 ⟨v91, rfl, o91, b91⟩; have R91 := Lib.hid o91.read))
        (try (go_wp2_with fail))
        refine hK.out _ _ ?_ (fun hHeld => ?_)
        · ((try dsimp only); exact ⟨⟨cell_inB hHeld.1.1 b91, cell_inB hHeld.1.2 b91⟩, hHeld.2.trans (b91.mono hHeld.2.size)⟩)
        clear hK K
        (try simp only [Act.put, List.getElem_toArray, List.getElem_cons_succ, List.getElem_cons_zero, List.setIfInBounds_toArray, List.set_cons_zero, List.set_cons_succ])
        refine wpAnyH_ready (rs := [6]) (by kernel_rfl) (by simp) (AllReadyH.cons rfl (fun K hK => ?_) AllReadyH.nil)
        (first | (go_at_call 6; refine (HTR.out _ _ _ R91.out hdl HDI.out).mono ?_; rintro e w92 ⟨v92, rfl, o92, b92⟩; have O92 := Lib.hid (o92.base hHeld.2.size)) | (go_simp; go_at_call 6; refine (HTR.out _ _ _ R91.out hdl HDI.out).mono ?_; rintro e w92 ⟨v92, rfl, o92, b92⟩; have O92 := Lib.hid (o92.base hHeld.2.size)))
        (try (go_wp2_with fail))
        refine hK.out _ _ ?_ (fun hHeld => ?_)
        · ((try dsimp only); exact ⟨⟨cell_inB hHeld.1.1 b92, cell_inB hHeld.1.2 b92⟩, hHeld.2.trans (b92.mono hHeld.2.size)⟩)
        clear hK K
        (try simp only [Act.put, List.getElem_toArray, List.getElem_cons_succ, List.getElem_cons_zero, List.setIfInBounds_toArray, List.set_cons_zero, List.set_cons_succ])
        refine wpAnyH_take (i := 7) (v := ?_) rfl (by kernel_rfl) (by kernel_rfl) (by kernel_rfl) (fun _ _ _ h => h) (Or.inl ⟨by rfl, ?_⟩) (by assumption) ?_
        rotate_left
        · (intro w hSw; (try dsimp only at hSw); go_simp; (try with_reducible rfl))
        (try simp only [Act.put, List.getElem_toArray, List.getElem_cons_succ, List.getElem_cons_zero, List.setIfInBounds_toArray, List.set_cons_zero, List.set_cons_succ])
        refine wpAnyH_done (by kernel_rfl) ?_ _
        refine NoPanic.normal ?_
        have HO3 := Lib.hid (HO.out.below hHeld.2 (fun k hk => (HO.out.lt k hk).2))
        have HB3 := Lib.hid (HB.out.trans (hHeld.2.mono HB.out.size))
        have HBX3 := Lib.hid hHeld.1
        have HOL := Lib.hid (fun k hk => (HO.out.lt k hk).2)
        have HBZ := Lib.hid HB.out.size
        have HW3 := Lib.hid (And.intro (World.block_lt_of_cell? _ _ c0) (World.block_lt_of_cell? _ _ c1))
        rw [HTR2.out] at O92
        clear hHeld o91 b91 o92 b92 HO HB HBX c0 c1
        obtain ⟨ax, cx, rfl, -⟩ := O92.out.read
        have HSRT := Lib.hid (sortStable_any C hC5 (.slice ax (T r).length cx) (T r) w3.heap.size _ O92.out HFR.out.1 HFR.out.2.1 HFR.out.2.2)
        go_wp2_with fail
        refine HSRT.out.mono ?_
        rintro e w93 ⟨rfl, o93, b93⟩
        have hln : (T r).length = (partsIn C (T r)).length := by
          rcases o93.shape with ⟨h1, h2⟩ | ⟨g, cap', h1, -⟩
          · injection h1 with _ h1 _
            rw [h2, h1]; rfl
          · injection h1 with _ h1 _
        rw [hln] at o93 ⊢
        have HO4 := Lib.hid (HO3.out.below b93 HOL.out)
        have HB4 := Lib.hid (HB3.out.trans (b93.mono HBZ.out))
        have HBX4 := Lib.hid (And.intro ((b93.cell HW3.out.1).trans HBX3.out.1) ((b93.cell HW3.out.2).trans HBX3.out.2))
        have HL4 := Lib.hid o93
        have HPR := Lib.hid (HPL.out (T r))
        obtain ⟨L, hL⟩ : ∃ L, L = partsIn C (T r) := ⟨_, rfl⟩
        rw [← hL] at HL4 HN2 HPR ⊢
        clear o93 b93 hln hL HSRT HO3 HB3 HBX3 O92
        go_wp2_with fail
        go_loopw [5, 31] (fun ov jv wr => ∃ (k : Nat) (q2 : List (Int × Int)), k ≤ L.length ∧ jv = .int .i64 (k : Int) ∧ Hid (q2 = q ++ (L.take k).map fun S => (S, (r : Int))) ∧ Hid (OwnD wr (w.heap.size + 1) ov q2) ∧ Hid (OwnI wr w3.heap.size (.slice ax L.length cx) L) ∧ Hid (wr.cell? ⟨w.heap.size, 0, none⟩ = some (.int .i64 (C : Int)) ∧ wr.cell? ⟨w.heap.size, 1, none⟩ = some (.slice a ll.length cap)) ∧ Hid (Below w.heap.size w wr)) (fun _ jv _ => L.length - (intOf jv).toNat)
        case atStart => exact ⟨0, q, by omega, rfl, Lib.hid (by simp), HO4, HL4, HBX4, HB4⟩
        case round =>
          clear HO4 HL4 HBX4 HB4
          obtain ⟨k, q2, hk, rfl, hq2, HO, HLS, HBX, HB⟩ := hrel
          obtain ⟨w4, hw4⟩ : ∃ w', w' = wr := ⟨_, rfl⟩
          rw [← hw4] at HO HLS HBX HB ⊢
          clear hw4
          have z2 : (0 : Int) ≤ (k : Int) := by omega
          have hpr := HPR.out
          by_cases hlt2 : k < L.length
          · obtain ⟨b, rfl, hb⟩ : ∃ b, ax = some b ∧ w4.cell? (b.add k) = some (.int .i64 L[k]) := by
              obtain ⟨a', cap', hv, hc⟩ := HLS.out.read
              cases hv
              exact hc k hlt2
            have z3 : (k : Int) < (L.length : Int) := by omega
            have hql2 : q2.length ≤ 1000 := by rw [hq2.out, List.length_append, List.length_map, List.length_take]; omega
            have HX : Hid (q ++ (L.take (k + 1)).map (fun S => (S, (r : Int))) = q2 ++ [(L[k], (r : Int))]) := Lib.hid (by rw [List.take_succ_eq_append_getElem hlt2, List.map_append, hq2.out, List.append_assoc]; rfl)
            obtain ⟨X, hX⟩ : ∃ X, X = L[k] := ⟨_, rfl⟩
            rw [← hX] at hb HX
            have ho6 := HO.out
            clear hX hq2
            go_wp2_with (at_builtin; refine wpList_append_own _ rfl _ _ 36 rfl (w.heap.size + 1) 61 i0 (.agg #[.int .i64 0, .int .i64 0]) 2 16 Try.underlying36 HI.out.1 HI.out.2.1 HI.out.2.2.1 HI.out.2.2.2 rfl (by decide) _ _ _ rfl (World.ownsRow.alloc ho6 _) ⟨w4.heap.size, 0, none⟩ 1 1 [.int .i64 X, .int .i64 (r : Int)] rfl rfl (cell_two_new _ _ _ _) (two_i64 _ _) (by unfold maxLen; omega) (by omega) (by have := HB.out.size; have := World.block_lt_of_cell? _ _ HBX.out.1; simp at this; simp; omega) ?_; intro v7 w7 hown7 hgrow7 _)
            have ho7 := Lib.hid (OwnD.snoc hown7)
            have ha6 := (Below.refl w4.heap.size w4).alloc (Nat.le_refl _) (.cells #[.int .i64 X, .int .i64 (r : Int)] 61)
            have hb7 := Lib.hid ((HB.out.alloc HB.out.size (.cells #[.int .i64 X, .int .i64 (r : Int)] 61)).grown hgrow7 (by simp; have := HB.out.size; omega) (fun k hk => by have := (HO.out.lt k hk).1; omega))
            have hx6 := HLS.out.kept ha6 (fun k hk => (HLS.out.lt k hk).2)
            have hx7 := Lib.hid (hx6.keptBy hgrow7 (fun g hg => dep_apart (World.ownsRow.alloc HO.out _) hx6 g hg))
            have hc7 := Lib.hid (And.intro ((kept_cell hgrow7 (fun g hg => (HO.out.lt g hg).1) (World.block_lt_of_cell? _ _ ((ha6.cell (World.block_lt_of_cell? _ _ HBX.out.1)).trans HBX.out.1)) (Nat.le_refl _)).trans ((ha6.cell (World.block_lt_of_cell? _ _ HBX.out.1)).trans HBX.out.1)) ((kept_cell hgrow7 (fun g hg => (HO.out.lt g hg).1) (World.block_lt_of_cell? _ _ ((ha6.cell (World.block_lt_of_cell? _ _ HBX.out.2)).trans HBX.out.2)) (Nat.le_refl _)).trans ((ha6.cell (World.block_lt_of_cell? _ _ HBX.out.2)).trans HBX.out.2)))
            clear hown7 hgrow7 ha6 hx6 ho6 hb
            go_wp2_with fail
            go_roundw
            case rel => exact ⟨k + 1, _, by omega, by go_num, Lib.hid HX.out.symm, ho7, hx7, hc7, hb7⟩
            case measure => simp [intOf]; omega
          · obtain rfl : k = L.length := by omega
            have HX : Hid (mdOut (fun S r => decide (S ∈ T r)) (parts (C : Int)) (r + 1) = q2) := Lib.hid (by rw [HN2.out, hq2.out, List.take_length])
            have HBB2 := Lib.hid (And.intro HB.out (show w.heap.size + 1 ≤ w4.heap.size from World.block_lt_of_cell? _ _ HBX.out.1))
            clear hq2
            go_wp2_with fail
            go_roundw
            case rel => exact ⟨r + 1, _, by omega, by go_num, Lib.hid HX.out.symm, HO, HBX, HBB2⟩
            case measure => simp [intOf]; omega
      · obtain rfl : r = C := by omega
        have HX : Hid (dtL (r : Int) ll m = q) := Lib.hid (by rw [HE.out, hq.out])
        have HO5 := Lib.hid (HO.out.base (B' := w.heap.size) (by omega))
        clear hq
        go_wp2_with fail
        go_ret
        exact ⟨_, rfl, by rw [HX.out]; exact HO5.out, HB.out⟩
end
end Go.Proofs.Ytnbjcelfdppkcab
