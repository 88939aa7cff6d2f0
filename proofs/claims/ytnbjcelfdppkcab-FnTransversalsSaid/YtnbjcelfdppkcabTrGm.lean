/- The model's chapter 9: DepsByTransversals, by contract. Conditions: as stated. -/
import Derived.Test.YtnbjcelfdppkcabTz22
import Derived.Deep.CutBlock
import Derived.Deep.DeepCutAuto
namespace Go.Proofs.Ytnbjcelfdppkcab
open Go.RowKit

theorem difS_len9 (c : Int) (ll : List (List Int)) (m q : Int) : (difS c ll m q).length ≤ (agrS c ll m).length := by
  unfold difS
  split
  · exact difTo_len _ _ _ _
  · exact Nat.zero_le _
section
set_option maxRecDepth 20000
set_option maxHeartbeats 3200000
theorem depsT9_any (c m : Int) (v : Value) (ll : List (List Int)) (w : World) (hr : ReadSS w v ll) (hl : ll.length ≤ 1048576) (ht : ∀ i, i < ll.length → (ll.getD i []).length ≤ 1048576) :
    Calls Try.prog 18 #[.agg #[.int .i64 c, v], .int .i64 m] w (RetD (dtL c ll m) w) := by
  obtain ⟨i0, hi, hz0, hz1, hz2⟩ := info_parts infoDp
  have HI : Hid (_ ∧ _ ∧ _ ∧ _) := Lib.hid ⟨hi, hz0, hz1, hz2⟩
  clear hi hz0 hz1 hz2
  have hb1 := (Below.refl w.heap.size w).alloc (Nat.le_refl _) (.cells #[.int .i64 c, v] 32)
  have hb2 := hb1.alloc hb1.size (.cells #[] 61)
  have hb12 := (Below.refl (w.alloc (.cells #[.int .i64 c, v] 32)).heap.size (w.alloc (.cells #[.int .i64 c, v] 32))).alloc (Nat.le_refl _) (.cells #[] 61)
  have HF := Lib.hid (fun w' (hb : Below w.heap.size w w') => l4Fine_any c m v ll w' (hr.kept hb) hl ht)
  have HDS := Lib.hid (fun (q : Int) w' (hb : Below w.heap.size w w') => differenceSets_any c m q v ll w' (hr.kept hb) hl ht)
  have HTR := Lib.hid (fun (v : Value) (E : List Int) w' (h : ReadI w' v E) (hl : E.length ≤ 1048576) => trans9_any v E c w' h hl)
  have HHS := Lib.hid (fun (v : Value) (l : List Int) (x : Int) w' (h : ReadI w' v l) (hl : l.length ≤ 1000000000) => l2Has_any v l x w' h hl)
  have HB2 := Lib.hid hb2
  have ho2 := ownD_new (w.alloc (.cells #[.int .i64 c, v] 32)) (w.heap.size + 1) (by simp)
  rw [World.size_alloc] at ho2
  obtain ⟨c0, c1⟩ := zero2 w 32 (.int .i64 c) v
  replace c0 := (hb12.cell (World.block_lt_of_cell? _ _ c0)).trans c0
  replace c1 := (hb12.cell (World.block_lt_of_cell? _ _ c1)).trans c1
  obtain ⟨a, cap, rfl, -⟩ := hr
  clear hb1 hb2 ht hb12
  cases hf : fineT c ll m with
  | false =>
    have HE : Hid (dtL c ll m = []) := Lib.hid (by unfold dtL; rw [hf]; rfl)
    rw [hf] at HF
    clear hf
    go_enter Try.func18, Try.ntmps18
    go_wp2_with fail
    refine (HF.out _ HB2.out).mono ?_
    rintro e w1 ⟨rfl, b1⟩
    have hb2 := HB2.out.trans (b1.mono HB2.out.size)
    have ho3 := ho2.below b1 (fun k hk => (ho2.lt k hk).2)
    clear b1 ho2
    go_wp2_with fail
    go_ret
    exact ⟨_, rfl, by rw [HE.out]; exact ho3.base (by omega), hb2⟩
  | true =>
    rw [hf] at HF
    have hT := fineT_isT hf
    obtain ⟨hc1, hc5, h40⟩ := isT_bd hT
    obtain ⟨C, rfl⟩ : ∃ C : Nat, c = (C : Int) := ⟨c.toNat, by omega⟩
    have HE : Hid (dtL (C : Int) ll m = mdOut (fun S r => decide (S ∈ trL (difS (C : Int) ll m ((r : Nat) : Int)) (C : Int))) (parts (C : Int)) C) := Lib.hid (by unfold dtL; rw [if_pos hf]; rfl)
    have HDL : Hid (∀ q : Int, (difS (C : Int) ll m q).length ≤ 1048576) := Lib.hid (fun q => by
      have h1 := difS_len9 (C : Int) ll m q
      have h2 : (agrS (C : Int) ll m).length ≤ 32 := asc_len (agrS_asc9 _ _ _) fun y hy => by
        obtain ⟨a, b, -, -, rfl⟩ := (agrS_mem9 hf (by omega) y).1 hy
        exact val_nat (agX_eq (by omega) ll m a b).2.2.1
      omega)
    have HXL : Hid (∀ q : Int, (trL (difS (C : Int) ll m q) (C : Int)).length ≤ 1000000000) := Lib.hid (fun q => by
      unfold trL
      split
      · have := trTo_len (difS (C : Int) ll m q) (difS (C : Int) ll m q).length; omega
      · exact Nat.zero_le _)
    have HP := Lib.hid (partsS_any (C : Int))
    have hpl := parts_len32 (C := C) (by omega)
    have HLEN := Lib.hid (fun r => mdOut_len (fun S r => decide (S ∈ trL (difS (C : Int) ll m ((r : Nat) : Int)) (C : Int))) (parts (C : Int)) r)
    have HLEI := Lib.hid (fun r l0 n => mdIn_len (fun S r => decide (S ∈ trL (difS (C : Int) ll m ((r : Nat) : Int)) (C : Int))) (parts (C : Int)) r l0 n)
    have HSI := Lib.hid (fun r l0 i => mdIn_succ (fun S r => decide (S ∈ trL (difS (C : Int) ll m ((r : Nat) : Int)) (C : Int))) (parts (C : Int)) r l0 i)
    obtain ⟨ps, hps⟩ : ∃ ps, ps = parts (C : Int) := ⟨_, rfl⟩
    rw [← hps] at HE HP hpl HLEN HLEI HSI
    clear hf hT hps
    go_enter Try.func18, Try.ntmps18
    go_wp2_with fail
    refine (HF.out _ HB2.out).mono ?_
    rintro e w1 ⟨rfl, b1⟩
    have hb2 := HB2.out.trans (b1.mono HB2.out.size)
    have ho3 := ho2.below b1 (fun k hk => (ho2.lt k hk).2)
    replace c0 := (b1.cell (World.block_lt_of_cell? _ _ c0)).trans c0
    replace c1 := (b1.cell (World.block_lt_of_cell? _ _ c1)).trans c1
    clear b1 ho2
    go_wp2_with fail
    refine (HP.out _).mono ?_
    rintro e w2 ⟨vp, rfl, op, b2⟩
    have hb3 := hb2.trans (b2.mono hb2.size)
    have ho4 := ho3.below b2 (fun k hk => (ho3.lt k hk).2)
    replace c0 := (b2.cell (World.block_lt_of_cell? _ _ c0)).trans c0
    replace c1 := (b2.cell (World.block_lt_of_cell? _ _ c1)).trans c1
    have op' := op.base (B' := w.heap.size) hb2.size
    obtain ⟨ap, capp, hvp, -⟩ := op.read
    subst hvp
    have HO := Lib.hid ho4
    have HB := Lib.hid hb3
    have HPS := Lib.hid op'
    have HBX := Lib.hid (And.intro c0 c1)
    clear b2 op ho3 ho4 hb2 hb3 op' c0 c1
    go_wp2_with fail
    go_loopw [5, 7] (fun ov rv wr => ∃ (r : Nat) (q : List (Int × Int)), r ≤ C ∧ rv = .int .i64 (r : Int) ∧ Hid (q = mdOut (fun S r => decide (S ∈ trL (difS (C : Int) ll m ((r : Nat) : Int)) (C : Int))) ps r) ∧ Hid (OwnD wr (w.heap.size + 1) ov q) ∧ Hid (OwnI wr w.heap.size (.slice ap ps.length capp) ps) ∧ Hid (wr.cell? ⟨w.heap.size, 0, none⟩ = some (.int .i64 (C : Int)) ∧ wr.cell? ⟨w.heap.size, 1, none⟩ = some (.slice a ll.length cap)) ∧ Hid (Below w.heap.size w wr)) (fun _ rv _ => C - (intOf rv).toNat)
    case atStart => exact ⟨0, [], by omega, rfl, Lib.hid rfl, HO, HPS, HBX, HB⟩
    case round =>
      clear HO HPS HBX HB
      obtain ⟨r, q, hr, rfl, hq, HO, HPS, HBX, HB⟩ := hrel
      obtain ⟨w3, hw3⟩ : ∃ w', w' = wr := ⟨_, rfl⟩
      rw [← hw3] at HO HPS HBX HB ⊢
      clear hw3
      obtain ⟨c0, c1⟩ := HBX.out
      by_cases hlt : r < C
      · have HSR := Lib.hid (HSI.out r q)
        have HLR := Lib.hid (HLEI.out r q)
        have hql : q.length ≤ 160 := by
          have h := HLEN.out r
          rw [← hq.out] at h
          have : r * ps.length ≤ 5 * 32 := Nat.mul_le_mul (by omega) hpl
          omega
        have HNX : Hid (mdOut (fun S r => decide (S ∈ trL (difS (C : Int) ll m ((r : Nat) : Int)) (C : Int))) ps (r + 1) = mdIn (fun S r => decide (S ∈ trL (difS (C : Int) ll m ((r : Nat) : Int)) (C : Int))) ps r q ps.length) := Lib.hid (by rw [hq.out]; rfl)
        have hdl := HDL.out (r : Int)
        have HXR := Lib.hid (HXL.out (r : Int))
        obtain ⟨ov0, hov⟩ : ∃ x, x = u5 := ⟨_, rfl⟩
        rw [← hov] at HO ⊢
        have z0 : (0 : Int) ≤ (r : Int) := by omega
        have z1 : (r : Int) < (C : Int) := by omega
        clear hov hq
        go_upto_region 8 with fail
        refine wp_region_noPanic ?_
        refine wp_region_held_drew (S := (fun w' => (w'.cell? ⟨w.heap.size, 0, none⟩ = some (.int .i64 (C : Int)) ∧ w'.cell? ⟨w.heap.size, 1, none⟩ = some (.slice a ll.length cap)) ∧ Below w3.heap.size w3 w')) (by kernel_rfl) ?_ (fun hHeld => ?_)
        · ((try dsimp only); exact ⟨⟨c0, c1⟩, (Below.refl _ _).drew⟩)
        refine wpAnyH_take (i := 0) (v := ?_) rfl (by kernel_rfl) (by kernel_rfl) (by kernel_rfl) (fun _ _ _ h => h) (Or.inl ⟨by rfl, ?_⟩) (by assumption) ?_
        rotate_left
        · (intro w hSw; (try dsimp only at hSw); go_simp; (try with_reducible rfl))
        (try simp only [Act.put, List.getElem_toArray, List.getElem_cons_zero, List.setIfInBounds_toArray, List.set_cons_zero, List.set_cons_succ])
        refine wpAnyH_take (i := 1) (v := ?_) rfl (by kernel_rfl) (by kernel_rfl) (by kernel_rfl) (fun _ _ _ h => h) (Or.inl ⟨by rfl, ?_⟩) (by assumption) ?_
        rotate_left
        · (intro w hSw; (try dsimp only at hSw); go_simp; (try with_reducible rfl))
        (try simp only [Act.put, List.getElem_toArray, List.getElem_cons_succ, List.getElem_cons_zero, List.setIfInBounds_toArray, List.set_cons_zero, List.set_cons_succ])
        refine wpAnyH_take (i := 2) (v := ?_) rfl (by kernel_rfl) (by kernel_rfl) (by kernel_rfl) (fun _ _ _ h => h) (Or.inl ⟨by rfl, ?_⟩) (by assumption) ?_
        rotate_left
        · (intro w hSw; (try dsimp only at hSw); go_simp; (try with_reducible rfl))
        (try simp only [Act.put, List.getElem_toArray, List.getElem_cons_succ, List.getElem_cons_zero, List.setIfInBounds_toArray, List.set_cons_zero, List.set_cons_succ])
        refine wpAnyH_take (i := 4) (v := ?_) rfl (by kernel_rfl) (by kernel_rfl) (by kernel_rfl) (fun _ _ _ h => h) (Or.inl ⟨by rfl, ?_⟩) (by assumption) ?_
        rotate_left
        · (intro w hSw; (try dsimp only at hSw); go_simp; (try with_reducible rfl))
        (try simp only [Act.put, List.getElem_toArray, List.getElem_cons_succ, List.getElem_cons_zero, List.setIfInBounds_toArray, List.set_cons_zero, List.set_cons_succ])
        refine wpAnyH_take (i := 5) (v := ?_) rfl (by kernel_rfl) (by kernel_rfl) (by kernel_rfl) (fun _ _ _ h => h) (Or.inl ⟨by rfl, ?_⟩) (by assumption) ?_
        rotate_left
        · (intro w hSw; (try dsimp only at hSw); go_simp; (try with_reducible rfl))
        (try simp only [Act.put, List.getElem_toArray, List.getElem_cons_succ, List.getElem_cons_zero, List.setIfInBounds_toArray, List.set_cons_zero, List.set_cons_succ])
        refine wpAnyH_ready (rs := [3]) (by kernel_rfl) (by simp) (AllReadyH.cons rfl (fun K hK => ?_) AllReadyH.nil)
        (first | (go_at_call 44; refine (HDS.out (r : Int) _ (HB.out.trans (hHeld.2.mono HB.out.size))).mono ?_; rintro e w91 ⟨v91, rfl, o91, b91⟩; have R91 := Lib.hid o91.read) | (go_simp; go_at_call 44; refine (HDS.out (r : Int) _ (HB.out.trans (hHeld.2.mono HB.out.size))).mono ?_; rintro e w91 ⟨v91, rfl, o91, b91⟩; have R91 := Lib.hid o91.read))
        (try (go_wp2_with fail))
        refine hK.out _ _ ?_ (fun hHeld => ?_)
        · ((try dsimp only); exact ⟨⟨(b91.cell (World.block_lt_of_cell? _ _ hHeld.1.1)).trans hHeld.1.1, (b91.cell (World.block_lt_of_cell? _ _ hHeld.1.2)).trans hHeld.1.2⟩, hHeld.2.trans (b91.mono hHeld.2.size)⟩)
        clear hK K
        (try simp only [Act.put, List.getElem_toArray, List.getElem_cons_succ, List.getElem_cons_zero, List.setIfInBounds_toArray, List.set_cons_zero, List.set_cons_succ])
        refine wpAnyH_ready (rs := [6]) (by kernel_rfl) (by simp) (AllReadyH.cons rfl (fun K hK => ?_) AllReadyH.nil)
        (first | (go_at_call 8; refine (HTR.out _ _ _ R91.out hdl).mono ?_; rintro e w92 ⟨v92, rfl, o92, b92⟩; have HX92 := Lib.hid (o92.base (B' := w.heap.size) (Nat.le_trans HB.out.size hHeld.2.size))) | (go_simp; go_at_call 8; refine (HTR.out _ _ _ R91.out hdl).mono ?_; rintro e w92 ⟨v92, rfl, o92, b92⟩; have HX92 := Lib.hid (o92.base (B' := w.heap.size) (Nat.le_trans HB.out.size hHeld.2.size))))
        (try (go_wp2_with fail))
        refine hK.out _ _ ?_ (fun hHeld => ?_)
        · ((try dsimp only); exact ⟨⟨(b92.cell (World.block_lt_of_cell? _ _ hHeld.1.1)).trans hHeld.1.1, (b92.cell (World.block_lt_of_cell? _ _ hHeld.1.2)).trans hHeld.1.2⟩, hHeld.2.trans (b92.mono hHeld.2.size)⟩)
        clear hK K
        (try simp only [Act.put, List.getElem_toArray, List.getElem_cons_succ, List.getElem_cons_zero, List.setIfInBounds_toArray, List.set_cons_zero, List.set_cons_succ])
        refine wpAnyH_take (i := 7) (v := ?_) rfl (by kernel_rfl) (by kernel_rfl) (by kernel_rfl) (fun _ _ _ h => h) (Or.inl ⟨by rfl, ?_⟩) (by assumption) ?_
        rotate_left
        · (intro w hSw; (try dsimp only at hSw); go_simp; (try with_reducible rfl))
        (try simp only [Act.put, List.getElem_toArray, List.getElem_cons_succ, List.getElem_cons_zero, List.setIfInBounds_toArray, List.set_cons_zero, List.set_cons_succ])
        refine wpAnyH_done (by kernel_rfl) ?_ _
        refine NoPanic.normal ?_
        have HO3 := Lib.hid (HO.out.below hHeld.2 (fun k hk => (HO.out.lt k hk).2))
        have HP3 := Lib.hid (HPS.out.kept hHeld.2 (fun k hk => (HPS.out.lt k hk).2))
        have HB3 := Lib.hid (HB.out.trans (hHeld.2.mono HB.out.size))
        have HBX3 := Lib.hid hHeld.1
        obtain ⟨ax, cx, rfl, -⟩ := HX92.out.read
        obtain ⟨xs, hxs⟩ : ∃ xs, xs = trL (difS (C : Int) ll m (r : Int)) (C : Int) := ⟨_, rfl⟩
        rw [← hxs] at HX92 HXR ⊢
        have HSX : Hid (∀ l0 i, mdIn (fun S r => decide (S ∈ trL (difS (C : Int) ll m ((r : Nat) : Int)) (C : Int))) ps r l0 (i + 1) = if decide (ps.getD i 0 ∈ xs) = true then mdIn (fun S r => decide (S ∈ trL (difS (C : Int) ll m ((r : Nat) : Int)) (C : Int))) ps r l0 i ++ [(ps.getD i 0, (r : Int))] else mdIn (fun S r => decide (S ∈ trL (difS (C : Int) ll m ((r : Nat) : Int)) (C : Int))) ps r l0 i) := Lib.hid (fun l0 i => by rw [hxs]; exact HSI.out r l0 i)
        clear hHeld o91 b91 o92 b92 HO HPS HB HBX c0 c1 hxs
        go_wp2_with fail
        go_loopw [5, 9] (fun ov jv wr => ∃ (k : Nat) (q2 : List (Int × Int)), k ≤ ps.length ∧ jv = .int .i64 (k : Int) ∧ Hid (q2 = mdIn (fun S r => decide (S ∈ trL (difS (C : Int) ll m ((r : Nat) : Int)) (C : Int))) ps r q k) ∧ Hid (OwnD wr (w.heap.size + 1) ov q2) ∧ Hid (OwnI wr w.heap.size (.slice ap ps.length capp) ps) ∧ Hid (OwnI wr w.heap.size (.slice ax xs.length cx) xs) ∧ Hid (wr.cell? ⟨w.heap.size, 0, none⟩ = some (.int .i64 (C : Int)) ∧ wr.cell? ⟨w.heap.size, 1, none⟩ = some (.slice a ll.length cap)) ∧ Hid (Below w.heap.size w wr)) (fun _ jv _ => ps.length - (intOf jv).toNat)
        case atStart => exact ⟨0, q, by omega, rfl, Lib.hid rfl, HO3, HP3, HX92, HBX3, HB3⟩
        case round =>
          clear HO3 HP3 HX92 HBX3 HB3
          obtain ⟨k, q2, hk, rfl, hq2, HO, HPS, HXS, HBX, HB⟩ := hrel
          obtain ⟨w4, hw4⟩ : ∃ w', w' = wr := ⟨_, rfl⟩
          rw [← hw4] at HO HPS HXS HBX HB ⊢
          clear hw4
          by_cases hlt2 : k < ps.length
          · obtain ⟨x, rfl, hx⟩ : ∃ x, ap = some x ∧ w4.cell? (x.add k) = some (.int .i64 (ps.getD k 0)) := by
              obtain ⟨a', cap', hv, hc⟩ := HPS.out.read
              cases hv
              obtain ⟨x, e1, e2⟩ := hc k hlt2
              rw [get_getD ps k hlt2] at e2
              exact ⟨x, e1, e2⟩
            have hql2 : q2.length ≤ 1000 := by rw [hq2.out]; have := HLR.out k; omega
            have hS := HSX.out q k
            rw [← hq2.out] at hS
            obtain ⟨X, hX⟩ : ∃ X, X = ps.getD k 0 := ⟨_, rfl⟩
            rw [← hX] at hx hS
            have HC := Lib.hid (HHS.out (.slice ax xs.length cx) xs X w4 HXS.out.read HXR.out)
            obtain ⟨bb, hbb⟩ : ∃ bb, bb = decide (X ∈ xs) := ⟨_, rfl⟩
            rw [← hbb] at HC hS
            have HS := Lib.hid hS
            have z2 : (0 : Int) ≤ (k : Int) := by omega
            have z3 : (k : Int) < (ps.length : Int) := by omega
            clear hX hbb hS
            cases bb with
            | true =>
              rw [if_pos rfl] at HS
              go_wp2_with fail
              refine HC.out.mono ?_
              rintro e w' ⟨rfl, rfl⟩
              have ho6 := HO.out
              go_wp2_with (at_builtin; refine wpList_append_own _ rfl _ _ 36 rfl (w.heap.size + 1) 61 i0 (.agg #[.int .i64 0, .int .i64 0]) 2 16 Try.underlying36 HI.out.1 HI.out.2.1 HI.out.2.2.1 HI.out.2.2.2 rfl (by decide) _ _ _ rfl (World.ownsRow.alloc ho6 _) ⟨w4.heap.size, 0, none⟩ 1 1 [.int .i64 X, .int .i64 (r : Int)] rfl rfl (cell_two_new _ _ _ _) (two_i64 _ _) (by unfold maxLen; omega) (by omega) (by have := HB.out.size; have := World.block_lt_of_cell? _ _ HBX.out.1; simp at this; simp; omega) ?_; intro v7 w7 hown7 hgrow7 _)
              have ho7 := Lib.hid (OwnD.snoc hown7)
              have ha6 := (Below.refl w4.heap.size w4).alloc (Nat.le_refl _) (.cells #[.int .i64 X, .int .i64 (r : Int)] 61)
              have hb7 := Lib.hid ((HB.out.alloc HB.out.size (.cells #[.int .i64 X, .int .i64 (r : Int)] 61)).grown hgrow7 (by simp; have := HB.out.size; omega) (fun k hk => by have := (HO.out.lt k hk).1; omega))
              have hi6 := HPS.out.kept ha6 (fun k hk => (HPS.out.lt k hk).2)
              have hi7 := Lib.hid (hi6.keptBy hgrow7 (fun g hg => dep_apart (World.ownsRow.alloc HO.out _) hi6 g hg))
              have hx6 := HXS.out.kept ha6 (fun k hk => (HXS.out.lt k hk).2)
              have hx7 := Lib.hid (hx6.keptBy hgrow7 (fun g hg => dep_apart (World.ownsRow.alloc HO.out _) hx6 g hg))
              have c7 := Lib.hid (And.intro ((kept_cell hgrow7 (fun g hg => (HO.out.lt g hg).1) (World.block_lt_of_cell? _ _ ((ha6.cell (World.block_lt_of_cell? _ _ HBX.out.1)).trans HBX.out.1)) (Nat.le_refl _)).trans ((ha6.cell (World.block_lt_of_cell? _ _ HBX.out.1)).trans HBX.out.1)) ((kept_cell hgrow7 (fun g hg => (HO.out.lt g hg).1) (World.block_lt_of_cell? _ _ ((ha6.cell (World.block_lt_of_cell? _ _ HBX.out.2)).trans HBX.out.2)) (Nat.le_refl _)).trans ((ha6.cell (World.block_lt_of_cell? _ _ HBX.out.2)).trans HBX.out.2)))
              clear hown7 hgrow7 hi6 hx6 ha6 ho6 hx
              go_wp2_with fail
              go_roundw
              case rel => exact ⟨k + 1, _, by omega, by go_num, Lib.hid (by rw [HS.out]), ho7, hi7, hx7, c7, hb7⟩
              case measure => simp [intOf]; omega
            | false =>
              rw [if_neg (by decide)] at HS
              go_wp2_with fail
              refine HC.out.mono ?_
              rintro e w' ⟨rfl, rfl⟩
              go_wp2_with fail
              go_roundw
              case rel => exact ⟨k + 1, _, by omega, by go_num, Lib.hid (by rw [HS.out]), HO, HPS, HXS, HBX, HB⟩
              case measure => simp [intOf]; omega
          · obtain rfl : k = ps.length := by omega
            have HQ2 := Lib.hid (hq2.out.trans HNX.out.symm)
            go_wp2_with fail
            go_roundw
            case rel => exact ⟨r + 1, _, by omega, by go_num, HQ2, HO, HPS, HBX, HB⟩
            case measure => simp [intOf]; omega
      · obtain rfl : r = C := by omega
        go_wp2_with fail
        go_ret
        exact ⟨_, rfl, by rw [HE.out, ← hq.out]; exact HO.out.base (by omega), HB.out⟩
end
end Go.Proofs.Ytnbjcelfdppkcab
