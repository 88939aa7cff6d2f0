/- The model's ApproximateDeps, by contract. Conditions: as stated. -/
import Derived.Test.YtlecfkfcjhliiaaGreatMvCm
import Derived.Test.YtlecfkfcjhliiaaGreatWc25
namespace Go.Proofs.YtlecfkfcjhliiaaGreat
open Go.RowKit

theorem apL_len (c : Int) (ll : List (List Int)) (m rows : Int) : (apL c ll m rows).length ≤ 160 := by
  unfold apL
  split
  · rename_i h
    have := isT_bd (fineT_isT h.1)
    exact appD_len (by omega)
  · simp
theorem lowL_def (C : Nat) (ll : List (List Int)) (m rows : Int) (r : Nat) : lowL C ll m rows r = minS (fltTo (appB (C : Int) ll m rows r) (parts (C : Int)) (parts (C : Int)).length) := rfl
theorem fltTo_succ (g : Int → Bool) (ps : List Int) (i : Nat) : fltTo g ps (i + 1) = if g (ps.getD i 0) = true then fltTo g ps i ++ [ps.getD i 0] else fltTo g ps i := rfl
theorem keep3c {w4 w' w'' : World} {p0 p1 p2 : Addr} {v0 v1 v2 : Value} (h : (w'.cell? p0 = some v0 ∧ w'.cell? p1 = some v1 ∧ w'.cell? p2 = some v2) ∧ Below w4.heap.size w4 w') (hb : Below w'.heap.size w' w'') : (w''.cell? p0 = some v0 ∧ w''.cell? p1 = some v1 ∧ w''.cell? p2 = some v2) ∧ Below w4.heap.size w4 w'' :=
  ⟨⟨(hb.cell (World.block_lt_of_cell? _ _ h.1.1)).trans h.1.1, (hb.cell (World.block_lt_of_cell? _ _ h.1.2.1)).trans h.1.2.1, (hb.cell (World.block_lt_of_cell? _ _ h.1.2.2)).trans h.1.2.2⟩, h.2.trans (hb.mono h.2.size)⟩
theorem row_cell {w : World} {B : Nat} {ap : Option Addr} {cap k : Nat} {ps : List Int} (h : OwnI w B (.slice ap ps.length cap) ps) (hk : k < ps.length) : ∃ x, ap = some x ∧ w.cell? (x.add k) = some (.int .i64 (ps.getD k 0)) := by
  obtain ⟨a', cap', hv, hc⟩ := h.read
  cases hv
  obtain ⟨x, e1, e2⟩ := hc k hk
  rw [get_getD ps k hk] at e2
  exact ⟨x, e1, e2⟩
section
set_option maxRecDepth 20000
set_option maxHeartbeats 6400000
theorem approximateDeps_any (c m rows : Int) (v : Value) (ll : List (List Int)) (w : World) (hr : ReadSS w v ll) (hl : ll.length ≤ 1048576) (ht : ∀ i, i < ll.length → (ll.getD i []).length ≤ 1048576) :
    Calls Tryz.prog 20 #[.agg #[.int .i64 c, v], .int .i64 m, .int .i64 rows] w (RetD (apL c ll m rows) w) := by
  obtain ⟨i0, hi, hz0, hz1, hz2⟩ := info_parts info3i
  have HI : Hid (_ ∧ _ ∧ _ ∧ _) := Lib.hid ⟨hi, hz0, hz1, hz2⟩
  clear hi hz0 hz1 hz2
  obtain ⟨j0, hi, hz0, hz1, hz2⟩ := info_parts infoDp
  have HJ : Hid (_ ∧ _ ∧ _ ∧ _) := Lib.hid ⟨hi, hz0, hz1, hz2⟩
  clear hi hz0 hz1 hz2
  have hb1 := (Below.refl w.heap.size w).alloc (Nat.le_refl _) (.cells #[.int .i64 c, v] 26)
  have hb2 := hb1.alloc hb1.size (.cells #[] 37)
  have hb12 := (Below.refl (w.alloc (.cells #[.int .i64 c, v] 26)).heap.size (w.alloc (.cells #[.int .i64 c, v] 26))).alloc (Nat.le_refl _) (.cells #[] 37)
  have HF := Lib.hid (fun w' (hb : Below w.heap.size w w') => l4Fine_any c m v ll w' (hr.kept hb) hl ht)
  have HM := Lib.hid (fun (l q : Int) w' (hb : Below w.heap.size w w') => rowsToRemove_any c m l q v ll w' (hr.kept hb) hl ht)
  have HB2 := Lib.hid hb2
  have ho2 := ownD_new (w.alloc (.cells #[.int .i64 c, v] 26)) (w.heap.size + 1) (by simp)
  rw [World.size_alloc] at ho2
  obtain ⟨c0, c1⟩ := zero2 w 26 (.int .i64 c) v
  replace c0 := (hb12.cell (World.block_lt_of_cell? _ _ c0)).trans c0
  replace c1 := (hb12.cell (World.block_lt_of_cell? _ _ c1)).trans c1
  obtain ⟨a, cap, rfl, -⟩ := hr
  clear hb1 hb2 ht hb12
  cases hf : fineT c ll m with
  | false =>
    have HE : Hid (apL c ll m rows = []) := Lib.hid (by unfold apL; rw [hf, if_neg (fun h => by cases h.1)])
    rw [hf] at HF
    clear hf
    go_enter Tryz.func20, Tryz.ntmps20
    go_wp2_with fail
    refine (HF.out _ HB2.out).mono ?_
    rintro e w1 ⟨rfl, b1⟩
    have hb2 := HB2.out.trans (b1.mono HB2.out.size)
    have ho3 := ho2.below b1 (fun k hk => (ho2.lt k hk).2)
    clear b1 ho2
    go_wp2_with fail
    go_ret
    exact ⟨_, rfl, by rw [HE.out]; exact ho3.base (by omega), hb2⟩
  | true =>
    rw [hf] at HF
    by_cases hneg : rows < 0
    · have HE : Hid (apL c ll m rows = []) := Lib.hid (by unfold apL; rw [if_neg (fun h => absurd h.2 (by omega))])
      clear hf
      go_enter Tryz.func20, Tryz.ntmps20
      go_wp2_with fail
      refine (HF.out _ HB2.out).mono ?_
      rintro e w1 ⟨rfl, b1⟩
      have hb2 := HB2.out.trans (b1.mono HB2.out.size)
      have ho3 := ho2.below b1 (fun k hk => (ho2.lt k hk).2)
      clear b1 ho2
      go_wp2_with fail
      go_ret
      exact ⟨_, rfl, by rw [HE.out]; exact ho3.base (by omega), hb2⟩
    · have hT := fineT_isT hf
      obtain ⟨hc1, hc5, h40⟩ := isT_bd hT
      obtain ⟨C, rfl⟩ : ∃ C : Nat, c = (C : Int) := ⟨c.toNat, by omega⟩
      have HE : Hid (apL (C : Int) ll m rows = mdOut (fun S r => decide (S ∈ lowL C ll m rows r)) (parts (C : Int)) C) := Lib.hid (by unfold apL; rw [if_pos ⟨hf, by omega⟩]; rfl)
      have HP := Lib.hid (partsS_any (C : Int))
      have HSM := Lib.hid (fun S hS => parts_small (C : Int) S hS)
      have hpl := parts_len32 (C := C) (by omega)
      have HLEN := Lib.hid (fun r => mdOut_len (fun S r => decide (S ∈ lowL C ll m rows r)) (parts (C : Int)) r)
      have HLEI := Lib.hid (fun r l0 n => mdIn_len (fun S r => decide (S ∈ lowL C ll m rows r)) (parts (C : Int)) r l0 n)
      have HSI := Lib.hid (fun r l0 i => mdIn_succ (fun S r => decide (S ∈ lowL C ll m rows r)) (parts (C : Int)) r l0 i)
      have HFT := Lib.hid (fun r i => fltTo_succ (appB (C : Int) ll m rows r) (parts (C : Int)) i)
      have HFL := Lib.hid (fun r i => fltTo_len (appB (C : Int) ll m rows r) (parts (C : Int)) i)
      have HLO := Lib.hid (fun (r : Nat) => lowL_def C ll m rows r)
      have HMI := Lib.hid (fun v l w' (hr : ReadI w' v l) hl => minimalSets_any v l w' hr hl)
      have HHA := Lib.hid (fun v l x w' (hr : ReadI w' v l) hl => l2Has_any v l x w' hr hl)
      obtain ⟨ps, hps⟩ : ∃ ps, ps = parts (C : Int) := ⟨_, rfl⟩
      rw [← hps] at HE HP HSM hpl HLEN HLEI HSI HFT HFL HLO
      have hrow : 0 ≤ rows := by omega
      clear hf hT hps
      go_enter Tryz.func20, Tryz.ntmps20
      go_wp2_with fail
      refine (HF.out _ HB2.out).mono ?_
      rintro e w1 ⟨rfl, b1⟩
      have hb2 := HB2.out.trans (b1.mono HB2.out.size)
      have ho3 := ho2.below b1 (fun k hk => (ho2.lt k hk).2)
      replace c0 := (b1.cell (World.block_lt_of_cell? _ _ c0)).trans c0
      replace c1 := (b1.cell (World.block_lt_of_cell? _ _ c1)).trans c1
      clear b1 ho2
      go_wp2_with fail
      refine (HP.out _).mono ?_
      rintro e w2 ⟨vp, rfl, op, b2⟩
      have hb3 := hb2.trans (b2.mono hb2.size)
      have ho4 := ho3.below b2 (fun k hk => (ho3.lt k hk).2)
      replace c0 := (b2.cell (World.block_lt_of_cell? _ _ c0)).trans c0
      replace c1 := (b2.cell (World.block_lt_of_cell? _ _ c1)).trans c1
      have op' := op.base (B' := w.heap.size) hb2.size
      obtain ⟨ap, capp, hvp, -⟩ := op.read
      subst hvp
      have HO := Lib.hid ho4
      have HB := Lib.hid hb3
      have HPS := Lib.hid op'
      have HBX := Lib.hid (And.intro c0 c1)
      clear b2 op ho3 ho4 hb2 hb3 op' c0 c1
      go_wp2_with fail
      go_loopw [7, 9, 10, 11, 12, 13] (fun ov rv _ _ _ _ wr => ∃ (r : Nat) (q : List (Int × Int)), r ≤ C ∧ rv = .int .i64 (r : Int) ∧ Hid (q = mdOut (fun S r => decide (S ∈ lowL C ll m rows r)) ps r) ∧ Hid (OwnD wr (w.heap.size + 1) ov q) ∧ Hid (OwnI wr w.heap.size (.slice ap ps.length capp) ps) ∧ Hid (wr.cell? ⟨w.heap.size, 0, none⟩ = some (.int .i64 (C : Int)) ∧ wr.cell? ⟨w.heap.size, 1, none⟩ = some (.slice a ll.length cap)) ∧ Hid (Below w.heap.size w wr)) (fun _ rv _ _ _ _ _ => C - (intOf rv).toNat)
      case atStart => exact ⟨0, [], by omega, rfl, Lib.hid rfl, HO, HPS, HBX, HB⟩
      case round =>
        clear HO HPS HBX HB
        obtain ⟨r, q, hr, rfl, hq, HO, HPS, HBX, HB⟩ := hrel
        obtain ⟨w3, hw3⟩ : ∃ w', w' = wr := ⟨_, rfl⟩
        rw [← hw3] at HO HPS HBX HB ⊢
        clear hw3
        obtain ⟨c0, c1⟩ := HBX.out
        by_cases hlt : r < C
        · have HSR := Lib.hid (HSI.out r q)
          have HLR := Lib.hid (HLEI.out r q)
          have hql : q.length ≤ 160 := by
            have h := HLEN.out r
            rw [← hq.out] at h
            have : r * ps.length ≤ 5 * 32 := Nat.mul_le_mul (by omega) hpl
            omega
          have HNX : Hid (mdOut (fun S r => decide (S ∈ lowL C ll m rows r)) ps (r + 1) = mdIn (fun S r => decide (S ∈ lowL C ll m rows r)) ps r q ps.length) := Lib.hid (by rw [hq.out]; rfl)
          have HFR := Lib.hid (HFT.out r)
          have HFLR := Lib.hid (HFL.out r)
          have HLOR := Lib.hid (HLO.out r)
          have z0 : (0 : Int) ≤ (r : Int) := by omega
          have z1 : (r : Int) < (C : Int) := by omega
          have hos := ownI_new w3 w3.heap.size (Nat.le_refl _)
          have hbs := (Below.refl w3.heap.size w3).alloc (Nat.le_refl _) (.cells #[] 3)
          have HOS := Lib.hid hos
          have HBS := Lib.hid hbs
          have c0s := (hbs.cell (World.block_lt_of_cell? _ _ c0)).trans c0
          have c1s := (hbs.cell (World.block_lt_of_cell? _ _ c1)).trans c1
          obtain ⟨U7, hU7⟩ : ∃ x, x = u7 := ⟨_, rfl⟩
          rw [← hU7] at HO ⊢
          clear hq hU7 hos hbs
          go_wp2_with fail
          go_loopw [10, 11] (fun ov jv wr => ∃ (k : Nat) (q2 : List Int), k ≤ ps.length ∧ jv = .int .i64 (k : Int) ∧ Hid (q2 = fltTo (appB (C : Int) ll m rows r) ps k) ∧ Hid (OwnI wr w3.heap.size ov q2) ∧ Hid (Below w3.heap.size w3 wr)) (fun _ jv _ => ps.length - (intOf jv).toNat)
          case atStart => exact ⟨0, [], by omega, rfl, Lib.hid rfl, HOS, HBS⟩
          case round =>
            clear HOS HBS c0s c1s c0 c1
            obtain ⟨k, q2, hk, rfl, hq2, HOS, HB3⟩ := hrel
            obtain ⟨w4, hw4⟩ : ∃ w', w' = wr := ⟨_, rfl⟩
            rw [← hw4] at HOS HB3 ⊢
            clear hw4
            have HB4 := Lib.hid (HB.out.trans (HB3.out.mono HB.out.size))
            have c0 := (HB3.out.cell (World.block_lt_of_cell? _ _ HBX.out.1)).trans HBX.out.1
            have c1 := (HB3.out.cell (World.block_lt_of_cell? _ _ HBX.out.2)).trans HBX.out.2
            by_cases hlt2 : k < ps.length
            · obtain ⟨x, rfl, hx⟩ := row_cell HPS.out hlt2
              replace hx := (HB3.out.cell (World.block_lt_of_cell? _ _ hx)).trans hx
              obtain ⟨X, hX, hX32⟩ := HSM.out (ps.getD k 0) (by rw [← get_getD ps k hlt2]; exact List.getElem_mem hlt2)
              have hql2 : q2.length ≤ 1000 := by rw [hq2.out]; have := HFLR.out k; omega
              have hS := HFR.out k
              rw [← hq2.out] at hS
              rw [hX] at hx hS
              have hap : appB (C : Int) ll m rows r (X : Int) = (!bitB X r && decide (remD (C : Int) ll m (X : Int) (r : Int) ≤ rows)) := rfl
              rw [hap] at hS
              have hbit : (bits BinOp.and IntKind.i64 ((X : Int) / 2 ^ r) 1 == 0) = !bitB X r := bit_zero X r
              have z2 : (0 : Int) ≤ (k : Int) := by omega
              have z3 : (k : Int) < (ps.length : Int) := by omega
              clear hX hap
              cases hB : bitB X r with
              | true =>
                rw [hB] at hbit hS
                have HS : Hid (fltTo (appB (C : Int) ll m rows r) ps (k + 1) = q2) := Lib.hid hS
                clear hB hS
                go_wp2_with fail
                go_quiet (fail)
                go_wp2_with fail
                go_roundw
                case rel => exact ⟨k + 1, _, by omega, by go_num, Lib.hid HS.out.symm, Lib.hid (HOS.out.kept (below_drewN (Below.refl w4.heap.size w4) _) (fun k hk => (HOS.out.lt k hk).2)), Lib.hid (below_drewN HB3.out _)⟩
                case measure => simp [intOf]; omega
              | false =>
                rw [hB] at hbit hS
                obtain ⟨d, hd⟩ : ∃ d, d = remD (C : Int) ll m (X : Int) (r : Int) := ⟨_, rfl⟩
                have hQ := HM.out (X : Int) (r : Int)
                rw [← hd] at hQ hS
                have HQ := Lib.hid hQ
                have HB := HB4
                clear hB hQ hd
                by_cases hle : d ≤ rows
                · rw [decide_eq_true hle] at hS
                  have HS : Hid (fltTo (appB (C : Int) ll m rows r) ps (k + 1) = q2 ++ [(X : Int)]) := Lib.hid hS
                  clear hS
                  go_wp2_with fail
                  refine wp_region_noPanic ?_
                  refine wp_region_held_drew (S := (fun w' => (w'.cell? ⟨w.heap.size, 0, none⟩ = some (.int .i64 (C : Int)) ∧ w'.cell? ⟨w.heap.size, 1, none⟩ = some (.slice a ll.length cap) ∧ w'.cell? (x.add k) = some (.int .i64 (X : Int))) ∧ Below w4.heap.size w4 w')) (by kernel_rfl) ?_ (fun hHeld => ?_)
                  · ((try dsimp only); (first | exact keep3c hHeld b91 | exact ⟨⟨c0, c1, hx⟩, (Below.refl _ _).drew⟩))
                  refine wpAnyH_take (i := 0) (v := ?_) rfl (by kernel_rfl) (by kernel_rfl) (by kernel_rfl) (fun _ _ _ h => h) (Or.inl ⟨by rfl, ?_⟩) (by assumption) ?_
                  rotate_left
                  · (intro w hSw; (try dsimp only at hSw); go_simp; (try with_reducible rfl))
                  (try simp only [Act.put, List.getElem_toArray, List.getElem_cons_zero, List.setIfInBounds_toArray, List.set_cons_zero, List.set_cons_succ])
                  refine wpAnyH_take (i := 1) (v := ?_) rfl (by kernel_rfl) (by kernel_rfl) (by kernel_rfl) (fun _ _ _ h => h) (Or.inl ⟨by rfl, ?_⟩) (by assumption) ?_
                  rotate_left
                  · (intro w hSw; (try dsimp only at hSw); go_simp; (try with_reducible rfl))
                  (try simp only [Act.put, List.getElem_toArray, List.getElem_cons_succ, List.getElem_cons_zero, List.setIfInBounds_toArray, List.set_cons_zero, List.set_cons_succ])
                  refine wpAnyH_take (i := 2) (v := ?_) rfl (by kernel_rfl) (by kernel_rfl) (by kernel_rfl) (fun _ _ _ h => h) (Or.inl ⟨by rfl, ?_⟩) (by assumption) ?_
                  rotate_left
                  · (intro w hSw; (try dsimp only at hSw); go_simp; (try with_reducible rfl))
                  (try simp only [Act.put, List.getElem_toArray, List.getElem_cons_succ, List.getElem_cons_zero, List.setIfInBounds_toArray, List.set_cons_zero, List.set_cons_succ])
                  refine wpAnyH_take (i := 3) (v := ?_) rfl (by kernel_rfl) (by kernel_rfl) (by kernel_rfl) (fun _ _ _ h => h) (Or.inl ⟨by rfl, ?_⟩) (by assumption) ?_
                  rotate_left
                  · (intro w hSw; (try dsimp only at hSw); go_simp; (try with_reducible rfl))
                  (try simp only [Act.put, List.getElem_toArray, List.getElem_cons_succ, List.getElem_cons_zero, List.setIfInBounds_toArray, List.set_cons_zero, List.set_cons_succ])
                  refine wpAnyH_take (i := 4) (v := ?_) rfl (by kernel_rfl) (by kernel_rfl) (by kernel_rfl) (fun _ _ _ h => h) (Or.inl ⟨by rfl, ?_⟩) (by assumption) ?_
                  rotate_left
                  · (intro w hSw; (try dsimp only at hSw); go_simp; (try with_reducible rfl))
                  (try simp only [Act.put, List.getElem_toArray, List.getElem_cons_succ, List.getElem_cons_zero, List.setIfInBounds_toArray, List.set_cons_zero, List.set_cons_succ])
                  refine wpAnyH_take (i := 5) (v := ?_) rfl (by kernel_rfl) (by kernel_rfl) (by kernel_rfl) (fun _ _ _ h => h) (Or.inl ⟨by rfl, ?_⟩) (by assumption) ?_
                  rotate_left
                  · (intro w hSw; (try dsimp only at hSw); go_simp; (try with_reducible rfl))
                  (try simp only [Act.put, List.getElem_toArray, List.getElem_cons_succ, List.getElem_cons_zero, List.setIfInBounds_toArray, List.set_cons_zero, List.set_cons_succ])
                  refine wpAnyH_take (i := 6) (v := ?_) rfl (by kernel_rfl) (by kernel_rfl) (by kernel_rfl) (fun _ _ _ h => h) (Or.inl ⟨by rfl, ?_⟩) (by assumption) ?_
                  rotate_left
                  · (intro w hSw; (try dsimp only at hSw); go_simp; (try with_reducible rfl))
                  (try simp only [Act.put, List.getElem_toArray, List.getElem_cons_succ, List.getElem_cons_zero, List.setIfInBounds_toArray, List.set_cons_zero, List.set_cons_succ])
                  refine wpAnyH_take (i := 7) (v := ?_) rfl (by kernel_rfl) (by kernel_rfl) (by kernel_rfl) (fun _ _ _ h => h) (Or.inl ⟨by rfl, ?_⟩) (by assumption) ?_
                  rotate_left
                  · (intro w hSw; (try dsimp only at hSw); go_simp; (try with_reducible rfl))
                  (try simp only [Act.put, List.getElem_toArray, List.getElem_cons_succ, List.getElem_cons_zero, List.setIfInBounds_toArray, List.set_cons_zero, List.set_cons_succ])
                  refine wpAnyH_take (i := 8) (v := ?_) rfl (by kernel_rfl) (by kernel_rfl) (by kernel_rfl) (fun _ _ _ h => h) (Or.inl ⟨by rfl, ?_⟩) (by assumption) ?_
                  rotate_left
                  · (intro w hSw; (try dsimp only at hSw); go_simp; (try with_reducible rfl))
                  (try simp only [Act.put, List.getElem_toArray, List.getElem_cons_succ, List.getElem_cons_zero, List.setIfInBounds_toArray, List.set_cons_zero, List.set_cons_succ])
                  refine wpAnyH_take (i := 9) (v := ?_) rfl (by kernel_rfl) (by kernel_rfl) (by kernel_rfl) (fun _ _ _ h => h) (Or.inl ⟨by rfl, ?_⟩) (by assumption) ?_
                  rotate_left
                  · (intro w hSw; (try dsimp only at hSw); go_simp; (try with_reducible rfl))
                  (try simp only [Act.put, List.getElem_toArray, List.getElem_cons_succ, List.getElem_cons_zero, List.setIfInBounds_toArray, List.set_cons_zero, List.set_cons_succ])
                  refine wpAnyH_take (i := 10) (v := ?_) rfl (by kernel_rfl) (by kernel_rfl) (by kernel_rfl) (fun _ _ _ h => h) (Or.inl ⟨by rfl, ?_⟩) (by assumption) ?_
                  rotate_left
                  · (intro w hSw; (try dsimp only at hSw); go_simp; (try with_reducible rfl))
                  (try simp only [Act.put, List.getElem_toArray, List.getElem_cons_succ, List.getElem_cons_zero, List.setIfInBounds_toArray, List.set_cons_zero, List.set_cons_succ])
                  refine wpAnyH_take (i := 11) (v := ?_) rfl (by kernel_rfl) (by kernel_rfl) (by kernel_rfl) (fun _ _ _ h => h) (Or.inl ⟨by rfl, ?_⟩) (by assumption) ?_
                  rotate_left
                  · (intro w hSw; (try dsimp only at hSw); go_simp; (try with_reducible rfl))
                  (try simp only [Act.put, List.getElem_toArray, List.getElem_cons_succ, List.getElem_cons_zero, List.setIfInBounds_toArray, List.set_cons_zero, List.set_cons_succ])
                  refine wpAnyH_take (i := 12) (v := ?_) rfl (by kernel_rfl) (by kernel_rfl) (by kernel_rfl) (fun _ _ _ h => h) (Or.inl ⟨by rfl, ?_⟩) (by assumption) ?_
                  rotate_left
                  · (intro w hSw; (try dsimp only at hSw); go_simp; (try with_reducible rfl))
                  (try simp only [Act.put, List.getElem_toArray, List.getElem_cons_succ, List.getElem_cons_zero, List.setIfInBounds_toArray, List.set_cons_zero, List.set_cons_succ])
                  refine wpAnyH_take (i := 13) (v := ?_) rfl (by kernel_rfl) (by kernel_rfl) (by kernel_rfl) (fun _ _ _ h => h) (Or.inl ⟨by rfl, ?_⟩) (by assumption) ?_
                  rotate_left
                  · (intro w hSw; (try dsimp only at hSw); go_simp; (try with_reducible rfl))
                  (try simp only [Act.put, List.getElem_toArray, List.getElem_cons_succ, List.getElem_cons_zero, List.setIfInBounds_toArray, List.set_cons_zero, List.set_cons_succ])
                  refine wpAnyH_take (i := 14) (v := ?_) rfl (by kernel_rfl) (by kernel_rfl) (by kernel_rfl) (fun _ _ _ h => h) (Or.inl ⟨by rfl, ?_⟩) (by assumption) ?_
                  rotate_left
                  · (intro w hSw; (try dsimp only at hSw); go_simp; (try with_reducible rfl))
                  (try simp only [Act.put, List.getElem_toArray, List.getElem_cons_succ, List.getElem_cons_zero, List.setIfInBounds_toArray, List.set_cons_zero, List.set_cons_succ])
                  refine wpAnyH_take (i := 15) (v := ?_) rfl (by kernel_rfl) (by kernel_rfl) (by kernel_rfl) (fun _ _ _ h => h) (Or.inl ⟨by rfl, ?_⟩) (by assumption) ?_
                  rotate_left
                  · (intro w hSw; (try dsimp only at hSw); go_simp; (try with_reducible rfl))
                  (try simp only [Act.put, List.getElem_toArray, List.getElem_cons_succ, List.getElem_cons_zero, List.setIfInBounds_toArray, List.set_cons_zero, List.set_cons_succ])
                  refine wpAnyH_take (i := 16) (v := ?_) rfl (by kernel_rfl) (by kernel_rfl) (by kernel_rfl) (fun _ _ _ h => h) (Or.inl ⟨by rfl, ?_⟩) (by assumption) ?_
                  rotate_left
                  · (intro w hSw; (try dsimp only at hSw); go_simp; (try with_reducible rfl))
                  (try simp only [Act.put, List.getElem_toArray, List.getElem_cons_succ, List.getElem_cons_zero, List.setIfInBounds_toArray, List.set_cons_zero, List.set_cons_succ])
                  refine wpAnyH_take (i := 18) (v := ?_) rfl (by kernel_rfl) (by kernel_rfl) (by kernel_rfl) (fun _ _ _ h => h) (Or.inl ⟨by rfl, ?_⟩) (by assumption) ?_
                  rotate_left
                  · (intro w hSw; (try dsimp only at hSw); go_simp; (try with_reducible rfl))
                  (try simp only [Act.put, List.getElem_toArray, List.getElem_cons_succ, List.getElem_cons_zero, List.setIfInBounds_toArray, List.set_cons_zero, List.set_cons_succ])
                  refine wpAnyH_ready (rs := [17]) (by kernel_rfl) (by simp) (AllReadyH.cons rfl (fun K hK => ?_) AllReadyH.nil)
                  (first | ((go_at_call 18; refine (HQ.out _ (HB.out.trans (hHeld.2.mono HB.out.size))).mono ?_; rintro e w91 ⟨rfl, b91⟩)) | (go_simp; (go_at_call 18; refine (HQ.out _ (HB.out.trans (hHeld.2.mono HB.out.size))).mono ?_; rintro e w91 ⟨rfl, b91⟩)))
                  (try (go_wp2_with fail))
                  refine hK.out _ _ ?_ (fun hHeld => ?_)
                  · ((try dsimp only); (first | exact keep3c hHeld b91 | exact ⟨⟨c0, c1, hx⟩, (Below.refl _ _).drew⟩))
                  clear hK K
                  (try simp only [Act.put, List.getElem_toArray, List.getElem_cons_succ, List.getElem_cons_zero, List.setIfInBounds_toArray, List.set_cons_zero, List.set_cons_succ])
                  refine wpAnyH_take (i := 19) (v := ?_) rfl (by kernel_rfl) (by kernel_rfl) (by kernel_rfl) (fun _ _ _ h => h) (Or.inl ⟨by rfl, ?_⟩) (by assumption) ?_
                  rotate_left
                  · (intro w hSw; (try dsimp only at hSw); go_simp; (try with_reducible rfl))
                  (try simp only [Act.put, List.getElem_toArray, List.getElem_cons_succ, List.getElem_cons_zero, List.setIfInBounds_toArray, List.set_cons_zero, List.set_cons_succ])
                  refine wpAnyH_take (i := 20) (v := ?_) rfl (by kernel_rfl) (by kernel_rfl) (by kernel_rfl) (fun _ _ _ h => h) (Or.inl ⟨by rfl, ?_⟩) (by assumption) ?_
                  rotate_left
                  · (intro w hSw; (try dsimp only at hSw); go_simp; (try with_reducible rfl))
                  (try simp only [Act.put, List.getElem_toArray, List.getElem_cons_succ, List.getElem_cons_zero, List.setIfInBounds_toArray, List.set_cons_zero, List.set_cons_succ])
                  refine wpAnyH_done (by kernel_rfl) ?_ _
                  refine NoPanic.normal ?_
                  obtain ⟨w5, hw5⟩ : ∃ w', w' = w91 := ⟨_, rfl⟩
                  rw [← hw5] at hHeld ⊢
                  obtain ⟨⟨c05, c15, hx5⟩, b5⟩ := hHeld
                  clear b91 hw5 c0 c1 hx
                  have ho5 := HOS.out.kept b5 (fun k hk => (HOS.out.lt k hk).2)
                  have hb35 := HB3.out.trans (b5.mono HB3.out.size)
                  have HO5 := Lib.hid ho5
                  clear b5
                  go_wp2_with (at_builtin; refine wpList_append_own _ rfl _ _ 29 rfl w3.heap.size 3 i0 (.int .i64 0) 1 8 Tryz.underlying29 HI.out.1 HI.out.2.1 HI.out.2.2.1 HI.out.2.2.2 rfl (by decide) _ _ _ rfl (World.ownsRow.alloc ho5 _) ⟨w5.heap.size, 0, none⟩ 1 1 [.int .i64 (X : Int)] rfl rfl (cell_one_new _ _ _) (one_i64 _) (by unfold maxLen; omega) (by omega) (le_alloc hb35 (Nat.le_refl _) _) ?_; intro v6 w6 hown6 hgrow6 _)
                  have ho6 := Lib.hid (OwnI.snoc hown6)
                  have hb6 := Lib.hid ((hb35.alloc hb35.size (.cells #[.int .i64 (X : Int)] 3)).grown hgrow6 (by simp; have := hb35.size; omega) (fun k hk => (HO5.out.lt k hk).1))
                  clear hown6 hgrow6 ho5 hb35 c05 c15 hx5
                  go_wp2_with fail
                  go_roundw
                  case rel => exact ⟨k + 1, _, by omega, by go_num, Lib.hid HS.out.symm, ho6, hb6⟩
                  case measure => simp [intOf]; omega
                · rw [decide_eq_false hle] at hS
                  have HS : Hid (fltTo (appB (C : Int) ll m rows r) ps (k + 1) = q2) := Lib.hid hS
                  clear hS
                  go_wp2_with fail
                  refine wp_region_noPanic ?_
                  refine wp_region_held_drew (S := (fun w' => (w'.cell? ⟨w.heap.size, 0, none⟩ = some (.int .i64 (C : Int)) ∧ w'.cell? ⟨w.heap.size, 1, none⟩ = some (.slice a ll.length cap) ∧ w'.cell? (x.add k) = some (.int .i64 (X : Int))) ∧ Below w4.heap.size w4 w')) (by kernel_rfl) ?_ (fun hHeld => ?_)
                  · ((try dsimp only); (first | exact keep3c hHeld b91 | exact ⟨⟨c0, c1, hx⟩, (Below.refl _ _).drew⟩))
                  refine wpAnyH_take (i := 0) (v := ?_) rfl (by kernel_rfl) (by kernel_rfl) (by kernel_rfl) (fun _ _ _ h => h) (Or.inl ⟨by rfl, ?_⟩) (by assumption) ?_
                  rotate_left
                  · (intro w hSw; (try dsimp only at hSw); go_simp; (try with_reducible rfl))
                  (try simp only [Act.put, List.getElem_toArray, List.getElem_cons_zero, List.setIfInBounds_toArray, List.set_cons_zero, List.set_cons_succ])
                  refine wpAnyH_take (i := 1) (v := ?_) rfl (by kernel_rfl) (by kernel_rfl) (by kernel_rfl) (fun _ _ _ h => h) (Or.inl ⟨by rfl, ?_⟩) (by assumption) ?_
                  rotate_left
                  · (intro w hSw; (try dsimp only at hSw); go_simp; (try with_reducible rfl))
                  (try simp only [Act.put, List.getElem_toArray, List.getElem_cons_succ, List.getElem_cons_zero, List.setIfInBounds_toArray, List.set_cons_zero, List.set_cons_succ])
                  refine wpAnyH_take (i := 2) (v := ?_) rfl (by kernel_rfl) (by kernel_rfl) (by kernel_rfl) (fun _ _ _ h => h) (Or.inl ⟨by rfl, ?_⟩) (by assumption) ?_
                  rotate_left
                  · (intro w hSw; (try dsimp only at hSw); go_simp; (try with_reducible rfl))
                  (try simp only [Act.put, List.getElem_toArray, List.getElem_cons_succ, List.getElem_cons_zero, List.setIfInBounds_toArray, List.set_cons_zero, List.set_cons_succ])
                  refine wpAnyH_take (i := 3) (v := ?_) rfl (by kernel_rfl) (by kernel_rfl) (by kernel_rfl) (fun _ _ _ h => h) (Or.inl ⟨by rfl, ?_⟩) (by assumption) ?_
                  rotate_left
                  · (intro w hSw; (try dsimp only at hSw); go_simp; (try with_reducible rfl))
                  (try simp only [Act.put, List.getElem_toArray, List.getElem_cons_succ, List.getElem_cons_zero, List.setIfInBounds_toArray, List.set_cons_zero, List.set_cons_succ])
                  refine wpAnyH_take (i := 4) (v := ?_) rfl (by kernel_rfl) (by kernel_rfl) (by kernel_rfl) (fun _ _ _ h => h) (Or.inl ⟨by rfl, ?_⟩) (by assumption) ?_
                  rotate_left
                  · (intro w hSw; (try dsimp only at hSw); go_simp; (try with_reducible rfl))
                  (try simp only [Act.put, List.getElem_toArray, List.getElem_cons_succ, List.getElem_cons_zero, List.setIfInBounds_toArray, List.set_cons_zero, List.set_cons_succ])
                  refine wpAnyH_take (i := 5) (v := ?_) rfl (by kernel_rfl) (by kernel_rfl) (by kernel_rfl) (fun _ _ _ h => h) (Or.inl ⟨by rfl, ?_⟩) (by assumption) ?_
                  rotate_left
                  · (intro w hSw; (try dsimp only at hSw); go_simp; (try with_reducible rfl))
                  (try simp only [Act.put, List.getElem_toArray, List.getElem_cons_succ, List.getElem_cons_zero, List.setIfInBounds_toArray, List.set_cons_zero, List.set_cons_succ])
                  refine wpAnyH_take (i := 6) (v := ?_) rfl (by kernel_rfl) (by kernel_rfl) (by kernel_rfl) (fun _ _ _ h => h) (Or.inl ⟨by rfl, ?_⟩) (by assumption) ?_
                  rotate_left
                  · (intro w hSw; (try dsimp only at hSw); go_simp; (try with_reducible rfl))
                  (try simp only [Act.put, List.getElem_toArray, List.getElem_cons_succ, List.getElem_cons_zero, List.setIfInBounds_toArray, List.set_cons_zero, List.set_cons_succ])
                  refine wpAnyH_take (i := 7) (v := ?_) rfl (by kernel_rfl) (by kernel_rfl) (by kernel_rfl) (fun _ _ _ h => h) (Or.inl ⟨by rfl, ?_⟩) (by assumption) ?_
                  rotate_left
                  · (intro w hSw; (try dsimp only at hSw); go_simp; (try with_reducible rfl))
                  (try simp only [Act.put, List.getElem_toArray, List.getElem_cons_succ, List.getElem_cons_zero, List.setIfInBounds_toArray, List.set_cons_zero, List.set_cons_succ])
                  refine wpAnyH_take (i := 8) (v := ?_) rfl (by kernel_rfl) (by kernel_rfl) (by kernel_rfl) (fun _ _ _ h => h) (Or.inl ⟨by rfl, ?_⟩) (by assumption) ?_
                  rotate_left
                  · (intro w hSw; (try dsimp only at hSw); go_simp; (try with_reducible rfl))
                  (try simp only [Act.put, List.getElem_toArray, List.getElem_cons_succ, List.getElem_cons_zero, List.setIfInBounds_toArray, List.set_cons_zero, List.set_cons_succ])
                  refine wpAnyH_take (i := 9) (v := ?_) rfl (by kernel_rfl) (by kernel_rfl) (by kernel_rfl) (fun _ _ _ h => h) (Or.inl ⟨by rfl, ?_⟩) (by assumption) ?_
                  rotate_left
                  · (intro w hSw; (try dsimp only at hSw); go_simp; (try with_reducible rfl))
                  (try simp only [Act.put, List.getElem_toArray, List.getElem_cons_succ, List.getElem_cons_zero, List.setIfInBounds_toArray, List.set_cons_zero, List.set_cons_succ])
                  refine wpAnyH_take (i := 10) (v := ?_) rfl (by kernel_rfl) (by kernel_rfl) (by kernel_rfl) (fun _ _ _ h => h) (Or.inl ⟨by rfl, ?_⟩) (by assumption) ?_
                  rotate_left
                  · (intro w hSw; (try dsimp only at hSw); go_simp; (try with_reducible rfl))
                  (try simp only [Act.put, List.getElem_toArray, List.getElem_cons_succ, List.getElem_cons_zero, List.setIfInBounds_toArray, List.set_cons_zero, List.set_cons_succ])
                  refine wpAnyH_take (i := 11) (v := ?_) rfl (by kernel_rfl) (by kernel_rfl) (by kernel_rfl) (fun _ _ _ h => h) (Or.inl ⟨by rfl, ?_⟩) (by assumption) ?_
                  rotate_left
                  · (intro w hSw; (try dsimp only at hSw); go_simp; (try with_reducible rfl))
                  (try simp only [Act.put, List.getElem_toArray, List.getElem_cons_succ, List.getElem_cons_zero, List.setIfInBounds_toArray, List.set_cons_zero, List.set_cons_succ])
                  refine wpAnyH_take (i := 12) (v := ?_) rfl (by kernel_rfl) (by kernel_rfl) (by kernel_rfl) (fun _ _ _ h => h) (Or.inl ⟨by rfl, ?_⟩) (by assumption) ?_
                  rotate_left
                  · (intro w hSw; (try dsimp only at hSw); go_simp; (try with_reducible rfl))
                  (try simp only [Act.put, List.getElem_toArray, List.getElem_cons_succ, List.getElem_cons_zero, List.setIfInBounds_toArray, List.set_cons_zero, List.set_cons_succ])
                  refine wpAnyH_take (i := 13) (v := ?_) rfl (by kernel_rfl) (by kernel_rfl) (by kernel_rfl) (fun _ _ _ h => h) (Or.inl ⟨by rfl, ?_⟩) (by assumption) ?_
                  rotate_left
                  · (intro w hSw; (try dsimp only at hSw); go_simp; (try with_reducible rfl))
                  (try simp only [Act.put, List.getElem_toArray, List.getElem_cons_succ, List.getElem_cons_zero, List.setIfInBounds_toArray, List.set_cons_zero, List.set_cons_succ])
                  refine wpAnyH_take (i := 14) (v := ?_) rfl (by kernel_rfl) (by kernel_rfl) (by kernel_rfl) (fun _ _ _ h => h) (Or.inl ⟨by rfl, ?_⟩) (by assumption) ?_
                  rotate_left
                  · (intro w hSw; (try dsimp only at hSw); go_simp; (try with_reducible rfl))
                  (try simp only [Act.put, List.getElem_toArray, List.getElem_cons_succ, List.getElem_cons_zero, List.setIfInBounds_toArray, List.set_cons_zero, List.set_cons_succ])
                  refine wpAnyH_take (i := 15) (v := ?_) rfl (by kernel_rfl) (by kernel_rfl) (by kernel_rfl) (fun _ _ _ h => h) (Or.inl ⟨by rfl, ?_⟩) (by assumption) ?_
                  rotate_left
                  · (intro w hSw; (try dsimp only at hSw); go_simp; (try with_reducible rfl))
                  (try simp only [Act.put, List.getElem_toArray, List.getElem_cons_succ, List.getElem_cons_zero, List.setIfInBounds_toArray, List.set_cons_zero, List.set_cons_succ])
                  refine wpAnyH_take (i := 16) (v := ?_) rfl (by kernel_rfl) (by kernel_rfl) (by kernel_rfl) (fun _ _ _ h => h) (Or.inl ⟨by rfl, ?_⟩) (by assumption) ?_
                  rotate_left
                  · (intro w hSw; (try dsimp only at hSw); go_simp; (try with_reducible rfl))
                  (try simp only [Act.put, List.getElem_toArray, List.getElem_cons_succ, List.getElem_cons_zero, List.setIfInBounds_toArray, List.set_cons_zero, List.set_cons_succ])
                  refine wpAnyH_take (i := 18) (v := ?_) rfl (by kernel_rfl) (by kernel_rfl) (by kernel_rfl) (fun _ _ _ h => h) (Or.inl ⟨by rfl, ?_⟩) (by assumption) ?_
                  rotate_left
                  · (intro w hSw; (try dsimp only at hSw); go_simp; (try with_reducible rfl))
                  (try simp only [Act.put, List.getElem_toArray, List.getElem_cons_succ, List.getElem_cons_zero, List.setIfInBounds_toArray, List.set_cons_zero, List.set_cons_succ])
                  refine wpAnyH_ready (rs := [17]) (by kernel_rfl) (by simp) (AllReadyH.cons rfl (fun K hK => ?_) AllReadyH.nil)
                  (first | ((go_at_call 18; refine (HQ.out _ (HB.out.trans (hHeld.2.mono HB.out.size))).mono ?_; rintro e w91 ⟨rfl, b91⟩)) | (go_simp; (go_at_call 18; refine (HQ.out _ (HB.out.trans (hHeld.2.mono HB.out.size))).mono ?_; rintro e w91 ⟨rfl, b91⟩)))
                  (try (go_wp2_with fail))
                  refine hK.out _ _ ?_ (fun hHeld => ?_)
                  · ((try dsimp only); (first | exact keep3c hHeld b91 | exact ⟨⟨c0, c1, hx⟩, (Below.refl _ _).drew⟩))
                  clear hK K
                  (try simp only [Act.put, List.getElem_toArray, List.getElem_cons_succ, List.getElem_cons_zero, List.setIfInBounds_toArray, List.set_cons_zero, List.set_cons_succ])
                  refine wpAnyH_take (i := 19) (v := ?_) rfl (by kernel_rfl) (by kernel_rfl) (by kernel_rfl) (fun _ _ _ h => h) (Or.inl ⟨by rfl, ?_⟩) (by assumption) ?_
                  rotate_left
                  · (intro w hSw; (try dsimp only at hSw); go_simp; (try with_reducible rfl))
                  (try simp only [Act.put, List.getElem_toArray, List.getElem_cons_succ, List.getElem_cons_zero, List.setIfInBounds_toArray, List.set_cons_zero, List.set_cons_succ])
                  refine wpAnyH_take (i := 20) (v := ?_) rfl (by kernel_rfl) (by kernel_rfl) (by kernel_rfl) (fun _ _ _ h => h) (Or.inl ⟨by rfl, ?_⟩) (by assumption) ?_
                  rotate_left
                  · (intro w hSw; (try dsimp only at hSw); go_simp; (try with_reducible rfl))
                  (try simp only [Act.put, List.getElem_toArray, List.getElem_cons_succ, List.getElem_cons_zero, List.setIfInBounds_toArray, List.set_cons_zero, List.set_cons_succ])
                  refine wpAnyH_done (by kernel_rfl) ?_ _
                  refine NoPanic.normal ?_
                  obtain ⟨w5, hw5⟩ : ∃ w', w' = w91 := ⟨_, rfl⟩
                  rw [← hw5] at hHeld ⊢
                  obtain ⟨⟨c05, c15, hx5⟩, b5⟩ := hHeld
                  clear b91 hw5 c0 c1 hx
                  have HO5 := Lib.hid (HOS.out.kept b5 (fun k hk => (HOS.out.lt k hk).2))
                  have HB5 := Lib.hid (HB3.out.trans (b5.mono HB3.out.size))
                  clear b5
                  go_wp2_with fail
                  go_roundw
                  case rel => exact ⟨k + 1, _, by omega, by go_num, Lib.hid HS.out.symm, HO5, HB5⟩
                  case measure => simp [intOf]; omega
            · obtain rfl : k = ps.length := by omega
              have hql2 : q2.length ≤ 1048576 := by rw [hq2.out]; have := HFLR.out ps.length; omega
              have HG := Lib.hid (HMI.out u10 q2 w4 HOS.out.read hql2)
              rw [hq2.out, ← HLOR.out] at HG
              clear hql2 hq2
              go_wp2_with fail
              refine HG.out.mono ?_
              rintro e w5 ⟨vl, rfl, ol, b5⟩
              have hb35 := HB3.out.trans (b5.mono HB3.out.size)
              have HOL := Lib.hid (ol.base (B' := w.heap.size) (by have := HB4.out.size; omega))
              obtain ⟨al, capl, hvl, -⟩ := ol.read
              subst hvl
              have HO5 := Lib.hid (HO.out.below hb35 (fun k hk => (HO.out.lt k hk).2))
              have HP5 := Lib.hid (HPS.out.kept hb35 (fun k hk => (HPS.out.lt k hk).2))
              have HX5 := Lib.hid (And.intro ((hb35.cell (World.block_lt_of_cell? _ _ HBX.out.1)).trans HBX.out.1) ((hb35.cell (World.block_lt_of_cell? _ _ HBX.out.2)).trans HBX.out.2))
              have HB5 := Lib.hid (HB.out.trans (hb35.mono HB.out.size))
              have hll : (lowL C ll m rows r).length ≤ 1000000000 := by rw [HLOR.out]; have := minS_len100 (fltTo (appB (C : Int) ll m rows r) ps ps.length); omega
              obtain ⟨low, hlow⟩ : ∃ low, low = lowL C ll m rows r := ⟨_, rfl⟩
              rw [← hlow] at HOL hll ⊢
              have HSR2 : Hid (∀ i, mdIn (fun S r => decide (S ∈ lowL C ll m rows r)) ps r q (i + 1) = if decide (ps.getD i 0 ∈ low) = true then mdIn (fun S r => decide (S ∈ lowL C ll m rows r)) ps r q i ++ [(ps.getD i 0, (r : Int))] else mdIn (fun S r => decide (S ∈ lowL C ll m rows r)) ps r q i) := Lib.hid (fun i => by rw [hlow]; exact HSR.out i)
              clear b5 ol hb35 c0 c1 hlow HOS HB3 HB4 HO HPS HBX HB
              go_wp2_with fail
              go_loopw [7, 13] (fun ov jv wr => ∃ (k : Nat) (q2 : List (Int × Int)), k ≤ ps.length ∧ jv = .int .i64 (k : Int) ∧ Hid (q2 = mdIn (fun S r => decide (S ∈ lowL C ll m rows r)) ps r q k) ∧ Hid (OwnD wr (w.heap.size + 1) ov q2) ∧ Hid (OwnI wr w.heap.size (.slice ap ps.length capp) ps) ∧ Hid (OwnI wr w.heap.size (.slice al low.length capl) low) ∧ Hid (wr.cell? ⟨w.heap.size, 0, none⟩ = some (.int .i64 (C : Int)) ∧ wr.cell? ⟨w.heap.size, 1, none⟩ = some (.slice a ll.length cap)) ∧ Hid (Below w.heap.size w wr)) (fun _ jv _ => ps.length - (intOf jv).toNat)
              case atStart => exact ⟨0, q, by omega, rfl, Lib.hid rfl, HO5, HP5, HOL, HX5, HB5⟩
              case round =>
                clear HO5 HP5 HOL HX5 HB5
                obtain ⟨k, q2, hk, rfl, hq2, HO, HPS, HOL, HBX, HB⟩ := hrel
                obtain ⟨w6, hw6⟩ : ∃ w', w' = wr := ⟨_, rfl⟩
                rw [← hw6] at HO HPS HOL HBX HB ⊢
                clear hw6
                by_cases hlt2 : k < ps.length
                · obtain ⟨x, rfl, hx⟩ := row_cell HPS.out hlt2
                  obtain ⟨X, hX, hX32⟩ := HSM.out (ps.getD k 0) (by rw [← get_getD ps k hlt2]; exact List.getElem_mem hlt2)
                  have hql2 : q2.length ≤ 1000 := by rw [hq2.out]; have := HLR.out k; omega
                  have hS := HSR2.out k
                  rw [← hq2.out] at hS
                  rw [hX] at hx hS
                  have HC := Lib.hid (HHA.out (.slice al low.length capl) low (X : Int) w6 HOL.out.read hll)
                  obtain ⟨bb, hbb⟩ : ∃ bb, bb = decide ((X : Int) ∈ low) := ⟨_, rfl⟩
                  rw [← hbb] at HC hS
                  have z2 : (0 : Int) ≤ (k : Int) := by omega
                  have z3 : (k : Int) < (ps.length : Int) := by omega
                  clear hX hbb
                  cases bb with
                  | true =>
                    rw [if_pos rfl] at hS
                    have HS := Lib.hid hS
                    have ho6 := HO.out
                    clear hS
                    go_wp2_with fail
                    refine HC.out.mono ?_
                    rintro e w' ⟨rfl, rfl⟩
                    go_wp2_with (at_builtin; refine wpList_append_own _ rfl _ _ 31 rfl (w.heap.size + 1) 37 j0 (.agg #[.int .i64 0, .int .i64 0]) 2 16 Tryz.underlying31 HJ.out.1 HJ.out.2.1 HJ.out.2.2.1 HJ.out.2.2.2 rfl (by decide) _ _ _ rfl (World.ownsRow.alloc ho6 _) ⟨w6.heap.size, 0, none⟩ 1 1 [.int .i64 (X : Int), .int .i64 (r : Int)] rfl rfl (cell_two_new _ _ _ _) (two_i64 _ _) (by unfold maxLen; omega) (by omega) (by have := HB.out.size; simp; omega) ?_; intro v7 w7 hown7 hgrow7 _)
                    have ho7 := Lib.hid (OwnD.snoc hown7)
                    have ha6 := (Below.refl w6.heap.size w6).alloc (Nat.le_refl _) (.cells #[.int .i64 (X : Int), .int .i64 (r : Int)] 37)
                    have hb7 := Lib.hid ((HB.out.alloc HB.out.size (.cells #[.int .i64 (X : Int), .int .i64 (r : Int)] 37)).grown hgrow7 (by simp; have := HB.out.size; omega) (fun k hk => by have := (HO.out.lt k hk).1; omega))
                    have hi6 := HPS.out.kept ha6 (fun k hk => (HPS.out.lt k hk).2)
                    have hi7 := Lib.hid (hi6.keptBy hgrow7 (fun g hg => dep_apart (World.ownsRow.alloc HO.out _) hi6 g hg))
                    have hl6 := HOL.out.kept ha6 (fun k hk => (HOL.out.lt k hk).2)
                    have hl7 := Lib.hid (hl6.keptBy hgrow7 (fun g hg => dep_apart (World.ownsRow.alloc HO.out _) hl6 g hg))
                    have c06 := (ha6.cell (World.block_lt_of_cell? _ _ HBX.out.1)).trans HBX.out.1
                    have c16 := (ha6.cell (World.block_lt_of_cell? _ _ HBX.out.2)).trans HBX.out.2
                    have c7 := Lib.hid (And.intro ((kept_cell hgrow7 (fun g hg => (HO.out.lt g hg).1) (World.block_lt_of_cell? _ _ c06) (Nat.le_refl _)).trans c06) ((kept_cell hgrow7 (fun g hg => (HO.out.lt g hg).1) (World.block_lt_of_cell? _ _ c16) (Nat.le_refl _)).trans c16))
                    clear hown7 hgrow7 hi6 hl6 ha6 c06 c16 ho6 hx
                    go_wp2_with fail
                    go_roundw
                    case rel => exact ⟨k + 1, _, by omega, by go_num, Lib.hid HS.out.symm, ho7, hi7, hl7, c7, hb7⟩
                    case measure => simp [intOf]; omega
                  | false =>
                    rw [if_neg (by decide)] at hS
                    have HS := Lib.hid hS
                    clear hS
                    go_wp2_with fail
                    refine HC.out.mono ?_
                    rintro e w' ⟨rfl, rfl⟩
                    go_wp2_with fail
                    go_roundw
                    case rel => exact ⟨k + 1, _, by omega, by go_num, Lib.hid HS.out.symm, HO, HPS, HOL, HBX, HB⟩
                    case measure => simp [intOf]; omega
                · obtain rfl : k = ps.length := by omega
                  have HQ2 := Lib.hid (hq2.out.trans HNX.out.symm)
                  go_wp2_with fail
                  go_roundw
                  case rel => exact ⟨r + 1, _, by omega, by go_num, HQ2, HO, HPS, HBX, HB⟩
                  case measure => simp [intOf]; omega
        · obtain rfl : r = C := by omega
          go_wp2_with fail
          go_ret
          exact ⟨_, rfl, by rw [HE.out, ← hq.out]; exact HO.out.base (by omega), HB.out⟩
end
end Go.Proofs.YtlecfkfcjhliiaaGreat
