/- The model's ViolatedBorder and MinimalKeys, by contract. Conditions: as stated. -/
import Derived.Test.YtlecfkfcjhliiaaGreatWc30
import Derived.Test.YtlecfkfcjhliiaaGreatWc42
namespace Go.Proofs.YtlecfkfcjhliiaaGreat
open Go.RowKit

theorem brdTo_succ (g : Nat → Bool) (x : Nat) : brdTo g (x + 1) = if g x = true then brdTo g x ++ [(x : Int)] else brdTo g x := rfl
theorem ownI_new (w : World) (B : Nat) (hB : B ≤ w.heap.size) : OwnI (w.alloc (.cells #[] 3)) B (.slice (some ⟨w.heap.size, 0, none⟩) 0 0) [] := World.ownsRow_made w #[] 0 hB (by unfold maxLen; omega) rfl
theorem maxS_nil : maxS [] = [] := rfl
theorem pow_pred {C : Nat} (hC : C ≤ 5) : ∃ M : Nat, M + 1 = 2 ^ C ∧ M ≤ 31 ∧ ((2 : Int) ^ C - 1) = (M : Int) := by
  have h32 := two5 hC
  have : 0 < 2 ^ C := Nat.pow_pos (by omega)
  refine ⟨2 ^ C - 1, by omega, by omega, ?_⟩
  have h3 : ((2 ^ C : Nat) : Int) = (2 : Int) ^ C := by rw [Int.natCast_pow]; rfl
  omega
theorem vbL_len (c : Int) (ll : List (List Int)) (m q : Int) : (vbL c ll m q).length ≤ 100 := by
  unfold vbL
  split
  · rename_i h
    have := isT_bd (fineT_isT h.1)
    have h32 := two5 (C := c.toNat) (by omega)
    unfold brdL maxS
    rw [if_pos (brdTo_ok _ h32)]
    have h1 := mxTo_len (brdTo (fun x => !bitB x q.toNat && !h7 c.toNat ll m x q.toNat) (2 ^ c.toNat)) (brdTo (fun x => !bitB x q.toNat && !h7 c.toNat ll m x q.toNat) (2 ^ c.toNat)).length
    have h2 := brdTo_len (fun x => !bitB x q.toNat && !h7 c.toNat ll m x q.toNat) (2 ^ c.toNat)
    omega
  · simp
theorem mnTo_len' (l : List Int) (i : Nat) : (mnTo l i).length ≤ i := by
  induction i with
  | zero => simp [mnTo]
  | succ i ih => have := put4_len (mnTo l i) (l.getD i 0); unfold mnTo; split <;> omega
theorem minS_len100 (l : List Int) : (minS l).length ≤ 100 := by
  unfold minS
  split
  · rename_i h
    have h1 := mnTo_len' l l.length
    unfold setsOk at h
    rw [Bool.and_eq_true, decide_eq_true_iff] at h
    omega
  · simp
theorem mkL_len (c : Int) (ll : List (List Int)) (m : Int) : (mkL c ll m).length ≤ 100 := minS_len100 _
section
set_option maxRecDepth 20000
set_option maxHeartbeats 3200000
theorem violatedBorder_any (c m r : Int) (v : Value) (ll : List (List Int)) (w : World) (hr : ReadSS w v ll) (hl : ll.length ≤ 1048576) (ht : ∀ i, i < ll.length → (ll.getD i []).length ≤ 1048576) :
    Calls Tryz.prog 9 #[.agg #[.int .i64 c, v], .int .i64 m, .int .i64 r] w (RetI (vbL c ll m r) w) := by
  obtain ⟨i0, hi, hz0, hz1, hz2⟩ := info_parts info3i
  have HI : Hid (_ ∧ _ ∧ _ ∧ _) := Lib.hid ⟨hi, hz0, hz1, hz2⟩
  clear hi hz0 hz1 hz2
  have hb1 := (Below.refl w.heap.size w).alloc (Nat.le_refl _) (.cells #[.int .i64 c, v] 26)
  have hb2 := hb1.alloc hb1.size (.cells #[] 3)
  have hb12 := (Below.refl (w.alloc (.cells #[.int .i64 c, v] 26)).heap.size (w.alloc (.cells #[.int .i64 c, v] 26))).alloc (Nat.le_refl _) (.cells #[] 3)
  have HF := Lib.hid (fun w' (hb : Below w.heap.size w w') => l4Fine_any c m v ll w' (hr.kept hb) hl ht)
  have HH := Lib.hid (fun (L R : Nat) w' (hb : Below w.heap.size w w') hT (hR : R < 5) => l7Holds_any c m L R v ll w' (hr.kept hb) hT hR)
  have HIN := Lib.hid (fun w' => in_any r 0 (c - 1) w')
  have HB2 := Lib.hid hb2
  have ho2 := ownI_new (w.alloc (.cells #[.int .i64 c, v] 26)) (w.heap.size + 1) (by simp)
  rw [World.size_alloc] at ho2
  obtain ⟨c0, c1⟩ := zero2 w 26 (.int .i64 c) v
  replace c0 := (hb12.cell (World.block_lt_of_cell? _ _ c0)).trans c0
  replace c1 := (hb12.cell (World.block_lt_of_cell? _ _ c1)).trans c1
  obtain ⟨a, cap, rfl, -⟩ := hr
  clear hb1 hb2 ht hb12
  cases hf : fineT c ll m with
  | false =>
    have HE : Hid (vbL c ll m r = []) := Lib.hid (by unfold vbL; rw [hf, if_neg (fun h => by cases h.1)])
    rw [hf] at HF
    clear hf
    go_enter Tryz.func9, Tryz.ntmps9
    go_wp2_with fail
    refine (HF.out _ HB2.out).mono ?_
    rintro e w1 ⟨rfl, b1⟩
    have hb2 := HB2.out.trans (b1.mono HB2.out.size)
    have ho3 := ho2.kept b1 (fun k hk => (ho2.lt k hk).2)
    clear b1 ho2
    go_wp2_with fail
    go_ret
    exact ⟨_, rfl, by rw [HE.out]; exact ho3.base (by omega), hb2⟩
  | true =>
    rw [hf] at HF
    have hT := fineT_isT hf
    obtain ⟨hc1, hc5, h40⟩ := isT_bd hT
    have hcw : IntKind.i64.wrap (c - 1) = c - 1 := IntWalk.i64_in _ (by omega)
    by_cases hrc : 0 ≤ r ∧ r ≤ c - 1
    · rw [decide_eq_true hrc] at HIN
      obtain ⟨C, rfl⟩ : ∃ C : Nat, c = (C : Int) := ⟨c.toNat, by omega⟩
      obtain ⟨R, rfl⟩ : ∃ R : Nat, r = (R : Int) := ⟨r.toNat, by omega⟩
      obtain ⟨M, hM, hM31, hMI⟩ := pow_pred (C := C) (by omega)
      have HE : Hid (vbL (C : Int) ll m (R : Int) = maxS (brdTo (fun x => !bitB x R && !h7 C ll m x R) (M + 1))) := Lib.hid (by
        unfold vbL; rw [if_pos ⟨hf, by omega, by omega⟩, hM]; rfl)
      have HA : Hid (∀ w', Calls Tryz.prog 34 #[.int .i64 (C : Int)] w' fun e w'' => e = .returned (.int .i64 (M : Int)) ∧ w' = w'') := Lib.hid (fun w' => by have h := all_any (C : Int) w' (by omega) (by omega); rw [show ((C : Int)).toNat = C from rfl, hMI] at h; exact h)
      have HQ := Lib.hid (fun (L : Nat) w' hb => HH.out L R w' hb hT (by omega))
      rw [show ((C : Int)).toNat = C from rfl] at HQ
      have HSU := Lib.hid (fun x => brdTo_succ (fun x => !bitB x R && !h7 C ll m x R) x)
      have HLN := Lib.hid (fun x => brdTo_len (fun x => !bitB x R && !h7 C ll m x R) x)
      have HMX := Lib.hid (fun v w' (hr : ReadI w' v (brdTo (fun x => !bitB x R && !h7 C ll m x R) (M + 1))) hl => maximalSets_any v _ w' hr hl)
      rw [← HE.out] at HMX
      have hRL : R ≤ 20 := by omega
      clear hf hT HH hM hMI hrc
      go_enter Tryz.func9, Tryz.ntmps9
      go_wp2_with fail
      refine (HF.out _ HB2.out).mono ?_
      rintro e w1 ⟨rfl, b1⟩
      have hb2 := HB2.out.trans (b1.mono HB2.out.size)
      have ho3 := ho2.kept b1 (fun k hk => (ho2.lt k hk).2)
      replace c0 := (b1.cell (World.block_lt_of_cell? _ _ c0)).trans c0
      replace c1 := (b1.cell (World.block_lt_of_cell? _ _ c1)).trans c1
      clear b1 ho2
      go_wp2_with fail
      refine (HIN.out _).mono ?_
      rintro e w' ⟨rfl, rfl⟩
      have HO := Lib.hid ho3
      have HB := Lib.hid hb2
      have HBX := Lib.hid (And.intro c0 c1)
      clear ho3 hb2 c0 c1
      go_wp2_with fail
      go_loopw [7, 8] (fun ov xv wr => ∃ (x : Nat) (q : List Int), x ≤ M + 1 ∧ xv = .int .i64 (x : Int) ∧ Hid (q = brdTo (fun x => !bitB x R && !h7 C ll m x R) x) ∧ Hid (OwnI wr (w.heap.size + 1) ov q) ∧ Hid (wr.cell? ⟨w.heap.size, 0, none⟩ = some (.int .i64 (C : Int)) ∧ wr.cell? ⟨w.heap.size, 1, none⟩ = some (.slice a ll.length cap)) ∧ Hid (Below w.heap.size w wr)) (fun _ xv _ => M + 1 - (intOf xv).toNat)
      case atStart => exact ⟨0, [], by omega, rfl, Lib.hid rfl, HO, HBX, HB⟩
      case round =>
        clear HO HBX HB
        obtain ⟨x, q, hx, rfl, hq, HO, HBX, HB⟩ := hrel
        obtain ⟨w3, hw3⟩ : ∃ w', w' = wr := ⟨_, rfl⟩
        rw [← hw3] at HO HBX HB ⊢
        clear hw3
        obtain ⟨c0, c1⟩ := HBX.out
        by_cases hlt : x ≤ M
        · have z0 : (0 : Int) ≤ (x : Int) := by omega
          have z1 : (x : Int) ≤ (M : Int) := by omega
          have hS := HSU.out x
          have hql : q.length ≤ 1000 := by rw [hq.out]; have := HLN.out x; omega
          rw [← hq.out] at hS
          obtain ⟨Z, hZ⟩ : ∃ Z : Nat, Z = x / 2 ^ R := ⟨_, rfl⟩
          have HZ := Lib.hid hZ
          have hbit : (bits BinOp.and IntKind.i64 (Z : Int) 1 == 0) = !bitB x R := by
            have h := bit_zero x R
            rw [show (x : Int) / 2 ^ R = ((x / 2 ^ R : Nat) : Int) by rw [Int.natCast_ediv, Int.natCast_pow]; rfl, ← hZ] at h
            exact h
          clear hZ
          cases hB : bitB x R with
          | true =>
            rw [hB] at hbit hS
            have HS : Hid (brdTo (fun x => !bitB x R && !h7 C ll m x R) (x + 1) = q) := Lib.hid hS
            clear hB hS
            go_wp2_with (first | (refine (HA.out _).mono ?_; rintro e w' ⟨rfl, rfl⟩) | (refine wpList_shr _ rfl _ _ _ _ rfl x R Z HZ.out rfl rfl hRL ?_))
            go_roundw
            case rel => exact ⟨x + 1, _, by omega, by go_num, Lib.hid HS.out.symm, HO, HBX, HB⟩
            case measure => simp [intOf]; omega
          | false =>
            rw [hB] at hbit hS
            have HX := Lib.hid (HQ.out x)
            obtain ⟨y, hy⟩ : ∃ y, y = h7 C ll m x R := ⟨_, rfl⟩
            rw [← hy] at HX hS
            clear hB hy
            cases y with
            | true =>
              have HS : Hid (brdTo (fun x => !bitB x R && !h7 C ll m x R) (x + 1) = q) := Lib.hid hS
              clear hS
              go_wp2_with (first | (refine (HA.out _).mono ?_; rintro e w' ⟨rfl, rfl⟩) | (refine wpList_shr _ rfl _ _ _ _ rfl x R Z HZ.out rfl rfl hRL ?_))
              refine (HX.out _ HB.out).mono ?_
              rintro e w4 ⟨rfl, b4⟩
              have HO4 := Lib.hid (HO.out.kept b4 (fun k hk => (HO.out.lt k hk).2))
              have HBX4 := Lib.hid (And.intro ((b4.cell (World.block_lt_of_cell? _ _ c0)).trans c0) ((b4.cell (World.block_lt_of_cell? _ _ c1)).trans c1))
              have HB4 := Lib.hid (HB.out.trans (b4.mono HB.out.size))
              clear b4 c0 c1
              go_wp2_with fail
              go_roundw
              case rel => exact ⟨x + 1, _, by omega, by go_num, Lib.hid HS.out.symm, HO4, HBX4, HB4⟩
              case measure => simp [intOf]; omega
            | false =>
              have HS : Hid (brdTo (fun x => !bitB x R && !h7 C ll m x R) (x + 1) = q ++ [(x : Int)]) := Lib.hid hS
              clear hS
              go_wp2_with (first | (refine (HA.out _).mono ?_; rintro e w' ⟨rfl, rfl⟩) | (refine wpList_shr _ rfl _ _ _ _ rfl x R Z HZ.out rfl rfl hRL ?_))
              refine (HX.out _ HB.out).mono ?_
              rintro e w4 ⟨rfl, b4⟩
              have ho4 := HO.out.kept b4 (fun k hk => (HO.out.lt k hk).2)
              have c04 := (b4.cell (World.block_lt_of_cell? _ _ c0)).trans c0
              have c14 := (b4.cell (World.block_lt_of_cell? _ _ c1)).trans c1
              have hb4 := HB.out.trans (b4.mono HB.out.size)
              have HO4 := Lib.hid ho4
              clear b4 c0 c1
              go_wp2_with (at_builtin; refine wpList_append_own _ rfl _ _ 29 rfl (w.heap.size + 1) 3 i0 (.int .i64 0) 1 8 Tryz.underlying29 HI.out.1 HI.out.2.1 HI.out.2.2.1 HI.out.2.2.2 rfl (by decide) _ _ _ rfl (World.ownsRow.alloc ho4 _) ⟨w4.heap.size, 0, none⟩ 1 1 [.int .i64 (x : Int)] rfl rfl (cell_one_new _ _ _) (one_i64 _) (by unfold maxLen; omega) (by omega) (by have := hb4.size; have := (HO4.out); simp; have hz := World.block_lt_of_cell? _ _ c04; simp at hz; omega) ?_; intro v5 w5 hown5 hgrow5 _)
              have ho5 := Lib.hid (OwnI.snoc hown5)
              have ha4 := (Below.refl w4.heap.size w4).alloc (Nat.le_refl _) (.cells #[.int .i64 (x : Int)] 3)
              have hb5 := Lib.hid ((hb4.alloc hb4.size (.cells #[.int .i64 (x : Int)] 3)).grown hgrow5 (by simp; have := hb4.size; omega) (fun k hk => by have := (HO4.out.lt k hk).1; omega))
              have c5 := Lib.hid (And.intro ((kept_cell hgrow5 (fun g hg => (HO4.out.lt g hg).1) (World.block_lt_of_cell? _ _ ((ha4.cell (World.block_lt_of_cell? _ _ c04)).trans c04)) (Nat.le_refl _)).trans ((ha4.cell (World.block_lt_of_cell? _ _ c04)).trans c04)) ((kept_cell hgrow5 (fun g hg => (HO4.out.lt g hg).1) (World.block_lt_of_cell? _ _ ((ha4.cell (World.block_lt_of_cell? _ _ c14)).trans c14)) (Nat.le_refl _)).trans ((ha4.cell (World.block_lt_of_cell? _ _ c14)).trans c14)))
              clear hown5 hgrow5 ha4 c04 c14 ho4 hb4
              go_wp2_with fail
              go_roundw
              case rel => exact ⟨x + 1, _, by omega, by go_num, Lib.hid HS.out.symm, ho5, c5, hb5⟩
              case measure => simp [intOf]; omega
        · obtain rfl : x = M + 1 := by omega
          have z1 : ¬ ((M : Int) + 1 ≤ (M : Int)) := by omega
          have hql : q.length ≤ 1048576 := by rw [hq.out]; have := HLN.out (M + 1); omega
          have HG := Lib.hid (fun w' (h : ReadI w' u7 q) => HMX.out u7 w' (by rw [← hq.out]; exact h) (by rw [← hq.out]; exact hql))
          go_wp2_with (refine (HA.out _).mono ?_; rintro e w' ⟨rfl, rfl⟩)
          refine (HG.out _ HO.out.read).mono ?_
          rintro e w4 ⟨v4, rfl, o4, b4⟩
          have hb5 := HB.out.trans (b4.mono HB.out.size)
          have o5 := o4.base HB.out.size
          clear o4 b4
          go_wp2_with fail
          go_ret
          exact ⟨_, rfl, o5, hb5⟩
    · rw [decide_eq_false hrc] at HIN
      have HE : Hid (vbL c ll m r = []) := Lib.hid (by unfold vbL; rw [if_neg (fun h => hrc ⟨h.2.1, by omega⟩)])
      clear hf hT hrc
      go_enter Tryz.func9, Tryz.ntmps9
      go_wp2_with fail
      refine (HF.out _ HB2.out).mono ?_
      rintro e w1 ⟨rfl, b1⟩
      have hb2 := HB2.out.trans (b1.mono HB2.out.size)
      have ho3 := ho2.kept b1 (fun k hk => (ho2.lt k hk).2)
      replace c0 := (b1.cell (World.block_lt_of_cell? _ _ c0)).trans c0
      replace c1 := (b1.cell (World.block_lt_of_cell? _ _ c1)).trans c1
      clear b1 ho2
      go_wp2_with fail
      refine (HIN.out _).mono ?_
      rintro e w' ⟨rfl, rfl⟩
      go_wp2_with fail
      go_ret
      exact ⟨_, rfl, by rw [HE.out]; exact ho3.base (by omega), hb2⟩
end
end Go.Proofs.YtlecfkfcjhliiaaGreat
