/- Texts of this claim, merged: MvC, FnKyB. Conditions: as stated. -/
import Derived.Test.YtnbjcelfdppkcaaGreatTc22
import Derived.Test.YtnbjcelfdppkcaaGreatTc34
import Derived.Test.YtnbjcelfdppkcaaGreatTc14
import Derived.Test.YtnbjcelfdppkcaaGreatTc26
namespace Go.Proofs.YtnbjcelfdppkcaaGreat
open Go.RowKit

theorem brdTo_succ (g : Nat → Bool) (x : Nat) : brdTo g (x + 1) = if g x = true then brdTo g x ++ [(x : Int)] else brdTo g x := rfl
theorem ownI_new (w : World) (B : Nat) (hB : B ≤ w.heap.size) : OwnI (w.alloc (.cells #[] 3)) B (.slice (some ⟨w.heap.size, 0, none⟩) 0 0) [] := World.ownsRow_made w #[] 0 hB (by unfold maxLen; omega) rfl
theorem maxS_nil : maxS [] = [] := rfl
theorem pow_pred {C : Nat} (hC : C ≤ 5) : ∃ M : Nat, M + 1 = 2 ^ C ∧ M ≤ 31 ∧ ((2 : Int) ^ C - 1) = (M : Int) := by
  have h32 := two5 hC
  have : 0 < 2 ^ C := Nat.pow_pos (by omega)
  refine ⟨2 ^ C - 1, by omega, by omega, ?_⟩
  have h3 : ((2 ^ C : Nat) : Int) = (2 : Int) ^ C := by rw [Int.natCast_pow]; rfl
  omega
theorem vbL_len (c : Int) (ll : List (List Int)) (m q : Int) : (vbL c ll m q).length ≤ 100 := by
  unfold vbL
  split
  · rename_i h
    have := isT_bd (fineT_isT h.1)
    have h32 := two5 (C := c.toNat) (by omega)
    unfold brdL maxS
    rw [if_pos (brdTo_ok _ h32)]
    have h1 := mxTo_len (brdTo (fun x => !bitB x q.toNat && !h7 c.toNat ll m x q.toNat) (2 ^ c.toNat)) (brdTo (fun x => !bitB x q.toNat && !h7 c.toNat ll m x q.toNat) (2 ^ c.toNat)).length
    have h2 := brdTo_len (fun x => !bitB x q.toNat && !h7 c.toNat ll m x q.toNat) (2 ^ c.toNat)
    omega
  · simp
theorem mnTo_len' (l : List Int) (i : Nat) : (mnTo l i).length ≤ i := by
  induction i with
  | zero => simp [mnTo]
  | succ i ih => have := put4_len (mnTo l i) (l.getD i 0); unfold mnTo; split <;> omega
theorem minS_len100 (l : List Int) : (minS l).length ≤ 100 := by
  unfold minS
  split
  · rename_i h
    have h1 := mnTo_len' l l.length
    unfold setsOk at h
    rw [Bool.and_eq_true, decide_eq_true_iff] at h
    omega
  · simp
theorem mkL_len (c : Int) (ll : List (List Int)) (m : Int) : (mkL c ll m).length ≤ 100 := minS_len100 _
section
set_option maxRecDepth 20000
set_option maxHeartbeats 3200000
theorem minimalKeys_any (c m : Int) (v : Value) (ll : List (List Int)) (w : World) (hr : ReadSS w v ll) (hl : ll.length ≤ 1048576) (ht : ∀ i, i < ll.length → (ll.getD i []).length ≤ 1048576) :
    Calls Tryz.prog 8 #[.agg #[.int .i64 c, v], .int .i64 m] w (RetI (mkL c ll m) w) := by
  obtain ⟨i0, hi, hz0, hz1, hz2⟩ := info_parts info3i
  have HI : Hid (_ ∧ _ ∧ _ ∧ _) := Lib.hid ⟨hi, hz0, hz1, hz2⟩
  clear hi hz0 hz1 hz2
  have hb1 := (Below.refl w.heap.size w).alloc (Nat.le_refl _) (.cells #[.int .i64 c, v] 26)
  have hb2 := hb1.alloc hb1.size (.cells #[] 3)
  have hb12 := (Below.refl (w.alloc (.cells #[.int .i64 c, v] 26)).heap.size (w.alloc (.cells #[.int .i64 c, v] 26))).alloc (Nat.le_refl _) (.cells #[] 3)
  have HF := Lib.hid (fun w' (hb : Below w.heap.size w w') => l4Fine_any c m v ll w' (hr.kept hb) hl ht)
  have HU := Lib.hid (fun (s : Int) w' (hb : Below w.heap.size w w') => isUnique_any c m s v ll w' (hr.kept hb) hl ht)
  have HB2 := Lib.hid hb2
  have ho2 := ownI_new (w.alloc (.cells #[.int .i64 c, v] 26)) (w.heap.size + 1) (by simp)
  rw [World.size_alloc] at ho2
  obtain ⟨c0, c1⟩ := zero2 w 26 (.int .i64 c) v
  replace c0 := (hb12.cell (World.block_lt_of_cell? _ _ c0)).trans c0
  replace c1 := (hb12.cell (World.block_lt_of_cell? _ _ c1)).trans c1
  obtain ⟨a, cap, rfl, -⟩ := hr
  clear hb1 hb2 ht hb12
  cases hf : fineT c ll m with
  | false =>
    have HMX := Lib.hid (fun v w' (hr : ReadI w' v []) => minimalSets_any v [] w' hr (by simp))
    have HE : Hid (mkL c ll m = minS []) := Lib.hid (by unfold mkL; rw [hf]; rfl)
    rw [← HE.out] at HMX
    rw [hf] at HF
    clear hf
    go_enter Tryz.func8, Tryz.ntmps8
    go_wp2_with fail
    refine wp_loop_rounds 1 ?_
    rw [rounds_succ]
    go_wp2_with fail
    refine (HF.out _ HB2.out).mono ?_
    rintro e w1 ⟨rfl, b1⟩
    have hb2 := HB2.out.trans (b1.mono HB2.out.size)
    have ho3 := ho2.kept b1 (fun k hk => (ho2.lt k hk).2)
    clear b1 ho2
    go_wp2_with fail
    refine (HMX.out _ _ ho3.read).mono ?_
    rintro e w4 ⟨v4, rfl, o4, b4⟩
    have hb5 := hb2.trans (b4.mono hb2.size)
    have o5 := o4.base hb2.size
    go_wp2_with fail
    go_ret
    exact ⟨_, rfl, o5, hb5⟩
  | true =>
    rw [hf] at HF
    have hT := fineT_isT hf
    obtain ⟨hc1, hc5, h40⟩ := isT_bd hT
    obtain ⟨C, rfl⟩ : ∃ C : Nat, c = (C : Int) := ⟨c.toNat, by omega⟩
    obtain ⟨M, hM, hM31, hMI⟩ := pow_pred (C := C) (by omega)
    have HE : Hid (mkL (C : Int) ll m = minS (brdTo (fun x => uniqB (C : Int) ll m (x : Int)) (M + 1))) := Lib.hid (by
      unfold mkL; rw [if_pos hf, hM]; rfl)
    have HA : Hid (∀ w', Calls Tryz.prog 21 #[.int .i64 (C : Int)] w' fun e w'' => e = .returned (.int .i64 (M : Int)) ∧ w' = w'') := Lib.hid (fun w' => by have h := all_any (C : Int) w' (by omega) (by omega); rw [show ((C : Int)).toNat = C from rfl, hMI] at h; exact h)
    have HSU := Lib.hid (fun x => brdTo_succ (fun x => uniqB (C : Int) ll m (x : Int)) x)
    have HLN := Lib.hid (fun x => brdTo_len (fun x => uniqB (C : Int) ll m (x : Int)) x)
    have HMX := Lib.hid (fun v w' (hr : ReadI w' v (brdTo (fun x => uniqB (C : Int) ll m (x : Int)) (M + 1))) hl => minimalSets_any v _ w' hr hl)
    rw [← HE.out] at HMX
    have HO := Lib.hid ho2
    have HBX := Lib.hid (And.intro c0 c1)
    clear hf hT hM hMI ho2 c0 c1
    go_enter Tryz.func8, Tryz.ntmps8
    go_wp2_with fail
    go_loopw [5, 6] (fun ov xv wr => ∃ (x : Nat) (q : List Int), x ≤ M + 1 ∧ xv = .int .i64 (x : Int) ∧ Hid (q = brdTo (fun x => uniqB (C : Int) ll m (x : Int)) x) ∧ Hid (OwnI wr (w.heap.size + 1) ov q) ∧ Hid (wr.cell? ⟨w.heap.size, 0, none⟩ = some (.int .i64 (C : Int)) ∧ wr.cell? ⟨w.heap.size, 1, none⟩ = some (.slice a ll.length cap)) ∧ Hid (Below w.heap.size w wr)) (fun _ xv _ => M + 1 - (intOf xv).toNat)
    case atStart => exact ⟨0, [], by omega, rfl, Lib.hid rfl, HO, HBX, HB2⟩
    case round =>
      clear HO HBX HB2
      obtain ⟨x, q, hx, rfl, hq, HO, HBX, HB⟩ := hrel
      obtain ⟨w3, hw3⟩ : ∃ w', w' = wr := ⟨_, rfl⟩
      rw [← hw3] at HO HBX HB ⊢
      clear hw3
      obtain ⟨c0, c1⟩ := HBX.out
      by_cases hlt : x ≤ M
      · have z0 : (0 : Int) ≤ (x : Int) := by omega
        have z1 : (x : Int) ≤ (M : Int) := by omega
        have hS := HSU.out x
        have hql : q.length ≤ 1000 := by rw [hq.out]; have := HLN.out x; omega
        rw [← hq.out] at hS
        have HX := Lib.hid (HU.out (x : Int))
        obtain ⟨y, hy⟩ : ∃ y, y = uniqB (C : Int) ll m (x : Int) := ⟨_, rfl⟩
        rw [← hy] at HX hS
        clear hy
        go_wp2_with fail
        refine (HF.out _ HB.out).mono ?_
        rintro e w3b ⟨rfl, b3⟩
        have ho3 := Lib.hid (HO.out.kept b3 (fun k hk => (HO.out.lt k hk).2))
        have HBX3 := Lib.hid (And.intro ((b3.cell (World.block_lt_of_cell? _ _ c0)).trans c0) ((b3.cell (World.block_lt_of_cell? _ _ c1)).trans c1))
        have HB3 := Lib.hid (HB.out.trans (b3.mono HB.out.size))
        clear b3 c0 c1 HB HO HBX
        obtain ⟨c0, c1⟩ := HBX3.out
        cases y with
        | false =>
          have HS : Hid (brdTo (fun x => uniqB (C : Int) ll m (x : Int)) (x + 1) = q) := Lib.hid hS
          clear hS
          go_wp2_with (first | (go_at_call 21; refine (HA.out _).mono ?_; rintro e w' ⟨rfl, rfl⟩))
          refine (HX.out _ HB3.out).mono ?_
          rintro e w4 ⟨rfl, b4⟩
          have HO4 := Lib.hid (ho3.out.kept b4 (fun k hk => (ho3.out.lt k hk).2))
          have HBX4 := Lib.hid (And.intro ((b4.cell (World.block_lt_of_cell? _ _ c0)).trans c0) ((b4.cell (World.block_lt_of_cell? _ _ c1)).trans c1))
          have HB4 := Lib.hid (HB3.out.trans (b4.mono HB3.out.size))
          clear b4 c0 c1
          go_wp2_with fail
          go_roundw
          case rel => exact ⟨x + 1, _, by omega, by go_num, Lib.hid HS.out.symm, HO4, HBX4, HB4⟩
          case measure => simp [intOf]; omega
        | true =>
          have HS : Hid (brdTo (fun x => uniqB (C : Int) ll m (x : Int)) (x + 1) = q ++ [(x : Int)]) := Lib.hid hS
          clear hS
          go_wp2_with (first | (go_at_call 21; refine (HA.out _).mono ?_; rintro e w' ⟨rfl, rfl⟩))
          refine (HX.out _ HB3.out).mono ?_
          rintro e w4 ⟨rfl, b4⟩
          have ho4 := ho3.out.kept b4 (fun k hk => (ho3.out.lt k hk).2)
          have c04 := (b4.cell (World.block_lt_of_cell? _ _ c0)).trans c0
          have c14 := (b4.cell (World.block_lt_of_cell? _ _ c1)).trans c1
          have hb4 := HB3.out.trans (b4.mono HB3.out.size)
          have HO4 := Lib.hid ho4
          clear b4 c0 c1
          go_wp2_with (at_builtin; refine wpList_append_own _ rfl _ _ 29 rfl (w.heap.size + 1) 3 i0 (.int .i64 0) 1 8 Tryz.underlying29 HI.out.1 HI.out.2.1 HI.out.2.2.1 HI.out.2.2.2 rfl (by decide) _ _ _ rfl (World.ownsRow.alloc ho4 _) ⟨w4.heap.size, 0, none⟩ 1 1 [.int .i64 (x : Int)] rfl rfl (cell_one_new _ _ _) (one_i64 _) (by unfold maxLen; omega) (by omega) (by have hz := World.block_lt_of_cell? _ _ c04; simp at hz; simp; omega) ?_; intro v5 w5 hown5 hgrow5 _)
          have ho5 := Lib.hid (OwnI.snoc hown5)
          have ha4 := (Below.refl w4.heap.size w4).alloc (Nat.le_refl _) (.cells #[.int .i64 (x : Int)] 3)
          have hb5 := Lib.hid ((hb4.alloc hb4.size (.cells #[.int .i64 (x : Int)] 3)).grown hgrow5 (by simp; have := hb4.size; omega) (fun k hk => by have := (HO4.out.lt k hk).1; omega))
          have c5 := Lib.hid (And.intro ((kept_cell hgrow5 (fun g hg => (HO4.out.lt g hg).1) (World.block_lt_of_cell? _ _ ((ha4.cell (World.block_lt_of_cell? _ _ c04)).trans c04)) (Nat.le_refl _)).trans ((ha4.cell (World.block_lt_of_cell? _ _ c04)).trans c04)) ((kept_cell hgrow5 (fun g hg => (HO4.out.lt g hg).1) (World.block_lt_of_cell? _ _ ((ha4.cell (World.block_lt_of_cell? _ _ c14)).trans c14)) (Nat.le_refl _)).trans ((ha4.cell (World.block_lt_of_cell? _ _ c14)).trans c14)))
          clear hown5 hgrow5 ha4 c04 c14 ho4 hb4
          go_wp2_with fail
          go_roundw
          case rel => exact ⟨x + 1, _, by omega, by go_num, Lib.hid HS.out.symm, ho5, c5, hb5⟩
          case measure => simp [intOf]; omega
      · obtain rfl : x = M + 1 := by omega
        have z1 : ¬ ((M : Int) + 1 ≤ (M : Int)) := by omega
        have hql : q.length ≤ 1048576 := by rw [hq.out]; have := HLN.out (M + 1); omega
        have HG := Lib.hid (fun w' (h : ReadI w' u5 q) => HMX.out u5 w' (by rw [← hq.out]; exact h) (by rw [← hq.out]; exact hql))
        go_wp2_with fail
        refine (HF.out _ HB.out).mono ?_
        rintro e w3b ⟨rfl, b3⟩
        have ho3 := HO.out.kept b3 (fun k hk => (HO.out.lt k hk).2)
        have HB3 := Lib.hid (HB.out.trans (b3.mono HB.out.size))
        replace c0 := (b3.cell (World.block_lt_of_cell? _ _ c0)).trans c0
        replace c1 := (b3.cell (World.block_lt_of_cell? _ _ c1)).trans c1
        clear b3
        go_wp2_with (first | (go_at_call 21; refine (HA.out _).mono ?_; rintro e w' ⟨rfl, rfl⟩))
        refine (HG.out _ ho3.read).mono ?_
        rintro e w4 ⟨v4, rfl, o4, b4⟩
        have hb5 := HB3.out.trans (b4.mono HB3.out.size)
        have o5 := o4.base HB3.out.size
        clear o4 b4
        go_wp2_with fail
        go_ret
        exact ⟨_, rfl, o5, hb5⟩
end
end Go.Proofs.YtnbjcelfdppkcaaGreat
namespace Go.Proofs.YtnbjcelfdppkcaaGreat
open Go.RowKit

theorem wf_rng {x : Int} (h0 : -1000 ≤ x) (h1 : x ≤ 1000) : (Lit.int .i64 x).wf = true := by
  unfold Lit.wf
  rw [Bool.and_eq_true, decide_eq_true_iff, decide_eq_true_iff]
  exact ⟨by show (-9223372036854775808 : Int) ≤ x; omega, by show x ≤ (9223372036854775807 : Int); omega⟩
/-- One of the first i keys is a part of x. -/
def cov9 (X : List Int) (x : Int) : Nat → Bool
  | 0 => false
  | i + 1 => cov9 X x i || (bits .and .i64 (X.getD i 0) x == X.getD i 0)
theorem cov9_iff (X : List Int) (x : Int) : ∀ n, cov9 X x n = true ↔ ∃ t, t < n ∧ (bits .and .i64 (X.getD t 0) x == X.getD t 0) = true
  | 0 => by simp [cov9]
  | n + 1 => by
    unfold cov9
    rw [Bool.or_eq_true, cov9_iff X x n]
    constructor
    · rintro (⟨t, h1, h2⟩ | h)
      · exact ⟨t, by omega, h2⟩
      · exact ⟨n, by omega, h⟩
    · rintro ⟨t, h1, h2⟩
      by_cases e : t = n
      · subst e; exact .inr h2
      · exact .inl ⟨t, by omega, h2⟩
theorem sub_bits9 : ∀ a b : Fin 32, (bits .and .i64 ((a.val : Nat) : Int) ((b.val : Nat) : Int) == ((a.val : Nat) : Int)) = subN a.val b.val := by decide +kernel
/-- A set is unique exactly if a key is a part of it. -/
theorem cov_uniq {C x : Nat} {ll : List (List Int)} {m : Int} (hf : fineT (C : Int) ll m = true) (hC : C ≤ 5) (hx : x < 2 ^ C) : cov9 (mkL (C : Int) ll m) (x : Int) (mkL (C : Int) ll m).length = uniqB (C : Int) ll m (x : Int) := by
  have h32 := two5 hC
  have hk : mkL (C : Int) ll m = trL (coL (C : Int) ll m) (C : Int) := by rw [← ktL_eq]; unfold ktL; rw [if_pos hf]
  have hcf := co_fine hf hC
  have hup : UpN 32 (fun x => ∀ y ∈ coL (C : Int) ll m, hitI y (x : Int) = true) := fun a b ha hb hs h y hy => by
    have hv := hcf
    rw [Bool.and_eq_true, List.all_eq_true] at hv
    obtain ⟨Y, rfl, hY⟩ := valN (isA_val (hv.2 y hy))
    exact hit_up hY ha hb hs (h _ hy)
  rw [Bool.eq_iff_iff, cov9_iff, ← co_uniq hf hC hx]
  constructor
  · rintro ⟨t, ht, hb⟩
    obtain ⟨Y, hY, e, hl, -⟩ := (trL_least hcf _).1 (by rw [← hk]; exact mem_getD.2 ⟨t, ht, rfl⟩)
    rw [e] at hb
    have hs := sub_bits9 ⟨Y, hY⟩ ⟨x, by omega⟩
    simp only at hs
    rw [hs] at hb
    exact hup Y x hY (by omega) hb hl
  · intro h
    obtain ⟨Y, hY, -, hs, hl⟩ := least_ex (f := fun x => ∀ y ∈ coL (C : Int) ll m, hitI y (x : Int) = true) x (by omega) h
    obtain ⟨t, ht, e⟩ := mem_getD.1 (show (Y : Int) ∈ mkL (C : Int) ll m by rw [hk]; exact (trL_least hcf _).2 ⟨Y, hY, rfl, hl⟩)
    refine ⟨t, ht, ?_⟩
    rw [← e]
    have hs2 := sub_bits9 ⟨Y, hY⟩ ⟨x, by omega⟩
    simp only at hs2
    rw [hs2]
    exact hs
structure KA (c : Int) (u : Value) (ll : List (List Int)) (m : Int) (X : List Int) : Prop where
  k1 : ∀ w', ReadSS w' u ll → Calls Tryz.prog 6 #[.agg #[.int .i64 c, u], .int .i64 m] w' (RetI X w')
  k2 : ∀ w', ReadSS w' u ll → Calls Tryz.prog 8 #[.agg #[.int .i64 c, u], .int .i64 m] w' (RetI X w')
  k3 : ∀ w', ReadSS w' u ll → Calls Tryz.prog 9 #[.agg #[.int .i64 c, u], .int .i64 m] w' (RetI X w')
  it : ∀ w', ReadSS w' u ll → Calls Tryz.prog 10 #[.agg #[.int .i64 c, u]] w' fun e w'' => e = .returned (.bool (isT c ll)) ∧ Below w'.heap.size w' w''
  uq : fineT c ll m = true → ∀ x : Nat, x < 2 ^ c.toNat → ∀ w', ReadSS w' u ll → Calls Tryz.prog 11 #[.agg #[.int .i64 c, u], .int .i64 m, .int .i64 (x : Int)] w' fun e w'' => e = .returned (.bool (cov9 X (x : Int) X.length)) ∧ Below w'.heap.size w' w''
  len : X.length ≤ 10
theorem ka_of {c m : Int} {u : Value} {ll : List (List Int)} (hl : ll.length ≤ 1048576) (ht : ∀ i, i < ll.length → (ll.getD i []).length ≤ 1048576) (hcap : CapOk u) : ∃ X, KA c u ll m X := by
  refine ⟨mkL c ll m, fun w' h => implMinimalKeys_any c m u ll w' h hl ht, fun w' h => minimalKeys_any c m u ll w' h hl ht, fun w' h => by rw [← ktL_eq]; exact implKeysT_any c m u ll w' h hl ht hcap, fun w' h => isTable_any c u ll w' h hl ht, fun hf x hx w' h => ?_, by rw [← ktL_eq]; exact ktL_len _ _ _⟩
  have hb := isT_bd (fineT_isT hf)
  obtain ⟨C, rfl⟩ : ∃ C : Nat, c = (C : Int) := ⟨c.toNat, by omega⟩
  have hx : x < 2 ^ C := hx
  have h32 := two5 (show C ≤ 5 by omega)
  rw [cov_uniq hf (by omega) hx]
  exact implIsUnique_any (C : Int) m (x : Int) u ll (wf_rng (by omega) (by omega)) w' h hl ht
structure KB (c : Int) (u : Value) (ll : List (List Int)) (m s : Int) (b : Bool) : Prop where
  b1 : ∀ w', ReadSS w' u ll → Calls Tryz.prog 11 #[.agg #[.int .i64 c, u], .int .i64 m, .int .i64 s] w' fun e w'' => e = .returned (.bool b) ∧ Below w'.heap.size w' w''
  b2 : ∀ w', ReadSS w' u ll → Calls Tryz.prog 13 #[.agg #[.int .i64 c, u], .int .i64 m, .int .i64 s] w' fun e w'' => e = .returned (.bool b) ∧ Below w'.heap.size w' w''
theorem kb_of {c m s : Int} {u : Value} {ll : List (List Int)} (hl : ll.length ≤ 1048576) (ht : ∀ i, i < ll.length → (ll.getD i []).length ≤ 1048576) (h0 : -1000 ≤ s) (h1 : s ≤ 1000) : ∃ b, KB c u ll m s b :=
  ⟨uniqB c ll m s, fun w' h => implIsUnique_any c m s u ll (wf_rng h0 h1) w' h hl ht, fun w' h => isUnique_any c m s u ll w' h hl ht⟩
/-- A table in a box of its own, in readable memory. -/
def TBX (x : World) (T : Nat) (c : Int) (u : Value) (ll : List (List Int)) : Prop := (x.cell? ⟨T, 0, none⟩ = some (.int .i64 c) ∧ x.cell? ⟨T, 1, none⟩ = some u) ∧ ReadSS x u ll
theorem TBX.kept {x y : World} {T : Nat} {c : Int} {u : Value} {ll : List (List Int)} (h : TBX x T c u ll) (hb : Below x.heap.size x y) : TBX y T c u ll :=
  ⟨⟨(hb.cell (World.block_lt_of_cell? _ _ h.1.1)).trans h.1.1, (hb.cell (World.block_lt_of_cell? _ _ h.1.2)).trans h.1.2⟩, h.2.kept hb⟩
theorem TBX.new {w : World} {c : Int} {u : Value} {ll : List (List Int)} (s : ReadSS w u ll) : TBX (w.alloc (.cells #[.int .i64 c, u] 26)) w.heap.size c u ll :=
  ⟨zero2 w 26 (.int .i64 c) u, s.kept ((Below.refl _ _).alloc (Nat.le_refl _) _)⟩
theorem few {ll : List (List Int)} (h : ∀ r ∈ ll, r.length ≤ 10) : ∀ i, i < ll.length → (ll.getD i []).length ≤ 1048576 := fun i hi => by
  have := h (ll.getD i []) (by rw [List.getD_eq_getElem?_getD, List.getElem?_eq_getElem hi]; exact List.getElem_mem hi)
  omega
theorem readI_at {w : World} {a : Option Addr} {n cap : Nat} {l : List Int} (h : ReadI w (.slice a n cap) l) {i : Nat} (hi : i < l.length) : ∃ x, a = some x ∧ w.cell? (x.add i) = some (.int .i64 (l.getD i 0)) := by
  obtain ⟨a', cap', hv, hc⟩ := h
  cases hv
  obtain ⟨x, e, h⟩ := hc i hi
  exact ⟨x, e, by rw [h, List.getD_eq_getElem?_getD, List.getElem?_eq_getElem hi]; rfl⟩
theorem same_any (X : List Int) (v v' : Value) (w' : World) (hX : X.length ≤ 1000000000) (h : ReadI w' v X) (h' : ReadI w' v' X) : Calls Tryz.prog 7 #[v, v'] w' fun e w'' => e = .returned (.bool true) ∧ Below w'.heap.size w' w'' :=
  (sameInts_any v v' X X w' h h' hX).mono fun _ _ ⟨x, m, y⟩ => ⟨by rw [x]; simp [eqB], by rw [y]; exact below_drewN (Below.refl _ _) m⟩
end Go.Proofs.YtnbjcelfdppkcaaGreat
