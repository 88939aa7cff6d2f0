/- The program's chapter 11: KeysOf, PrimeColumns, by contract. Conditions: as stated. -/
import Derived.Test.YtgdjohicjpopfaaGreatPdBm
import Derived.Test.YtgdjohicjpopfaaGreatWd33
import Derived.Test.YtgdjohicjpopfaaGreatWd21
import Derived.Test.YtgdjohicjpopfaaGreatWd34
namespace Go.Proofs.YtgdjohicjpopfaaGreat
open Go.RowKit

set_option maxHeartbeats 1600000 in
theorem filtKO_any (c1 c2 : Value) (p : Int → Bool) (v : Value) (l : List Int) (w : World) (hr : ReadI w v l) (hl : l.length ≤ 1048576)
    (HP : ∀ x, x ∈ l → ∀ w', Below w.heap.size w w' → Calls Tryz.prog 47 #[.int .i64 x, c1, c2] w' fun e w'' => e = .returned (.bool (p x)) ∧ Below w'.heap.size w' w'') :
    Calls Tryz.prog 45 #[v, .func (.func 47) #[] #[c1, c2]] w (RetI (l.filter p) w) := by
  obtain ⟨i0, hi, hz0, hz1, hz2⟩ := info_parts info3i
  have HI : Hid (_ ∧ _ ∧ _ ∧ _) := Lib.hid ⟨hi, hz0, hz1, hz2⟩
  clear hi hz0 hz1 hz2
  have HQ := Lib.hid HP
  have HN := Lib.hid (fun k hk => filter_next p l 0 k hk)
  have HL := Lib.hid (fun k => List.length_filter_le p (l.take k))
  obtain ⟨a, cap, rfl, ha⟩ := hr
  have HA := Lib.hid ha
  clear ha HP
  go_enter Tryz.func45, Tryz.ntmps45
  go_wp2_with (at_make; refine wpList_make_own _ rfl _ _ 31 rfl w.heap.size 3 i0 (.int .i64 0) 1 Tryz.underlying31 HI.out.1 HI.out.2.1 HI.out.2.2.1 .i64 .i64 _ l.length rfl rfl rfl (by rw [HI.out.2.2.2]; omega) (by unfold maxLen; omega) (Nat.le_refl _) ?_; intro w0 hown0 hgrow0)
  have hb0 := (Below.refl w.heap.size w).grown hgrow0 (Nat.le_refl _) (by simp)
  have hown := OwnI.made hown0
  clear hown0 hgrow0
  go_loopw [5, 13] (fun ov iv wr => ∃ (k : Nat) (q : List Int), k ≤ l.length ∧ iv = .int .i64 (k : Int) ∧ Hid (q = (l.take k).filter p) ∧ OwnI wr w.heap.size ov q ∧ Below w.heap.size w wr) (fun _ iv _ => l.length - (intOf iv).toNat)
  case atStart => exact ⟨0, [], by omega, rfl, Lib.hid rfl, hown, hb0⟩
  case round =>
    clear hown hb0
    obtain ⟨k, q, hk, rfl, hq, ho, hb⟩ := hrel
    by_cases hlt : k < l.length
    · obtain ⟨x, rfl, hx⟩ := HA.out k hlt
      replace hx := (hb.cell (World.block_lt_of_cell? w _ hx)).trans hx
      rw [get_getD l k hlt] at hx
      have hm : l.getD k 0 ∈ l := by rw [← get_getD l k hlt]; exact List.getElem_mem hlt
      have hll : q.length ≤ 1048576 := by rw [hq.out]; have := HL.out k; rw [List.length_take] at this; omega
      have HS := Lib.hid (HN.out k hlt)
      obtain ⟨y, hy⟩ : ∃ y, y = l.getD k 0 := ⟨_, rfl⟩
      rw [← hy] at hx HS hm
      have HC := Lib.hid (HQ.out y hm)
      have HB := Lib.hid hb
      have HO := Lib.hid ho
      clear hy hm ho
      have z0 : (0 : Int) ≤ (k : Int) := by omega
      have z1 : (k : Int) < (l.length : Int) := by omega
      cases hp : p y with
      | true =>
        rw [hp] at HC HS
        rw [if_pos rfl] at HS
        clear hp
        go_wp2_with fail
        refine (HC.out _ HB.out).mono ?_
        rintro e w1 ⟨rfl, b1⟩
        have ho1 := HO.out.kept b1 (fun k hk => (HO.out.lt k hk).2)
        have hb1 := HB.out.trans (b1.mono HB.out.size)
        clear b1
        go_wp2_with (at_builtin; refine wpList_append_own _ rfl _ _ 31 rfl w.heap.size 3 i0 (.int .i64 0) 1 8 Tryz.underlying31 HI.out.1 HI.out.2.1 HI.out.2.2.1 HI.out.2.2.2 rfl (by decide) _ _ _ rfl (World.ownsRow.alloc ho1 _) ⟨w1.heap.size, 0, none⟩ 1 1 [.int .i64 y] rfl rfl (cell_one_new _ _ _) (one_i64 _) (by unfold maxLen; omega) (by omega) (le_alloc hb1 (Nat.le_refl _) _) ?_; intro v1 w2 hown1 hgrow1 _)
        have ho2 := OwnI.snoc hown1
        have hb2 := (hb1.alloc hb1.size (.cells #[.int .i64 y] 3)).grown hgrow1 (by simp; have := hb1.size; omega) (fun k hk => (OwnI.lt ho1 k hk).1)
        clear hown1 hgrow1
        go_wp2_with fail
        go_roundw
        case rel => exact ⟨k + 1, _, by omega, by go_num, Lib.hid (by rw [HS.out, ← hq.out]), ho2, hb2⟩
        case measure => simp [intOf]; omega
      | false =>
        rw [hp] at HC HS
        rw [if_neg (by decide)] at HS
        clear hp
        go_wp2_with fail
        refine (HC.out _ HB.out).mono ?_
        rintro e w1 ⟨rfl, b1⟩
        have ho1 := HO.out.kept b1 (fun k hk => (HO.out.lt k hk).2)
        have hb1 := HB.out.trans (b1.mono HB.out.size)
        clear b1
        go_wp2_with fail
        go_roundw
        case rel => exact ⟨k + 1, _, by omega, by go_num, Lib.hid (by rw [HS.out, ← hq.out]), ho1, hb1⟩
        case measure => simp [intOf]; omega
    · obtain rfl : k = l.length := by omega
      go_wp2_with fail
      go_ret
      exact ⟨_, rfl, by have := hq.out; rw [List.take_length] at this; rw [← this]; exact ho, hb⟩
theorem parts_len11 (n : Int) : (parts n).length ≤ 1048576 := by
  by_cases hn : 0 ≤ n ∧ n ≤ 5
  · obtain ⟨C, rfl⟩ : ∃ C : Nat, n = (C : Int) := ⟨n.toNat, by omega⟩
    have := parts_len32 (C := C) (by omega)
    omega
  · unfold parts
    rw [if_neg hn]
    simp
theorem filt_I6411 (n : Int) (p : Int → Bool) : I64s ((parts n).filter p) := by
  intro x hx
  obtain ⟨X, rfl, hX⟩ := parts_small n x (List.mem_filter.1 hx).1
  omega
section
set_option maxRecDepth 20000
set_option maxHeartbeats 3200000
theorem keysFun_any (v : Value) (C : Nat) (hC1 : 1 ≤ C) (hC : C ≤ 5) (l : List (Int × Int)) (ha : arD (C : Int) l = true) (_w0 : (Lit.int .i64 (C : Int)).wf = true) (bd : ∀ d ∈ l, (Lit.int .i64 d.1).wf = true ∧ (Lit.int .i64 d.2).wf = true) (X : Nat) (hX : X < 2 ^ C) (b : Nat) (w : World) (h0 : w.cell? ⟨b, 0, none⟩ = some (.int .i64 (C : Int))) (h1 : w.cell? ⟨b + 1, 0, none⟩ = some v) (hr : ReadD w v l) (hl : l.length ≤ 1048576) :
    Calls Tryz.prog 47 #[.int .i64 (X : Int), .pointer (some ⟨b, 0, none⟩), .pointer (some ⟨b + 1, 0, none⟩)] w fun e w' => e = .returned (.bool (spn l C X)) ∧ Below w.heap.size w w' := by
  have h32 := two5 hC
  have hcz : cloZ (C : Int) l (X : Int) = (clo l X : Int) := by
    have hi := (depB_iff.1 (dep_of (R := 0) hC1 hC hX (by omega))).2.1
    unfold cloZ; rw [ha, hi]; rfl
  have HCL := Lib.hid (fun w' (hb : Below w.heap.size w w') => implClosureOf_any v (C : Int) (X : Int) l _w0 bd (wf_small11 X (by omega)) w' (hr.kept hb) hl)
  rw [hcz] at HCL
  have HFC := Lib.hid (fun w' => (first_any (C : Int) w' (by omega) (by omega)).mono (fun e w'' h => show e = .returned (.int .i64 (((2 ^ C - 1 : Nat) : Int))) ∧ Below w'.heap.size w' w'' from ⟨by
    rw [h.1]
    have e2 : ((2 ^ C : Nat) : Int) = (2 : Int) ^ C := by rw [Int.natCast_pow]; rfl
    have hp : 0 < 2 ^ C := Nat.pow_pos (by decide)
    have e3 : ((2 ^ C - 1 : Nat) : Int) = (2 : Int) ^ C - 1 := by omega
    rw [e3]; rfl, h.2 ▸ Below.refl _ _⟩))
  have hq : (((clo l X : Nat) : Int) == ((2 ^ C - 1 : Nat) : Int)) = spn l C X := by
    unfold spn
    rw [Bool.eq_iff_iff, beq_iff_eq, beq_iff_eq]
    omega
  obtain ⟨F, hF⟩ : ∃ F, F = 2 ^ C - 1 := ⟨_, rfl⟩
  obtain ⟨Z, hZ⟩ : ∃ Z, Z = clo l X := ⟨_, rfl⟩
  obtain ⟨q, hqq⟩ : ∃ q, q = spn l C X := ⟨_, rfl⟩
  rw [← hF] at HFC hq
  rw [← hZ] at HCL hq
  rw [← hqq] at hq ⊢
  obtain ⟨a, cap, rfl, -⟩ := hr
  clear hF hZ hqq hcz bd ha h32 hX
  go_enter Tryz.func47, Tryz.ntmps47
  go_upto_region 1 with fail
  refine wp_region_noPanic ?_
  refine wp_region_held_drew (S := (fun w' => (w'.cell? ⟨b, 0, none⟩ = some (.int .i64 (C : Int)) ∧ w'.cell? ⟨b + 1, 0, none⟩ = some (.slice a l.length cap)) ∧ Below w.heap.size w w')) (by kernel_rfl) ?_ (fun hHeld => ?_)
  · ((try dsimp only); (first | exact ⟨⟨keep_in hHeld.1.1 b92, keep_in hHeld.1.2 b92⟩, hHeld.2.trans (b92.mono hHeld.2.size)⟩ | exact ⟨⟨keep_in hHeld.1.1 b91, keep_in hHeld.1.2 b91⟩, hHeld.2.trans (b91.mono hHeld.2.size)⟩ | exact ⟨⟨h0, h1⟩, (Below.refl _ _).drew⟩))
  refine wpAnyH_take (i := 0) (v := ?_) rfl (by kernel_rfl) (by kernel_rfl) (by kernel_rfl) (fun _ _ _ h => h) (Or.inl ⟨by rfl, ?_⟩) (by assumption) ?_
  rotate_left
  · (intro w hSw; (try dsimp only at hSw); go_simp; (try with_reducible rfl))
  (try simp only [Act.put, List.getElem_toArray, List.getElem_cons_zero, List.setIfInBounds_toArray, List.set_cons_zero, List.set_cons_succ])
  refine wpAnyH_take (i := 1) (v := ?_) rfl (by kernel_rfl) (by kernel_rfl) (by kernel_rfl) (fun _ _ _ h => h) (Or.inl ⟨by rfl, ?_⟩) (by assumption) ?_
  rotate_left
  · (intro w hSw; (try dsimp only at hSw); go_simp; (try with_reducible rfl))
  (try simp only [Act.put, List.getElem_toArray, List.getElem_cons_succ, List.getElem_cons_zero, List.setIfInBounds_toArray, List.set_cons_zero, List.set_cons_succ])
  refine wpAnyH_take (i := 2) (v := ?_) rfl (by kernel_rfl) (by kernel_rfl) (by kernel_rfl) (fun _ _ _ h => h) (Or.inl ⟨by rfl, ?_⟩) (by assumption) ?_
  rotate_left
  · (intro w hSw; (try dsimp only at hSw); go_simp; (try with_reducible rfl))
  (try simp only [Act.put, List.getElem_toArray, List.getElem_cons_succ, List.getElem_cons_zero, List.setIfInBounds_toArray, List.set_cons_zero, List.set_cons_succ])
  refine wpAnyH_take (i := 4) (v := ?_) rfl (by kernel_rfl) (by kernel_rfl) (by kernel_rfl) (fun _ _ _ h => h) (Or.inl ⟨by rfl, ?_⟩) (by assumption) ?_
  rotate_left
  · (intro w hSw; (try dsimp only at hSw); go_simp; (try with_reducible rfl))
  (try simp only [Act.put, List.getElem_toArray, List.getElem_cons_succ, List.getElem_cons_zero, List.setIfInBounds_toArray, List.set_cons_zero, List.set_cons_succ])
  refine wpAnyH_ready (rs := [3]) (by kernel_rfl) (by simp) (AllReadyH.cons rfl (fun K hK => ?_) AllReadyH.nil)
  (first | ((first | (go_at_call 17; refine (HCL.out _ hHeld.2).mono ?_; rintro e w91 ⟨rfl, b91⟩) | (go_at_call 48; refine (HFC.out _).mono ?_; rintro e w92 ⟨rfl, b92⟩))) | (go_simp; (first | (go_at_call 17; refine (HCL.out _ hHeld.2).mono ?_; rintro e w91 ⟨rfl, b91⟩) | (go_at_call 48; refine (HFC.out _).mono ?_; rintro e w92 ⟨rfl, b92⟩))))
  (try (go_wp2_with fail))
  refine hK.out _ _ ?_ (fun hHeld => ?_)
  · ((try dsimp only); (first | exact ⟨⟨keep_in hHeld.1.1 b92, keep_in hHeld.1.2 b92⟩, hHeld.2.trans (b92.mono hHeld.2.size)⟩ | exact ⟨⟨keep_in hHeld.1.1 b91, keep_in hHeld.1.2 b91⟩, hHeld.2.trans (b91.mono hHeld.2.size)⟩ | exact ⟨⟨h0, h1⟩, (Below.refl _ _).drew⟩))
  clear hK K
  (try simp only [Act.put, List.getElem_toArray, List.getElem_cons_succ, List.getElem_cons_zero, List.setIfInBounds_toArray, List.set_cons_zero, List.set_cons_succ])
  refine wpAnyH_ready (rs := [5]) (by kernel_rfl) (by simp) (AllReadyH.cons rfl (fun K hK => ?_) AllReadyH.nil)
  (first | ((first | (go_at_call 17; refine (HCL.out _ hHeld.2).mono ?_; rintro e w91 ⟨rfl, b91⟩) | (go_at_call 48; refine (HFC.out _).mono ?_; rintro e w92 ⟨rfl, b92⟩))) | (go_simp; (first | (go_at_call 17; refine (HCL.out _ hHeld.2).mono ?_; rintro e w91 ⟨rfl, b91⟩) | (go_at_call 48; refine (HFC.out _).mono ?_; rintro e w92 ⟨rfl, b92⟩))))
  (try (go_wp2_with fail))
  refine hK.out _ _ ?_ (fun hHeld => ?_)
  · ((try dsimp only); (first | exact ⟨⟨keep_in hHeld.1.1 b92, keep_in hHeld.1.2 b92⟩, hHeld.2.trans (b92.mono hHeld.2.size)⟩ | exact ⟨⟨keep_in hHeld.1.1 b91, keep_in hHeld.1.2 b91⟩, hHeld.2.trans (b91.mono hHeld.2.size)⟩ | exact ⟨⟨h0, h1⟩, (Below.refl _ _).drew⟩))
  clear hK K
  (try simp only [Act.put, List.getElem_toArray, List.getElem_cons_succ, List.getElem_cons_zero, List.setIfInBounds_toArray, List.set_cons_zero, List.set_cons_succ])
  refine wpAnyH_take (i := 6) (v := ?_) rfl (by kernel_rfl) (by kernel_rfl) (by kernel_rfl) (fun _ _ _ h => h) (Or.inl ⟨by rfl, ?_⟩) (by assumption) ?_
  rotate_left
  · (intro w hSw; (try dsimp only at hSw); go_simp; (try with_reducible rfl))
  (try simp only [Act.put, List.getElem_toArray, List.getElem_cons_succ, List.getElem_cons_zero, List.setIfInBounds_toArray, List.set_cons_zero, List.set_cons_succ])
  refine wpAnyH_take (i := 7) (v := ?_) rfl (by kernel_rfl) (by kernel_rfl) (by kernel_rfl) (fun _ _ _ h => h) (Or.inl ⟨by rfl, ?_⟩) (by assumption) ?_
  rotate_left
  · (intro w hSw; (try dsimp only at hSw); go_simp; (try with_reducible rfl))
  (try simp only [Act.put, List.getElem_toArray, List.getElem_cons_succ, List.getElem_cons_zero, List.setIfInBounds_toArray, List.set_cons_zero, List.set_cons_succ])
  refine wpAnyH_done (by kernel_rfl) ?_ _
  refine NoPanic.normal ?_
  have HBE := Lib.hid hHeld.2
  clear hHeld h0 h1
  go_wp2_with fail
  go_ret
  exact ⟨rfl, HBE.out⟩
theorem implKeysOf_any (v : Value) (n : Int) (l : List (Int × Int)) (_w0 : (Lit.int .i64 n).wf = true) (bd : ∀ d ∈ l, (Lit.int .i64 d.1).wf = true ∧ (Lit.int .i64 d.2).wf = true) (w : World) (hr : ReadD w v l) (hl : l.length ≤ 1048576) :
    Calls Tryz.prog 12 #[.int .i64 n, v] w (RetI (koL n l) w) := by
  have hb1 := (Below.refl w.heap.size w).alloc (Nat.le_refl _) (.cells #[.int .i64 n] 3)
  have hb2 := hb1.alloc hb1.size (.cells #[v] 24)
  obtain ⟨c0, c1⟩ := two_boxes (w := w) (T := 3) (T' := 24) (a := .int .i64 n) (b := v)
  have HAD := Lib.hid (implAreDeps_any v n l _w0 bd _ (hr.kept hb2) hl)
  have HB2 := Lib.hid hb2
  cases ha : arD n l with
  | false =>
    rw [ha] at HAD
    have HE : Hid (koL n l = []) := Lib.hid (by unfold koL koC; rw [ha]; rfl)
    rw [HE.out]
    obtain ⟨a, cap, rfl, -⟩ := hr
    clear ha bd hb1 hb2
    go_enter Tryz.func12, Tryz.ntmps12
    go_wp2_with fail
    refine HAD.out.mono ?_
    rintro e w3 ⟨rfl, b3⟩
    have HB3 := Lib.hid (HB2.out.trans (b3.mono HB2.out.size))
    clear b3 c0 c1
    go_wp2_with fail
    go_ret
    exact ⟨_, rfl, OwnI.none _ _, HB3.out⟩
  | true =>
    rw [ha] at HAD
    obtain ⟨C, rfl, h1C, hC, hl20, hd⟩ := arD_n ha
    have HE : Hid (minS ((parts (C : Int)).filter (fun S => spn l C S.toNat)) = koL (C : Int) l) := Lib.hid (by
      unfold koL koC
      rw [if_pos ha]
      exact min_filt hC (fun x _ => rfl))
    have hpl := parts_len11 (C : Int)
    have hfl := List.length_filter_le (fun S => spn l C S.toNat) (parts (C : Int))
    have HPT := Lib.hid (fun w' => implParts_any (C : Int) w')
    have HFL := Lib.hid (fun vp w' (hb : Below w.heap.size w w') (k0 : w'.cell? ⟨w.heap.size, 0, none⟩ = some (.int .i64 (C : Int))) (k1 : w'.cell? ⟨w.heap.size + 1, 0, none⟩ = some v) (hp : ReadI w' vp (parts (C : Int))) => filtKO_any (.pointer (some ⟨w.heap.size, 0, none⟩)) (.pointer (some ⟨w.heap.size + 1, 0, none⟩)) (fun S => spn l C S.toNat) vp (parts (C : Int)) w' hp hpl
      (fun x hx w'' hb' => by
        obtain ⟨X, hX, rfl⟩ := (parts_mem hC x).1 hx
        exact keysFun_any v C h1C hC l ha _w0 bd X hX w.heap.size w'' (keep_in k0 hb') (keep_in k1 hb') (hr.kept (hb.trans (hb'.mono hb.size))) hl))
    have HMS := Lib.hid (fun vp w' (hp : ReadI w' vp ((parts (C : Int)).filter (fun S => spn l C S.toNat))) => implMinimalM_any vp _ w' hp (by omega) (filt_I6411 (C : Int) _))
    rw [HE.out] at HMS
    have HC2 := Lib.hid (And.intro c0 c1)
    obtain ⟨a, cap, rfl, -⟩ := hr
    clear ha bd hb1 hb2 hd hpl hfl HE
    go_enter Tryz.func12, Tryz.ntmps12
    go_wp2_with fail
    refine HAD.out.mono ?_
    rintro e w3 ⟨rfl, b3⟩
    have HB3 := Lib.hid (HB2.out.trans (b3.mono HB2.out.size))
    have HC3 := Lib.hid (And.intro (keep_in HC2.out.1 b3) (keep_in HC2.out.2 b3))
    clear b3 c0 c1 HC2
    obtain ⟨c0, c1⟩ := HC3.out
    go_wp2_with fail
    refine (HPT.out _).mono ?_
    rintro e w4 ⟨v4, rfl, o4, b4⟩
    have HB4 := Lib.hid (HB3.out.trans (b4.mono HB3.out.size))
    have HG := Lib.hid (HFL.out v4 w4 HB4.out (keep_in HC3.out.1 b4) (keep_in HC3.out.2 b4) o4.read)
    clear b4 c0 c1 o4 HC3 HB3
    go_wp2_with fail
    refine HG.out.mono ?_
    rintro e w5 ⟨v5, rfl, o5, b5⟩
    have HB5 := Lib.hid (HB4.out.trans (b5.mono HB4.out.size))
    have HN := Lib.hid (HMS.out v5 w5 o5.read)
    clear b5 o5
    go_wp2_with fail
    refine HN.out.mono ?_
    rintro e w6 ⟨v6, rfl, o6, b6⟩
    have HB6 := Lib.hid (HB5.out.trans (b6.mono HB5.out.size))
    have HO6 := Lib.hid (o6.base HB5.out.size)
    clear b6 o6
    go_wp2_with fail
    go_ret
    exact ⟨_, rfl, HO6.out, HB6.out⟩
theorem implPrimeColumns_any (v : Value) (n : Int) (l : List (Int × Int)) (_w0 : (Lit.int .i64 n).wf = true) (bd : ∀ d ∈ l, (Lit.int .i64 d.1).wf = true ∧ (Lit.int .i64 d.2).wf = true) (w : World) (hr : ReadD w v l) (hl : l.length ≤ 1048576) :
    Calls Tryz.prog 13 #[.int .i64 n, v] w fun e w' => e = .returned (.int .i64 (prZ n l)) ∧ Below w.heap.size w w' := by
  have HK := Lib.hid (implKeysOf_any v n l _w0 bd w hr hl)
  have HE : Hid (prZ n l = orL (koL n l) (koL n l).length) := Lib.hid rfl
  have hql := koL_len n l
  obtain ⟨q, hq⟩ : ∃ q, q = koL n l := ⟨_, rfl⟩
  rw [← hq] at HK HE hql
  obtain ⟨a, cap, rfl, -⟩ := hr
  clear hq bd
  go_enter Tryz.func13, Tryz.ntmps13
  go_wp2_with fail
  refine HK.out.mono ?_
  rintro e w1 ⟨v1, rfl, o1, b1⟩
  obtain ⟨a1, c1, rfl, hat⟩ := o1.read
  have HAT := Lib.hid hat
  have HB := Lib.hid b1
  clear hat o1 b1
  go_wp2_with fail
  go_loopw [5, 12] (fun xv iv wr => ∃ i : Nat, i ≤ q.length ∧ iv = .int .i64 (i : Int) ∧ xv = .int .i64 (orL q i) ∧ wr = w1) (fun _ iv _ => q.length - (intOf iv).toNat)
  case atStart => exact ⟨0, by omega, rfl, rfl, rfl⟩
  case round =>
    obtain ⟨i, hi, rfl, rfl, rfl⟩ := hrel
    by_cases hlt : i < q.length
    · have hz : ((i : Nat) : Int) < ((q.length : Nat) : Int) := by omega
      have z0 : (0 : Int) ≤ (i : Int) := by omega
      obtain ⟨x0, rfl, hc⟩ := HAT.out i hlt
      have hs : orL q (i + 1) = bits .or .i64 (orL q i) (q.getD i 0) := rfl
      rw [List.getD_eq_getElem?_getD, List.getElem?_eq_getElem hlt, Option.getD_some] at hs
      obtain ⟨y, hy⟩ : ∃ y, y = q[i] := ⟨_, rfl⟩
      obtain ⟨z, hzz⟩ : ∃ z, z = orL q i := ⟨_, rfl⟩
      rw [← hy] at hc hs
      rw [← hzz] at hs ⊢
      have HS := Lib.hid hs
      clear hy hzz hs
      go_wp2_with fail
      go_roundw
      case rel => exact ⟨i + 1, by omega, by go_num, by rw [HS.out], trivial⟩
      case measure => simp [intOf]; omega
    · obtain rfl : i = q.length := by omega
      go_wp2_with fail
      go_ret
      exact ⟨ret_int HE.out.symm, HB.out⟩
end
end Go.Proofs.YtgdjohicjpopfaaGreat
