/- Texts of this claim, merged: PdL, PdM, ImE, PcF, FnRdB. Conditions: as stated. -/
import Derived.Test.YtnbjcelfdppkcacGreatPdBm
import Derived.Test.YtnbjcelfdppkcacGreatWd33
import Derived.Test.YtnbjcelfdppkcacGreatClQm
import Derived.Test.YtnbjcelfdppkcacGreatWd34
import Derived.Test.YtnbjcelfdppkcacGreatWd14
import Derived.Test.YtnbjcelfdppkcacGreatPcCm
import Derived.Test.YtnbjcelfdppkcacGreatWd20
import Derived.Test.YtnbjcelfdppkcacGreatWd24
import Derived.Test.YtnbjcelfdppkcacGreatPdKm
import Derived.Test.YtnbjcelfdppkcacGreatWd3
import Derived.Deep.Quiet
import Derived.BigQuiet
namespace Go.Proofs.YtnbjcelfdppkcacGreat
open Go.RowKit

theorem candL_len11 (C : Nat) (hC : C ≤ 5) : (candL C).length ≤ 160 := cand_len C C hC (Nat.le_refl _)
set_option maxHeartbeats 1600000 in
theorem filtPJ_any (c1 c2 c3 : Value) (p : Int × Int → Bool) (v : Value) (l : List (Int × Int)) (w : World) (hr : ReadD w v l) (hl : l.length ≤ 1048576)
    (HP : ∀ x, x ∈ l → ∀ w', Below w.heap.size w w' → Calls Tryz.prog 55 #[.agg #[.int .i64 x.1, .int .i64 x.2], c1, c2, c3] w' fun e w'' => e = .returned (.bool (p x)) ∧ Below w'.heap.size w' w'') :
    Calls Tryz.prog 92 #[v, .func (.func 55) #[] #[c1, c2, c3]] w (RetD (l.filter p) w) := by
  obtain ⟨i0, hi, hz0, hz1, hz2⟩ := info_parts infoDp
  have HI : Hid (_ ∧ _ ∧ _ ∧ _) := Lib.hid ⟨hi, hz0, hz1, hz2⟩
  clear hi hz0 hz1 hz2
  have HQ := Lib.hid HP
  have HN := Lib.hid (fun k hk => filter_next p l (0, 0) k hk)
  have HL := Lib.hid (fun k => List.length_filter_le p (l.take k))
  obtain ⟨a, cap, rfl, ha⟩ := hr
  have HA := Lib.hid ha
  clear ha HP
  go_enter Tryz.func92, Tryz.ntmps92
  go_wp2_with (at_make; refine wpList_make_own _ rfl _ _ 24 rfl w.heap.size 40 i0 (.agg #[.int .i64 0, .int .i64 0]) 2 Tryz.underlying24 HI.out.1 HI.out.2.1 HI.out.2.2.1 .i64 .i64 _ l.length rfl rfl rfl (by rw [HI.out.2.2.2]; omega) (by unfold maxLen; omega) (Nat.le_refl _) ?_; intro w0 hown0 hgrow0)
  have hb0 := (Below.refl w.heap.size w).grown hgrow0 (Nat.le_refl _) (by simp)
  have hown : OwnD w0 w.heap.size _ [] := hown0
  clear hown0 hgrow0
  go_loopw [5, 13] (fun ov iv wr => ∃ (k : Nat) (q : List (Int × Int)), k ≤ l.length ∧ iv = .int .i64 (k : Int) ∧ Hid (q = (l.take k).filter p) ∧ OwnD wr w.heap.size ov q ∧ Below w.heap.size w wr) (fun _ iv _ => l.length - (intOf iv).toNat)
  case atStart => exact ⟨0, [], by omega, rfl, Lib.hid rfl, hown, hb0⟩
  case round =>
    clear hown hb0
    obtain ⟨k, q, hk, rfl, hq, ho, hb⟩ := hrel
    by_cases hlt : k < l.length
    · obtain ⟨b, o, rfl, h0, h1⟩ := HA.out k hlt
      replace h0 := (hb.cell (World.block_lt_of_cell? w _ h0)).trans h0
      replace h1 := (hb.cell (World.block_lt_of_cell? w _ h1)).trans h1
      have hm : l.getD k (0, 0) ∈ l := by rw [List.getD_eq_getElem?_getD, List.getElem?_eq_getElem hlt]; exact List.getElem_mem hlt
      have hll : q.length ≤ 1048576 := by rw [hq.out]; have := HL.out k; rw [List.length_take] at this; omega
      have HS := Lib.hid (HN.out k hlt)
      obtain ⟨⟨y0, y1⟩, hy⟩ : ∃ y, y = l.getD k (0, 0) := ⟨_, rfl⟩
      rw [← hy] at h0 h1 HS hm
      simp only at h0 h1
      have HC := Lib.hid (HQ.out (y0, y1) hm)
      have hwb := (Below.refl wr.heap.size wr).alloc (Nat.le_refl _) (.cells #[.int .i64 y0, .int .i64 y1] 40)
      have HB := Lib.hid (hb.trans (hwb.mono hb.size))
      have HO := Lib.hid (ho.below hwb (fun k hk => (ho.lt k hk).2))
      obtain ⟨e0, e1⟩ := zero2 wr 40 (.int .i64 y0) (.int .i64 y1)
      clear hy hm ho hwb
      have z0 : (0 : Int) ≤ (k : Int) := by omega
      have z1 : (k : Int) < (l.length : Int) := by omega
      cases hp : p (y0, y1) with
      | true =>
        rw [hp] at HC HS
        rw [if_pos rfl] at HS
        clear hp
        go_wp2_with fail
        refine (HC.out _ HB.out).mono ?_
        rintro e w1 ⟨rfl, b1⟩
        replace e0 := (b1.cell (World.block_lt_of_cell? _ _ e0)).trans e0
        replace e1 := (b1.cell (World.block_lt_of_cell? _ _ e1)).trans e1
        have ho1 := HO.out.below b1 (fun k hk => (HO.out.lt k hk).2)
        have hb1 := HB.out.trans (b1.mono HB.out.size)
        clear b1
        go_wp2_with (at_builtin; refine wpList_append_own _ rfl _ _ 24 rfl w.heap.size 40 i0 (.agg #[.int .i64 0, .int .i64 0]) 2 16 Tryz.underlying24 HI.out.1 HI.out.2.1 HI.out.2.2.1 HI.out.2.2.2 rfl (by decide) _ _ _ rfl (World.ownsRow.alloc ho1 _) ⟨w1.heap.size, 0, none⟩ 1 1 [.int .i64 y0, .int .i64 y1] rfl rfl (cell_two_new _ _ _ _) (two_i64 _ _) (by unfold maxLen; omega) (by omega) (le_alloc hb1 (Nat.le_refl _) _) ?_; intro v1 w2 hown1 hgrow1 _)
        have ho2 := OwnD.snoc hown1
        have hb2 := (hb1.alloc hb1.size (.cells #[.int .i64 y0, .int .i64 y1] 40)).grown hgrow1 (by simp; have := hb1.size; omega) (fun k hk => (OwnD.lt ho1 k hk).1)
        clear hown1 hgrow1
        go_wp2_with fail
        go_roundw
        case rel => exact ⟨k + 1, _, by omega, by go_num, Lib.hid (by rw [HS.out, ← hq.out]), ho2, hb2⟩
        case measure => simp [intOf]; omega
      | false =>
        rw [hp] at HC HS
        rw [if_neg (by decide)] at HS
        clear hp
        go_wp2_with fail
        refine (HC.out _ HB.out).mono ?_
        rintro e w1 ⟨rfl, b1⟩
        replace e0 := (b1.cell (World.block_lt_of_cell? _ _ e0)).trans e0
        replace e1 := (b1.cell (World.block_lt_of_cell? _ _ e1)).trans e1
        have ho1 := HO.out.below b1 (fun k hk => (HO.out.lt k hk).2)
        have hb1 := HB.out.trans (b1.mono HB.out.size)
        clear b1
        go_wp2_with fail
        go_roundw
        case rel => exact ⟨k + 1, _, by omega, by go_num, Lib.hid (by rw [HS.out, ← hq.out]), ho1, hb1⟩
        case measure => simp [intOf]; omega
    · obtain rfl : k = l.length := by omega
      go_wp2_with fail
      go_ret
      exact ⟨_, rfl, by have := hq.out; rw [List.take_length] at this; rw [← this]; exact ho, hb⟩
set_option maxHeartbeats 1600000 in
theorem leastPJ_any (c1 c2 c3 : Value) (p : Int × Int → Bool) (C : Nat) (hC : C ≤ 5) (w : World)
    (HP : ∀ x, x ∈ candL C → ∀ w', Below w.heap.size w w' → Calls Tryz.prog 55 #[.agg #[.int .i64 x.1, .int .i64 x.2], c1, c2, c3] w' fun e w'' => e = .returned (.bool (p x)) ∧ Below w'.heap.size w' w'') :
    Calls Tryz.prog 54 #[.int .i64 (C : Int), .func (.func 55) #[] #[c1, c2, c3]] w (RetD (uncL ((candL C).filter p)) w) := by
  have HC := Lib.hid (candOf_any C hC w)
  have hlen := candL_len11 C hC
  have hlf := List.length_filter_le p (candL C)
  have HF := Lib.hid (fun v w' (hb : Below w.heap.size w w') (hr : ReadD w' v (candL C)) => filtPJ_any c1 c2 c3 p v (candL C) w' hr (by omega) (fun x hx w'' hb' => HP x hx w'' (hb.trans (hb'.mono hb.size))))
  have HU := Lib.hid (fun v w' (hr : ReadD w' v ((candL C).filter p)) => uncovered_any v ((candL C).filter p) w' hr (by omega))
  clear HP hlen hlf
  go_enter Tryz.func54, Tryz.ntmps54
  go_wp2_with fail
  refine HC.out.mono ?_
  rintro e w1 ⟨v1, rfl, o1, b1⟩
  have HG := Lib.hid (HF.out v1 w1 b1 o1.read)
  clear o1
  go_wp2_with fail
  refine HG.out.mono ?_
  rintro e w2 ⟨v2, rfl, o2, b2⟩
  have hb2 := b1.trans (b2.mono b1.size)
  have HV := Lib.hid (HU.out v2 w2 o2.read)
  clear o2 b1 b2
  go_wp2_with fail
  refine HV.out.mono ?_
  rintro e w3 ⟨v3, rfl, o3, b3⟩
  have hb3 := hb2.trans (b3.mono hb2.size)
  have o4 := o3.base hb2.size
  clear o3 b3 hb2
  go_wp2_with fail
  go_ret
  exact ⟨_, rfl, o4, hb3⟩
section
set_option maxRecDepth 20000
set_option maxHeartbeats 3200000
theorem within_any (L R T : Nat) (hL : L < 32) (hR : R < 5) (hT : T < 32) (w : World) :
    Calls Tryz.prog 56 #[.agg #[.int .i64 (L : Int), .int .i64 (R : Int)], .int .i64 (T : Int)] w fun e w' => e = .returned (.bool (subN L T && bitB T R)) ∧ Below w.heap.size w w' := by
  have hb1 := (Below.refl w.heap.size w).alloc (Nat.le_refl _) (.cells #[.int .i64 (L : Int), .int .i64 (R : Int)] 40)
  have HB1 := Lib.hid hb1
  have HX1 := Lib.hid (bx_new w L R)
  have HAP := Lib.hid (fun w' => applies10_any L T (R : Int) hL hT w')
  have HHS := Lib.hid (fun w' => has_any T R (by omega) w')
  have c0 := HX1.out.c0
  have c1 := HX1.out.c1
  clear hb1
  cases hs : subN L T with
  | false =>
    rw [hs] at HAP
    clear hs
    go_enter Tryz.func56, Tryz.ntmps56
    go_wp2_with fail
    refine (HAP.out _).mono ?_
    rintro e w3 ⟨rfl, b3⟩
    have HB3 := Lib.hid (HB1.out.trans (b3.mono HB1.out.size))
    clear b3 c0 c1
    go_wp2_with fail
    go_ret
    exact ⟨rfl, HB3.out⟩
  | true =>
    rw [hs] at HAP
    clear hs
    obtain ⟨q, hq⟩ : ∃ q, q = bitB T R := ⟨_, rfl⟩
    rw [← hq] at HHS ⊢
    clear hq
    go_enter Tryz.func56, Tryz.ntmps56
    go_wp2_with fail
    refine (HAP.out _).mono ?_
    rintro e w3 ⟨rfl, b3⟩
    have HB3 := Lib.hid (HB1.out.trans (b3.mono HB1.out.size))
    have HX3 := Lib.hid (HX1.out.keep b3)
    clear b3 c0 c1
    have c1 := HX3.out.c1
    go_wp2_with fail
    refine (HHS.out _).mono ?_
    rintro e w4 ⟨rfl, rfl⟩
    go_wp2_with fail
    go_ret
    exact ⟨ret_b (by rw [Bool.true_and]), HB3.out⟩
theorem projFun_any (v : Value) (n : Int) (l : List (Int × Int)) (_w0 : (Lit.int .i64 n).wf = true) (bd : ∀ d ∈ l, (Lit.int .i64 d.1).wf = true ∧ (Lit.int .i64 d.2).wf = true) (T L R : Nat) (hL : L < 32) (hR : R < 5) (hT : T < 32) (b : Nat) (w : World) (h0 : w.cell? ⟨b, 0, none⟩ = some (.int .i64 n)) (h1 : w.cell? ⟨b + 1, 0, none⟩ = some v) (h2 : w.cell? ⟨b + 2, 0, none⟩ = some (.int .i64 (T : Int))) (hr : ReadD w v l) (hl : l.length ≤ 1048576) :
    Calls Tryz.prog 55 #[.agg #[.int .i64 (L : Int), .int .i64 (R : Int)], .pointer (some ⟨b + 2, 0, none⟩), .pointer (some ⟨b, 0, none⟩), .pointer (some ⟨b + 1, 0, none⟩)] w fun e w' => e = .returned (.bool (gp l n T ((L : Int), (R : Int)))) ∧ Below w.heap.size w w' := by
  have hb1 := (Below.refl w.heap.size w).alloc (Nat.le_refl _) (.cells #[.int .i64 (L : Int), .int .i64 (R : Int)] 40)
  have HB1 := Lib.hid hb1
  have HX1 := Lib.hid (bx_new w L R)
  have HWI := Lib.hid (fun w' => within_any L R T hL hR hT w')
  have HIM := Lib.hid (fun w' (hb : Below w.heap.size w w') => implImpliesDep_any v n (L : Int) (R : Int) l _w0 bd (wf_small11 L hL) (wf_small11 R (by omega)) w' (hr.kept hb) hl)
  have HK := Lib.hid (fun w' (hb : Below w.heap.size w w') => And.intro (keep_in h0 hb) (And.intro (keep_in h1 hb) (keep_in h2 hb)))
  have hE : gp l n T ((L : Int), (R : Int)) = ((subN L T && bitB T R) && impB n l ((L : Int), (R : Int))) := by unfold gp; rw [Bool.and_assoc]; rfl
  rw [hE]
  obtain ⟨q, hq⟩ : ∃ q, q = impB n l ((L : Int), (R : Int)) := ⟨_, rfl⟩
  rw [← hq] at HIM ⊢
  have c0 := HX1.out.c0
  have c1 := HX1.out.c1
  obtain ⟨a, cap, rfl, -⟩ := hr
  clear hE hq bd h0 h1 h2
  obtain ⟨h0, h1, h2⟩ := HK.out _ hb1
  clear hb1
  cases hs : subN L T && bitB T R with
  | false =>
    rw [hs] at HWI
    clear hs
    go_enter Tryz.func55, Tryz.ntmps55
    go_wp2_with fail
    refine (HWI.out _).mono ?_
    rintro e w3 ⟨rfl, b3⟩
    have HB3 := Lib.hid (HB1.out.trans (b3.mono HB1.out.size))
    clear b3 c0 c1 h0 h1 h2
    go_wp2_with fail
    go_ret
    exact ⟨rfl, HB3.out⟩
  | true =>
    rw [hs] at HWI
    clear hs
    go_enter Tryz.func55, Tryz.ntmps55
    go_wp2_with fail
    refine (HWI.out _).mono ?_
    rintro e w3 ⟨rfl, b3⟩
    have HB3 := Lib.hid (HB1.out.trans (b3.mono HB1.out.size))
    have HX3 := Lib.hid (HX1.out.keep b3)
    clear b3 c0 c1 h0 h1 h2
    have c0 := HX3.out.c0
    have c1 := HX3.out.c1
    obtain ⟨h0, h1, h2⟩ := HK.out _ HB3.out
    go_wp2_with fail
    refine (HIM.out _ HB3.out).mono ?_
    rintro e w4 ⟨rfl, b4⟩
    have HB4 := Lib.hid (HB3.out.trans (b4.mono HB3.out.size))
    clear b4 c0 c1 h0 h1 h2
    go_wp2_with fail
    go_ret
    exact ⟨ret_b (by rw [Bool.true_and]), HB4.out⟩
end
end Go.Proofs.YtnbjcelfdppkcacGreat
namespace Go.Proofs.YtnbjcelfdppkcacGreat
open Go.RowKit

theorem isA_nat11 {n s : Int} (h : isA n s = true) : ∃ C T : Nat, n = (C : Int) ∧ s = (T : Int) ∧ C ≤ 5 ∧ T < 2 ^ C := by
  unfold isA at h
  rw [decide_eq_true_iff] at h
  obtain ⟨⟨n0, n5⟩, s0, s1⟩ := h
  have hz2 : ((2 ^ n.toNat : Nat) : Int) = (2 : Int) ^ n.toNat := by rw [Int.natCast_pow]; rfl
  exact ⟨n.toNat, s.toNat, by omega, by omega, by omega, by omega⟩
theorem candL_at {C : Nat} {x : Int × Int} (h : x ∈ candL C) : ∃ L R : Nat, x = ((L : Int), (R : Int)) ∧ L < 32 ∧ R < C := by
  obtain ⟨r, r1, S, r2, -, rfl⟩ := (mdOut_mem _ _ _ _).1 h
  obtain ⟨X, rfl, hX⟩ := parts_small _ S r2
  exact ⟨X, r, rfl, hX, r1⟩
theorem pj_list {C : Nat} (hC : C ≤ 5) (l : List (Int × Int)) (T : Nat) (hT : isA (C : Int) (T : Int) = true) : uncL ((candL C).filter (gp l (C : Int) T)) = pjL (C : Int) l (T : Int) := by
  unfold pjL
  rw [hT, Bool.and_true]
  cases ha : arD (C : Int) l with
  | true =>
    obtain ⟨C', e, h1, -⟩ := arD_n ha
    obtain rfl : C = C' := by omega
    rw [if_pos rfl]
    exact pj_unc h1 hC ha
  | false =>
    rw [if_neg (by decide)]
    have : (candL C).filter (gp l (C : Int) T) = [] := by
      rw [List.filter_eq_nil_iff]
      intro x _ h
      unfold gp impB at h
      rw [ha] at h
      simp at h
    rw [this]
    rfl
section
set_option maxRecDepth 20000
set_option maxHeartbeats 3200000
theorem implProjectDeps_any (v : Value) (n s : Int) (l : List (Int × Int)) (_w0 : (Lit.int .i64 n).wf = true) (bd : ∀ d ∈ l, (Lit.int .i64 d.1).wf = true ∧ (Lit.int .i64 d.2).wf = true) (_w2 : (Lit.int .i64 s).wf = true) (w : World) (hr : ReadD w v l) (hl : l.length ≤ 1048576) :
    Calls Tryz.prog 19 #[.int .i64 n, v, .int .i64 s] w (RetD (pjL n l s) w) := by
  have hb1 := (Below.refl w.heap.size w).alloc (Nat.le_refl _) (.cells #[.int .i64 n] 3)
  have hb2 := hb1.alloc hb1.size (.cells #[v] 24)
  have hb3 := hb2.alloc hb2.size (.cells #[.int .i64 s] 3)
  obtain ⟨c0, c1⟩ := two_boxes (w := w) (T := 3) (T' := 24) (a := .int .i64 n) (b := v)
  have c2 := one_at ((w.alloc (.cells #[.int .i64 n] 3)).alloc (.cells #[v] 24)) 3 (.int .i64 s)
  have hba := (Below.refl ((w.alloc (.cells #[.int .i64 n] 3)).alloc (.cells #[v] 24)).heap.size _).alloc (Nat.le_refl _) (.cells #[.int .i64 s] 3)
  replace c0 := keep_in c0 hba
  replace c1 := keep_in c1 hba
  rw [World.size_alloc, World.size_alloc] at c2
  have HIA := Lib.hid (fun w' => implIsA_any n s (wf_i64_ge _w2) (wf_i64_le _w2) w')
  have HB3 := Lib.hid hb3
  cases hs : isA n s with
  | false =>
    rw [hs] at HIA
    have HE : Hid (pjL n l s = []) := Lib.hid (by unfold pjL; rw [hs, Bool.and_false]; rfl)
    rw [HE.out]
    obtain ⟨a, cap, rfl, -⟩ := hr
    clear hs bd hb1 hb2 hb3 hba
    go_enter Tryz.func19, Tryz.ntmps19
    go_wp2_with fail
    refine (HIA.out _).mono ?_
    rintro e w4 ⟨rfl, b4⟩
    have HB4 := Lib.hid (HB3.out.trans (b4.mono HB3.out.size))
    clear b4 c0 c1 c2
    go_wp2_with fail
    go_ret
    exact ⟨_, rfl, OwnD.nil _ _, HB4.out⟩
  | true =>
    rw [hs] at HIA
    obtain ⟨C, T, rfl, rfl, hC, hT⟩ := isA_nat11 hs
    have h32 := two5 hC
    have HE := Lib.hid (pj_list hC l T hs)
    have HFN := Lib.hid (fun x (hx : x ∈ candL C) w' (hb : Below w.heap.size w w') (k0 : w'.cell? ⟨w.heap.size, 0, none⟩ = some (.int .i64 (C : Int))) (k1 : w'.cell? ⟨w.heap.size + 1, 0, none⟩ = some v) (k2 : w'.cell? ⟨w.heap.size + 2, 0, none⟩ = some (.int .i64 (T : Int))) => show Calls Tryz.prog 55 #[.agg #[.int .i64 x.1, .int .i64 x.2], .pointer (some ⟨w.heap.size + 2, 0, none⟩), .pointer (some ⟨w.heap.size, 0, none⟩), .pointer (some ⟨w.heap.size + 1, 0, none⟩)] w' fun e w'' => e = .returned (.bool (gp l (C : Int) T x)) ∧ Below w'.heap.size w' w'' from by
      obtain ⟨L, R, rfl, hL, hR⟩ := candL_at hx
      exact projFun_any v (C : Int) l _w0 bd T L R hL (by omega) (by omega) w.heap.size w' k0 k1 k2 (hr.kept hb) hl)
    have HLD := Lib.hid (fun w' (hb : Below w.heap.size w w') (k0 : w'.cell? ⟨w.heap.size, 0, none⟩ = some (.int .i64 (C : Int))) (k1 : w'.cell? ⟨w.heap.size + 1, 0, none⟩ = some v) (k2 : w'.cell? ⟨w.heap.size + 2, 0, none⟩ = some (.int .i64 (T : Int))) => leastPJ_any (.pointer (some ⟨w.heap.size + 2, 0, none⟩)) (.pointer (some ⟨w.heap.size, 0, none⟩)) (.pointer (some ⟨w.heap.size + 1, 0, none⟩)) (gp l (C : Int) T) C hC w'
      (fun x hx w'' hb' => HFN.out x hx w'' (hb.trans (hb'.mono hb.size)) (keep_in k0 hb') (keep_in k1 hb') (keep_in k2 hb')))
    rw [HE.out] at HLD
    have HC3 := Lib.hid (And.intro c0 (And.intro c1 c2))
    obtain ⟨a, cap, rfl, -⟩ := hr
    clear hs bd hb1 hb2 hb3 hba HE HFN hT
    go_enter Tryz.func19, Tryz.ntmps19
    go_wp2_with fail
    refine (HIA.out _).mono ?_
    rintro e w4 ⟨rfl, b4⟩
    have HB4 := Lib.hid (HB3.out.trans (b4.mono HB3.out.size))
    have HC4 := Lib.hid (And.intro (keep_in HC3.out.1 b4) (And.intro (keep_in HC3.out.2.1 b4) (keep_in HC3.out.2.2 b4)))
    clear b4 c0 c1 c2 HC3
    obtain ⟨c0, c1, c2⟩ := HC4.out
    go_wp2_with fail
    refine (HLD.out _ HB4.out c0 c1 c2).mono ?_
    rintro e w5 ⟨v5, rfl, o5, b5⟩
    have HB5 := Lib.hid (HB4.out.trans (b5.mono HB4.out.size))
    have HO5 := Lib.hid (o5.base HB4.out.size)
    clear b5 o5 c0 c1 c2
    go_wp2_with fail
    go_ret
    exact ⟨_, rfl, HO5.out, HB5.out⟩
end
end Go.Proofs.YtnbjcelfdppkcacGreat
namespace Go.Proofs.YtnbjcelfdppkcacGreat
open Go.RowKit

set_option maxHeartbeats 800000 in
theorem slEqual_any (v v' : Value) (l l' : List Int) (w : World) (hr : ReadI w v l) (hr' : ReadI w v' l') (hl : l.length ≤ 1000000000) :
    Calls Tryz.prog 39 #[v, v'] w fun e w' => e = .returned (.bool (eqB l l')) ∧ ∃ m, w' = w.drewN m := by
  obtain ⟨a, cap, rfl, ha⟩ := hr
  obtain ⟨a', cap', rfl, ha'⟩ := hr'
  have HA := Lib.hid ha
  have HA' := Lib.hid ha'
  clear ha ha'
  by_cases hlen : l.length = l'.length
  · have hne : ((l.length : Int) != (l'.length : Int)) = false := by simp [hlen]
    have HL := Lib.hid hlen
    clear hlen
    go_enter Tryz.func39, Tryz.ntmps39
    go_wp2_with fail
    go_loopw [13] (fun iv wr => ∃ (k n : Nat), k ≤ l.length ∧ iv = .int .i64 (k : Int) ∧ Hid (l.take k = l'.take k) ∧ wr = w.drewN n) (fun iv _ => l.length - (intOf iv).toNat)
    case atStart => exact ⟨0, 0, by omega, rfl, Lib.hid rfl, rfl⟩
    case round =>
      obtain ⟨k, n, hk, rfl, hsame, rfl⟩ := hrel
      by_cases hlt : k < l.length
      · have hlt' : k < l'.length := by have := HL.out; omega
        obtain ⟨x, rfl, hx⟩ := HA.out k hlt
        obtain ⟨x', rfl, hx'⟩ := HA'.out k hlt'
        have z0 : (0 : Int) ≤ (k : Int) := by omega
        have z1 : (k : Int) < (l.length : Int) := by omega
        have z2 : (k : Int) < (l'.length : Int) := by omega
        by_cases he : l[k] = l'[k]
        · have hb : (l[k] != l'[k]) = false := by simp [he]
          have HE := Lib.hid he
          clear he
          go_wp2_with fail
          go_quiet (fail)
          go_wp2_with fail
          go_roundw
          case rel => exact ⟨k + 1, _, by omega, by go_num, Lib.hid (by rw [List.take_succ_eq_append_getElem hlt, List.take_succ_eq_append_getElem hlt', hsame.out, HE.out]), rfl⟩
          case measure => simp [intOf]; omega
        · have hb : (l[k] != l'[k]) = true := by simpa using he
          have HE := Lib.hid he
          clear he
          go_wp2_with fail
          go_quiet (fail)
          go_wp2_with fail
          go_ret
          exact ⟨ret_b (by unfold eqB; rw [decide_eq_false]; intro e; apply HE.out; simp only [e]), _, World.drewN_drewN _ _ _⟩
      · go_wp2_with fail
        go_ret
        exact ⟨ret_b (by
          unfold eqB
          rw [decide_eq_true]
          have := hsame.out
          rwa [List.take_of_length_le (by omega), List.take_of_length_le (by have := HL.out; omega)] at this), _, rfl⟩
  · have hne : ((l.length : Int) != (l'.length : Int)) = true := by simp; omega
    have HL := Lib.hid hlen
    clear hlen
    go_enter Tryz.func39, Tryz.ntmps39
    go_wp2_with fail
    go_ret
    exact ⟨ret_b (by unfold eqB; rw [decide_eq_false]; intro e; exact HL.out (by rw [e])), 0, rfl⟩

end Go.Proofs.YtnbjcelfdppkcacGreat
namespace Go.Proofs.YtnbjcelfdppkcacGreat
open Go.RowKit

section
set_option maxRecDepth 20000
set_option maxHeartbeats 6400000
theorem ixZ_closed (l : List (Int × Int)) (x : Nat) : clB l x = decide (ixZ (fun d : Int × Int => subN d.1.toNat x && !bitB x d.2.toNat) l < 0) := by
  rw [ixZ_neg]
  unfold clB
  congr 1
  funext d
  cases subN d.1.toNat x <;> cases bitB x d.2.toNat <;> rfl
theorem implClosedSets_any (v : Value) (n : Int) (l : List (Int × Int)) (_w0 : (Lit.int .i64 n).wf = true) (bd : ∀ d ∈ l, (Lit.int .i64 d.1).wf = true ∧ (Lit.int .i64 d.2).wf = true) (w : World) (hr : ReadD w v l) (hl : l.length ≤ 1048576) :
    Calls Tryz.prog 40 #[.int .i64 n, v] w (RetI (clsL n l) w) := by
  obtain ⟨i0, hi, hz0, hz1, hz2⟩ := info_parts info3i
  have HI : Hid (_ ∧ _ ∧ _ ∧ _) := Lib.hid ⟨hi, hz0, hz1, hz2⟩
  clear hi hz0 hz1 hz2
  have HAD := Lib.hid (implAreDeps_any v n l _w0 bd w hr hl)
  clear bd
  cases ha : arD n l with
  | false =>
    rw [ha] at HAD
    have HE : Hid (clsL n l = []) := Lib.hid (by unfold clsL; rw [ha]; rfl)
    obtain ⟨a, cap, rfl, -⟩ := hr
    clear ha
    go_enter Tryz.func40, Tryz.ntmps40
    go_wp2_with fail
    refine HAD.out.mono ?_
    rintro e w2 ⟨rfl, b2⟩
    go_wp2_with fail
    go_ret
    exact ⟨_, rfl, by rw [HE.out]; exact (World.ownsRow_nil _ _ _ _ : OwnI w2 w.heap.size (.slice .none 0 0) []), b2⟩
  | true =>
    rw [ha] at HAD
    obtain ⟨C, rfl, hC1, hC5, -, hd⟩ := arD_n ha
    have HE : Hid (clsL (C : Int) l = brdTo (clB l) (2 ^ C)) := Lib.hid (by unfold clsL; rw [ha]; rfl)
    have HC := Lib.hid (fun (x : Nat) (hx : x < 32) w' (hb : Below w.heap.size w w') => firstEnl_any C hC5 v l hd x hx w' (hr.kept hb) hl)
    have HCL := Lib.hid (fun (x : Nat) => ixZ_closed l x)
    have HBS : Hid (∀ x : Nat, brdTo (clB l) (x + 1) = if clB l x = true then brdTo (clB l) x ++ [(x : Int)] else brdTo (clB l) x) := Lib.hid (fun _ => rfl)
    have HBL := Lib.hid (brd_len (clB l))
    obtain ⟨M, hM, hM31, hMZ⟩ : ∃ M : Nat, M + 1 = 2 ^ C ∧ M ≤ 31 ∧ ((2 : Int) ^ C - 1) = (M : Int) := by
      have h32 := two5 hC5
      have hp : 0 < 2 ^ C := Nat.pow_pos (by omega)
      have hz : ((2 ^ C : Nat) : Int) = (2 : Int) ^ C := by rw [Int.natCast_pow]; rfl
      exact ⟨2 ^ C - 1, by omega, by omega, by omega⟩
    have HAL : Hid (∀ w', Calls Tryz.prog 45 #[.int .i64 (C : Int)] w' fun e w'' => e = .returned (.int .i64 (M : Int)) ∧ w' = w'') := Lib.hid (fun w' => by have h := first_any (C : Int) w' (by omega) (by omega); rw [show ((C : Int)).toNat = C from rfl, hMZ] at h; exact h)
    rw [← hM] at HE
    obtain ⟨a, cap, rfl, -⟩ := hr
    clear ha hd hM hMZ
    go_enter Tryz.func40, Tryz.ntmps40
    go_wp2_with fail
    refine HAD.out.mono ?_
    rintro e w2 ⟨rfl, b2⟩
    have HB2 := Lib.hid b2
    clear b2
    go_wp2_with fail
    go_loopw [5, 6] (fun ov xv wr => ∃ x : Nat, x ≤ M + 1 ∧ xv = .int .i64 (x : Int) ∧ Hid (OwnI wr w.heap.size ov (brdTo (clB l) x)) ∧ Hid (Below w.heap.size w wr)) (fun _ xv _ => M + 1 - (intOf xv).toNat)
    case atStart => exact ⟨0, by omega, rfl, Lib.hid (World.ownsRow_nil _ _ _ _ : OwnI w2 w.heap.size (.slice .none 0 0) []), HB2⟩
    case round =>
      clear HB2
      obtain ⟨x, hx, rfl, HO, HB⟩ := hrel
      obtain ⟨w3, hw⟩ : ∃ w', w' = wr := ⟨_, rfl⟩
      rw [← hw] at HO HB ⊢
      clear hw
      have hql := HBL.out x
      have hbs := HBS.out x
      obtain ⟨q, hq⟩ : ∃ q, q = brdTo (clB l) x := ⟨_, rfl⟩
      rw [← hq] at HO hql hbs
      have z0 : (0 : Int) ≤ (x : Int) := by omega
      by_cases hlt : x ≤ M
      · have z1 : (x : Int) ≤ (M : Int) := by omega
        have hcl := HCL.out x
        have HCX := Lib.hid (HC.out x (by omega))
        obtain ⟨y, hy⟩ : ∃ y, y = ixZ (fun d : Int × Int => subN d.1.toNat x && !bitB x d.2.toNat) l := ⟨_, rfl⟩
        rw [← hy] at hcl HCX
        have HBSX := Lib.hid hbs
        clear hq hy hbs
        go_wp2_with fail
        refine (HAL.out _).mono ?_
        rintro e w' ⟨rfl, rfl⟩
        go_wp2_with fail
        refine (HCX.out _ HB.out).mono ?_
        rintro e w5 ⟨rfl, b5⟩
        have HO5 := Lib.hid (HO.out.kept b5 (fun k hk => (OwnI.lt HO.out k hk).2))
        have HB5 := Lib.hid (HB.out.trans (b5.mono HB.out.size))
        clear b5
        cases hc : clB l x with
        | true =>
          rw [hc] at hcl HBSX
          have hneg : y < 0 := by simpa using hcl.symm
          have ho6 := HO5.out
          clear hc hcl
          go_wp2_with (at_builtin; refine wpList_append_own _ rfl _ _ 31 rfl w.heap.size 3 i0 (.int .i64 0) 1 8 Tryz.underlying31 HI.out.1 HI.out.2.1 HI.out.2.2.1 HI.out.2.2.2 rfl (by decide) _ _ _ rfl (World.ownsRow.alloc ho6 _) ⟨w5.heap.size, 0, none⟩ 1 1 [.int .i64 (x : Int)] rfl rfl (cell_one_new _ _ _) (one_i64 _) (by unfold maxLen; omega) (by omega) (by have := HB5.out.size; simp; omega) ?_; intro v7 w7 hown7 hgrow7 _; have HO7 := Lib.hid (OwnI.snoc hown7); have HB7 := Lib.hid ((HB5.out.alloc HB5.out.size (.cells #[.int .i64 (x : Int)] 3)).grown hgrow7 (by rw [World.size_alloc]; have := HB5.out.size; omega) (fun k hk => (OwnI.lt HO5.out k hk).1)); clear hown7 hgrow7 ho6)
          go_roundw
          case rel => exact ⟨x + 1, by omega, by go_num, by rw [HBSX.out, if_pos (by first | trivial | rfl)]; exact HO7, HB7⟩
          case measure => simp [intOf]; omega
        | false =>
          rw [hc] at hcl HBSX
          have hneg : ¬ y < 0 := fun h => by rw [decide_eq_true h] at hcl; cases hcl
          clear hc hcl
          go_wp2_with fail
          go_roundw
          case rel => exact ⟨x + 1, by omega, by go_num, by rw [HBSX.out, if_neg (by decide)]; exact HO5, HB5⟩
          case measure => simp [intOf]; omega
      · obtain rfl : x = M + 1 := by omega
        rw [hq] at HO
        have zM : ¬ (((M + 1 : Nat) : Int) ≤ (M : Int)) := by omega
        clear hq hql hbs
        go_wp2_with fail
        refine (HAL.out _).mono ?_
        rintro e w' ⟨rfl, rfl⟩
        go_wp2_with fail
        go_ret
        exact ⟨_, rfl, by rw [HE.out]; exact HO.out, HB.out⟩
theorem implSameMeaning_any (v v' : Value) (n : Int) (l l' : List (Int × Int)) (_w0 : (Lit.int .i64 n).wf = true) (bd : ∀ d ∈ l, (Lit.int .i64 d.1).wf = true ∧ (Lit.int .i64 d.2).wf = true) (bd' : ∀ d ∈ l', (Lit.int .i64 d.1).wf = true ∧ (Lit.int .i64 d.2).wf = true) (w : World) (hr : ReadD w v l) (hl : l.length ≤ 1048576) (hr' : ReadD w v' l') (hl' : l'.length ≤ 1048576) :
    Calls Tryz.prog 10 #[.int .i64 n, v, v'] w fun e w' => e = .returned (.bool (smB n l l')) ∧ Below w.heap.size w w' := by
  have HAD := Lib.hid (implAreDeps_any v n l _w0 bd w hr hl)
  have HAE := Lib.hid (fun w' (hb : Below w.heap.size w w') => implAreDeps_any v' n l' _w0 bd' w' (hr'.kept hb) hl')
  have HCS := Lib.hid (fun w' (hb : Below w.heap.size w w') => implClosedSets_any v n l _w0 bd w' (hr.kept hb) hl)
  have HCT := Lib.hid (fun w' (hb : Below w.heap.size w w') => implClosedSets_any v' n l' _w0 bd' w' (hr'.kept hb) hl')
  have HE : Hid (smB n l l' = (arD n l && (arD n l' && decide (clsL n l = clsL n l')))) := Lib.hid rfl
  have hlen : (clsL n l).length ≤ 1000000000 := Nat.le_trans (clsL_len n l) (by omega)
  obtain ⟨c, hc⟩ : ∃ c, c = clsL n l := ⟨_, rfl⟩
  obtain ⟨d, hd⟩ : ∃ d, d = clsL n l' := ⟨_, rfl⟩
  rw [← hc, ← hd] at HE
  rw [← hc] at HCS hlen
  rw [← hd] at HCT
  obtain ⟨a, cap, rfl, -⟩ := hr
  obtain ⟨a', cap', rfl, -⟩ := hr'
  clear hc hd
  cases ha : arD n l with
  | false =>
    rw [ha] at HAD HE
    clear ha
    go_enter Tryz.func10, Tryz.ntmps10
    go_wp2_with fail
    refine HAD.out.mono ?_
    rintro e w2 ⟨rfl, b2⟩
    go_wp2_with fail
    go_ret
    exact ⟨ret_b HE.out, b2⟩
  | true =>
    rw [ha] at HAD HE
    clear ha
    cases hb : arD n l' with
    | false =>
      rw [hb] at HAE HE
      clear hb
      go_enter Tryz.func10, Tryz.ntmps10
      go_wp2_with fail
      refine HAD.out.mono ?_
      rintro e w2 ⟨rfl, b2⟩
      go_wp2_with fail
      refine (HAE.out _ b2).mono ?_
      rintro e w3 ⟨rfl, b3⟩
      have HB3 := Lib.hid (b2.trans (b3.mono b2.size))
      clear b2 b3
      go_wp2_with fail
      go_ret
      exact ⟨ret_b HE.out, HB3.out⟩
    | true =>
      rw [hb] at HAE HE
      clear hb
      go_enter Tryz.func10, Tryz.ntmps10
      go_wp2_with fail
      refine HAD.out.mono ?_
      rintro e w2 ⟨rfl, b2⟩
      go_wp2_with fail
      refine (HAE.out _ b2).mono ?_
      rintro e w3 ⟨rfl, b3⟩
      have HB3 := Lib.hid (b2.trans (b3.mono b2.size))
      clear b2 b3
      go_wp2_with fail
      refine (HCS.out _ HB3.out).mono ?_
      rintro e w4 ⟨u4, rfl, o4, b4⟩
      have HB4 := Lib.hid (HB3.out.trans (b4.mono HB3.out.size))
      have R4 := Lib.hid o4.read
      clear b4 o4
      obtain ⟨p4, q4, rfl, -⟩ := id R4.out
      go_wp2_with fail
      refine (HCT.out _ HB4.out).mono ?_
      rintro e w5 ⟨u5, rfl, o5, b5⟩
      have HB5 := Lib.hid (HB4.out.trans (b5.mono HB4.out.size))
      have R5 := Lib.hid (R4.out.kept b5)
      have R6 := Lib.hid o5.read
      clear b5 o5
      obtain ⟨p5, q5, rfl, -⟩ := id R6.out
      go_wp2_with fail
      refine (slEqual_any _ _ _ _ _ R5.out R6.out hlen).mono ?_
      rintro e w6 ⟨rfl, m6, rfl⟩
      have HB6 := Lib.hid (below_drewN HB5.out m6)
      go_wp2_with fail
      go_ret
      exact ⟨ret_b (by rw [HE.out]; rfl), HB6.out⟩
end
end Go.Proofs.YtnbjcelfdppkcacGreat
namespace Go.Proofs.YtnbjcelfdppkcacGreat
open Go.RowKit

set_option maxHeartbeats 800000 in
theorem sameInts11_any (v v' : Value) (l l' : List Int) (w : World) (hr : ReadI w v l) (hr' : ReadI w v' l') (hl : l.length ≤ 1000000000) :
    Calls Tryz.prog 14 #[v, v'] w fun e w' => e = .returned (.bool (eqB l l')) ∧ ∃ m, w' = w.drewN m := by
  obtain ⟨a, cap, rfl, ha⟩ := hr
  obtain ⟨a', cap', rfl, ha'⟩ := hr'
  have HA := Lib.hid ha
  have HA' := Lib.hid ha'
  clear ha ha'
  by_cases hlen : l.length = l'.length
  · have hne : ((l.length : Int) != (l'.length : Int)) = false := by simp [hlen]
    have HL := Lib.hid hlen
    clear hlen
    go_enter Tryz.func14, Tryz.ntmps14
    go_wp2_with fail
    go_loopw [5] (fun iv wr => ∃ (k n : Nat), k ≤ l.length ∧ iv = .int .i64 (k : Int) ∧ Hid (l.take k = l'.take k) ∧ wr = w.drewN n) (fun iv _ => l.length - (intOf iv).toNat)
    case atStart => exact ⟨0, 0, by omega, rfl, Lib.hid rfl, rfl⟩
    case round =>
      obtain ⟨k, n, hk, rfl, hsame, rfl⟩ := hrel
      by_cases hlt : k < l.length
      · have hlt' : k < l'.length := by have := HL.out; omega
        obtain ⟨x, rfl, hx⟩ := HA.out k hlt
        obtain ⟨x', rfl, hx'⟩ := HA'.out k hlt'
        have z0 : (0 : Int) ≤ (k : Int) := by omega
        have z1 : (k : Int) < (l.length : Int) := by omega
        have z2 : (k : Int) < (l'.length : Int) := by omega
        by_cases he : l[k] = l'[k]
        · have hb : (l[k] != l'[k]) = false := by simp [he]
          have HE := Lib.hid he
          clear he
          go_wp2_with fail
          go_quiet (fail)
          go_wp2_with fail
          go_roundw
          case rel => exact ⟨k + 1, _, by omega, by go_num, Lib.hid (by rw [List.take_succ_eq_append_getElem hlt, List.take_succ_eq_append_getElem hlt', hsame.out, HE.out]), rfl⟩
          case measure => simp [intOf]; omega
        · have hb : (l[k] != l'[k]) = true := by simpa using he
          have HE := Lib.hid he
          clear he
          go_wp2_with fail
          go_quiet (fail)
          go_wp2_with fail
          go_ret
          exact ⟨ret_b (by unfold eqB; rw [decide_eq_false]; intro e; apply HE.out; simp only [e]), _, World.drewN_drewN _ _ _⟩
      · go_wp2_with fail
        go_ret
        exact ⟨ret_b (by
          unfold eqB
          rw [decide_eq_true]
          have := hsame.out
          rwa [List.take_of_length_le (by omega), List.take_of_length_le (by have := HL.out; omega)] at this), _, rfl⟩
  · have hne : ((l.length : Int) != (l'.length : Int)) = true := by simp; omega
    have HL := Lib.hid hlen
    clear hlen
    go_enter Tryz.func14, Tryz.ntmps14
    go_wp2_with fail
    go_ret
    exact ⟨ret_b (by unfold eqB; rw [decide_eq_false]; intro e; exact HL.out (by rw [e])), 0, rfl⟩
theorem same11_any (X : List Int) (v v' : Value) (w' : World) (hX : X.length ≤ 1000000000) (h : ReadI w' v X) (h' : ReadI w' v' X) : Calls Tryz.prog 14 #[v, v'] w' fun e w'' => e = .returned (.bool true) ∧ Below w'.heap.size w' w'' :=
  (sameInts11_any v v' X X w' h h' hX).mono fun _ _ ⟨x, m, y⟩ => ⟨by rw [x]; simp [eqB], by rw [y]; exact below_drewN (Below.refl _ _) m⟩
theorem readI_at11 {w : World} {a : Option Addr} {n cap : Nat} {l : List Int} (h : ReadI w (.slice a n cap) l) {i : Nat} (hi : i < l.length) : ∃ x, a = some x ∧ w.cell? (x.add i) = some (.int .i64 (l.getD i 0)) := by
  obtain ⟨a', cap', hv, hc⟩ := h
  cases hv
  obtain ⟨x, e, h⟩ := hc i hi
  exact ⟨x, e, by rw [h, List.getD_eq_getElem?_getD, List.getElem?_eq_getElem hi]; rfl⟩
theorem same_d (q : List (Int × Int)) (hl : q.length ≤ 1048576) (w' : World) (v v' : Value) (h : ReadD w' v q) (h' : ReadD w' v' q) : Calls Tryz.prog 7 #[v, v'] w' fun e w'' => e = .returned (.bool true) ∧ Below w'.heap.size w' w'' :=
  (sameDeps_any v v' _ _ w' h h' hl).mono fun _ _ ⟨a, b⟩ => ⟨by rw [a, decide_eq_true rfl], b⟩
/-- The reduced cover, the keys and the columns in them. -/
structure RA (n : Int) (l q : List (Int × Int)) (b : Bool) (k : List Int) (p : Int) : Prop where
  c1 : ∀ w' v, ReadD w' v l → Calls Tryz.prog 6 #[.int .i64 n, v] w' (RetD q w')
  c2 : ∀ w' v, ReadD w' v l → Calls Tryz.prog 8 #[.int .i64 n, v] w' (RetD q w')
  sd : ∀ w' v v', ReadD w' v q → ReadD w' v' q → Calls Tryz.prog 7 #[v, v'] w' fun e w'' => e = .returned (.bool true) ∧ Below w'.heap.size w' w''
  ar : ∀ w' v, ReadD w' v l → Calls Tryz.prog 9 #[.int .i64 n, v] w' fun e w'' => e = .returned (.bool b) ∧ Below w'.heap.size w' w''
  sm : b = true → ∀ w' v v', ReadD w' v l → ReadD w' v' q → Calls Tryz.prog 10 #[.int .i64 n, v, v'] w' fun e w'' => e = .returned (.bool true) ∧ Below w'.heap.size w' w''
  ic : b = true → ∀ w' v, ReadD w' v q → CapOk v → Calls Tryz.prog 11 #[.int .i64 n, v] w' fun e w'' => e = .returned (.bool true) ∧ Below w'.heap.size w' w''
  le : q.length ≤ l.length
  k1 : ∀ w' v, ReadD w' v l → Calls Tryz.prog 12 #[.int .i64 n, v] w' (RetI k w')
  k2 : ∀ w' v, ReadD w' v l → Calls Tryz.prog 15 #[.int .i64 n, v] w' (RetI k w')
  p1 : ∀ w' v, ReadD w' v l → Calls Tryz.prog 13 #[.int .i64 n, v] w' fun e w'' => e = .returned (.int .i64 p) ∧ Below w'.heap.size w' w''
  p2 : ∀ w' v, ReadD w' v l → Calls Tryz.prog 16 #[.int .i64 n, v] w' fun e w'' => e = .returned (.int .i64 p) ∧ Below w'.heap.size w' w''
  kl : k.length ≤ 32
  kc : ∀ y ∈ k, ∃ C : Nat, n = (C : Int) ∧ C ≤ 5 ∧ bits .and .i64 p y = y ∧ ∀ w' v, ReadD w' v l → Calls Tryz.prog 17 #[.int .i64 n, v, .int .i64 y] w' fun e w'' => e = .returned (.int .i64 ((2 ^ C - 1 : Nat) : Int)) ∧ Below w'.heap.size w' w''
theorem ra_of {w : World} {n : Int} {u : Value} {l : List (Int × Int)} (h : DrL w n u l) : ∃ q b k p, RA n l q b k p := by
  obtain ⟨⟨n0, n1⟩, hbd, -, -⟩ := h
  have hl20 := hbd.1
  have hw := hbd.wf
  have hn := wf_sm (x := n) (by omega) (by omega)
  have hcl := coL11_len n l
  have hcb := col_bd (n := n) hl20
  refine ⟨coL11 n l, arD n l, koL n l, prZ n l, fun w' v hr => implCoverOf_any v n l hn hw w' hr (by omega), fun w' v hr => coverOf11_any v n l w' hr (by omega), fun w' v v' h h' => same_d _ (by omega) w' v v' h h', fun w' v hr => areDeps10_any v n l w' hr (by omega), fun ha w' v v' hr hr' => ?_, fun ha w' v hr hc => ?_, hcl,
    fun w' v hr => implKeysOf_any v n l hn hw w' hr (by omega), fun w' v hr => keysOf11_any v n l w' hr (by omega), fun w' v hr => implPrimeColumns_any v n l hn hw w' hr (by omega), fun w' v hr => primeColumns11_any v n l w' hr (by omega), koL_len n l, fun y hy => ?_⟩
  · obtain ⟨-, -, h3, -⟩ := cover_facts ha
    have := implSameMeaning_any v v' n l (coL11 n l) hn hw hcb.wf w' hr (by omega) hr' (by omega)
    rw [h3] at this
    exact this
  · obtain ⟨-, -, -, h4⟩ := cover_facts ha
    have := implIsCover_any v n (coL11 n l) hn hcb.wf w' hr (by omega) hc
    rw [h4] at this
    exact this
  · obtain ⟨C, x, rfl, hC, ha, rfl, hx, hx32, hcx⟩ := key_facts hy
    obtain ⟨P, hP, hP32, hPy⟩ := prime_facts (C : Int) l
    refine ⟨C, rfl, hC, by rw [hP]; exact hPy _ hy, fun w' v hr => ?_⟩
    have := implClosureOf_any v (C : Int) (x : Int) l hn hw (wf_small11 x hx32) w' hr (by omega)
    have hcz : cloZ (C : Int) l (x : Int) = ((2 ^ C - 1 : Nat) : Int) := by
      obtain ⟨C', e, h1, -⟩ := arD_n ha
      obtain rfl : C = C' := by omega
      have hi := (depB_iff.1 (dep_of (R := 0) h1 hC hx (by omega))).2.1
      unfold cloZ
      rw [ha, hi]
      show ((clo l x : Nat) : Int) = _
      rw [hcx]
    rw [hcz] at this
    exact this
structure RB (a : Int) (b : List (Int × Int)) (s : Int) (q : List (Int × Int)) : Prop where
  j1 : ∀ w' v, ReadD w' v b → Calls Tryz.prog 19 #[.int .i64 a, v, .int .i64 s] w' (RetD q w')
  j2 : ∀ w' v, ReadD w' v b → Calls Tryz.prog 24 #[.int .i64 a, v, .int .i64 s] w' (RetD q w')
  sd : ∀ w' v v', ReadD w' v q → ReadD w' v' q → Calls Tryz.prog 7 #[v, v'] w' fun e w'' => e = .returned (.bool true) ∧ Below w'.heap.size w' w''
  len : q.length ≤ 160
  at_ : ∀ d ∈ q, ∃ x R T : Nat, d = ((x : Int), (R : Int)) ∧ s = (T : Int) ∧ R < 5 ∧ bits .and .i64 (x : Int) (T : Int) = (x : Int) ∧ bitB T R = true ∧ ∀ w' v, ReadD w' v b → Calls Tryz.prog 20 #[.int .i64 a, v, .agg #[.int .i64 (x : Int), .int .i64 (R : Int)]] w' fun e w'' => e = .returned (.bool true) ∧ Below w'.heap.size w' w''
theorem rb_of {w : World} {a s : Int} {u : Value} {b : List (Int × Int)} (h : DrL w a u b) (s0 : -1 ≤ s) (s1 : s ≤ 40) : ∃ q, RB a b s q := by
  obtain ⟨⟨n0, n1⟩, hbd, -, -⟩ := h
  have hl20 := hbd.1
  have hw := hbd.wf
  have hn := wf_sm (x := a) (by omega) (by omega)
  have hs := wf_sm (x := s) (by omega) (by omega)
  have hpl := pjL_len a b s
  refine ⟨pjL a b s, fun w' v hr => implProjectDeps_any v a s b hn hw hs w' hr (by omega), fun w' v hr => projectDeps11_any v a s b w' hr (by omega), fun w' v v' h h' => same_d _ (by omega) w' v v' h h', hpl, fun d hd => ?_⟩
  obtain ⟨x, R, T, rfl, rfl, hx, hR, hT, hxT, hTR, him⟩ := pj_facts hd
  refine ⟨x, R, T, rfl, rfl, hR, ?_, hTR, fun w' v hr => ?_⟩
  · have := and_sub x T hx hT
    rw [hxT, beq_iff_eq] at this
    exact this
  · have := implImpliesDep_any v a (x : Int) (R : Int) b hn hw (wf_small11 x hx) (wf_small11 R (by omega)) w' hr (by omega)
    rw [him] at this
    exact this
structure RC (m : Int) (e : List (Int × Int)) (l r p0 p1 : Int) : Prop where
  r1 : ∀ w' v, ReadD w' v e → Calls Tryz.prog 25 #[.int .i64 m, v, .agg #[.int .i64 l, .int .i64 r]] w' fun e w'' => e = .returned (.agg #[.int .i64 p0, .int .i64 p1]) ∧ Below w'.heap.size w' w''
  r2 : ∀ w' v, ReadD w' v e → Calls Tryz.prog 26 #[.int .i64 m, v, .agg #[.int .i64 l, .int .i64 r]] w' fun e w'' => e = .returned (.agg #[.int .i64 p0, .int .i64 p1]) ∧ Below w'.heap.size w' w''
theorem rc_of {m l r : Int} {e : List (Int × Int)} (hm : 0 ≤ m ∧ m ≤ 6) (hbd : DepsBd e) (hl : -1 ≤ l ∧ l ≤ 33) (hr : -1 ≤ r ∧ r ≤ 5) : ∃ p0 p1, RC m e l r p0 p1 := by
  have hl20 := hbd.1
  exact ⟨_, _, fun w' v h => implReduceLeft_any v m l r e (wf_sm (by omega) (by omega)) hbd.wf (wf_sm (by omega) (by omega)) (wf_sm (by omega) (by omega)) w' h (by omega), fun w' v h => reduceLeft11_any v m l r e w' h (by omega)⟩
structure RI (m : Int) (e : List (Int × Int)) (b : Bool) : Prop where
  i1 : ∀ w' v, ReadD w' v e → CapOk v → Calls Tryz.prog 11 #[.int .i64 m, v] w' fun e w'' => e = .returned (.bool b) ∧ Below w'.heap.size w' w''
  i2 : ∀ w' v, ReadD w' v e → CapOk v → Calls Tryz.prog 27 #[.int .i64 m, v] w' fun e w'' => e = .returned (.bool b) ∧ Below w'.heap.size w' w''
theorem ri_of {w : World} {m : Int} {u : Value} {e : List (Int × Int)} (h : DrL w m u e) : ∃ b, RI m e b := by
  obtain ⟨⟨n0, n1⟩, hbd, -, -⟩ := h
  have hl20 := hbd.1
  exact ⟨_, fun w' v h hc => implIsCover_any v m e (wf_sm (by omega) (by omega)) hbd.wf w' h (by omega) hc, fun w' v h hc => isCover11_any v m e w' h (by omega) hc⟩
structure RM (m : Int) (e f : List (Int × Int)) (b : Bool) : Prop where
  m1 : ∀ w' v v', ReadD w' v e → ReadD w' v' f → Calls Tryz.prog 10 #[.int .i64 m, v, v'] w' fun e w'' => e = .returned (.bool b) ∧ Below w'.heap.size w' w''
  m2 : ∀ w' v v', ReadD w' v e → ReadD w' v' f → Calls Tryz.prog 28 #[.int .i64 m, v, v'] w' fun e w'' => e = .returned (.bool b) ∧ Below w'.heap.size w' w''
theorem rm_of {w : World} {m : Int} {u : Value} {e f : List (Int × Int)} (h : DrL w m u e) (hf : DepsBd f) : ∃ b, RM m e f b := by
  obtain ⟨⟨n0, n1⟩, hbd, -, -⟩ := h
  have hl20 := hbd.1
  have hf20 := hf.1
  exact ⟨_, fun w' v v' h h' => implSameMeaning_any v v' m e f (wf_sm (by omega) (by omega)) hbd.wf hf.wf w' h (by omega) h' (by omega), fun w' v v' h h' => sameMeaning10_any v v' m e f w' h (by omega) h' (by omega)⟩
end Go.Proofs.YtnbjcelfdppkcacGreat
