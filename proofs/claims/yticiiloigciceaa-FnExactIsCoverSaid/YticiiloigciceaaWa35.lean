/- Texts of this claim, merged: PdL, PdM, DepO, MarkD. Conditions: as stated. -/
import Derived.Test.YticiiloigciceaaPdBm
import Derived.Test.YticiiloigciceaaWa32
import Derived.Test.YticiiloigciceaaClQm
import Derived.Test.YticiiloigciceaaWa33
import Derived.Test.YticiiloigciceaaWa10
import Derived.Lib.SmallJoins
import Derived.Deep.SlicePairs
import Derived.Test.YticiiloigciceaaWa13
import Derived.Test.YticiiloigciceaaWa2
namespace Go.Proofs.Yticiiloigciceaa
open Go.RowKit

theorem candL_len11 (C : Nat) (hC : C ≤ 5) : (candL C).length ≤ 160 := cand_len C C hC (Nat.le_refl _)
set_option maxHeartbeats 1600000 in
theorem filtPJ_any (c1 c2 c3 : Value) (p : Int × Int → Bool) (v : Value) (l : List (Int × Int)) (w : World) (hr : ReadD w v l) (hl : l.length ≤ 1048576)
    (HP : ∀ x, x ∈ l → ∀ w', Below w.heap.size w w' → Calls Try.prog 59 #[.agg #[.int .i64 x.1, .int .i64 x.2], c1, c2, c3] w' fun e w'' => e = .returned (.bool (p x)) ∧ Below w'.heap.size w' w'') :
    Calls Try.prog 82 #[v, .func (.func 59) #[] #[c1, c2, c3]] w (RetD (l.filter p) w) := by
  obtain ⟨i0, hi, hz0, hz1, hz2⟩ := info_parts infoDp
  have HI : Hid (_ ∧ _ ∧ _ ∧ _) := Lib.hid ⟨hi, hz0, hz1, hz2⟩
  clear hi hz0 hz1 hz2
  have HQ := Lib.hid HP
  have HN := Lib.hid (fun k hk => filter_next p l (0, 0) k hk)
  have HL := Lib.hid (fun k => List.length_filter_le p (l.take k))
  obtain ⟨a, cap, rfl, ha⟩ := hr
  have HA := Lib.hid ha
  clear ha HP
  go_enter Try.func82, Try.ntmps82
  go_wp2_with (at_make; refine wpList_make_own _ rfl _ _ 24 rfl w.heap.size 33 i0 (.agg #[.int .i64 0, .int .i64 0]) 2 Try.underlying24 HI.out.1 HI.out.2.1 HI.out.2.2.1 .i64 .i64 _ l.length rfl rfl rfl (by rw [HI.out.2.2.2]; omega) (by unfold maxLen; omega) (Nat.le_refl _) ?_; intro w0 hown0 hgrow0)
  have hb0 := (Below.refl w.heap.size w).grown hgrow0 (Nat.le_refl _) (by simp)
  have hown : OwnD w0 w.heap.size _ [] := hown0
  clear hown0 hgrow0
  go_loopw [5, 13] (fun ov iv wr => ∃ (k : Nat) (q : List (Int × Int)), k ≤ l.length ∧ iv = .int .i64 (k : Int) ∧ Hid (q = (l.take k).filter p) ∧ OwnD wr w.heap.size ov q ∧ Below w.heap.size w wr) (fun _ iv _ => l.length - (intOf iv).toNat)
  case atStart => exact ⟨0, [], by omega, rfl, Lib.hid rfl, hown, hb0⟩
  case round =>
    clear hown hb0
    obtain ⟨k, q, hk, rfl, hq, ho, hb⟩ := hrel
    by_cases hlt : k < l.length
    · obtain ⟨b, o, rfl, h0, h1⟩ := HA.out k hlt
      replace h0 := (hb.cell (World.block_lt_of_cell? w _ h0)).trans h0
      replace h1 := (hb.cell (World.block_lt_of_cell? w _ h1)).trans h1
      have hm : l.getD k (0, 0) ∈ l := by rw [List.getD_eq_getElem?_getD, List.getElem?_eq_getElem hlt]; exact List.getElem_mem hlt
      have hll : q.length ≤ 1048576 := by rw [hq.out]; have := HL.out k; rw [List.length_take] at this; omega
      have HS := Lib.hid (HN.out k hlt)
      obtain ⟨⟨y0, y1⟩, hy⟩ : ∃ y, y = l.getD k (0, 0) := ⟨_, rfl⟩
      rw [← hy] at h0 h1 HS hm
      simp only at h0 h1
      have HC := Lib.hid (HQ.out (y0, y1) hm)
      have hwb := (Below.refl wr.heap.size wr).alloc (Nat.le_refl _) (.cells #[.int .i64 y0, .int .i64 y1] 33)
      have HB := Lib.hid (hb.trans (hwb.mono hb.size))
      have HO := Lib.hid (ho.below hwb (fun k hk => (ho.lt k hk).2))
      obtain ⟨e0, e1⟩ := zero2 wr 33 (.int .i64 y0) (.int .i64 y1)
      clear hy hm ho hwb
      have z0 : (0 : Int) ≤ (k : Int) := by omega
      have z1 : (k : Int) < (l.length : Int) := by omega
      cases hp : p (y0, y1) with
      | true =>
        rw [hp] at HC HS
        rw [if_pos rfl] at HS
        clear hp
        go_wp2_with fail
        refine (HC.out _ HB.out).mono ?_
        rintro e w1 ⟨rfl, b1⟩
        replace e0 := (b1.cell (World.block_lt_of_cell? _ _ e0)).trans e0
        replace e1 := (b1.cell (World.block_lt_of_cell? _ _ e1)).trans e1
        have ho1 := HO.out.below b1 (fun k hk => (HO.out.lt k hk).2)
        have hb1 := HB.out.trans (b1.mono HB.out.size)
        clear b1
        go_wp2_with (at_builtin; refine wpList_append_own _ rfl _ _ 24 rfl w.heap.size 33 i0 (.agg #[.int .i64 0, .int .i64 0]) 2 16 Try.underlying24 HI.out.1 HI.out.2.1 HI.out.2.2.1 HI.out.2.2.2 rfl (by decide) _ _ _ rfl (World.ownsRow.alloc ho1 _) ⟨w1.heap.size, 0, none⟩ 1 1 [.int .i64 y0, .int .i64 y1] rfl rfl (cell_two_new _ _ _ _) (two_i64 _ _) (by unfold maxLen; omega) (by omega) (le_alloc hb1 (Nat.le_refl _) _) ?_; intro v1 w2 hown1 hgrow1 _)
        have ho2 := OwnD.snoc hown1
        have hb2 := (hb1.alloc hb1.size (.cells #[.int .i64 y0, .int .i64 y1] 33)).grown hgrow1 (by simp; have := hb1.size; omega) (fun k hk => (OwnD.lt ho1 k hk).1)
        clear hown1 hgrow1
        go_wp2_with fail
        go_roundw
        case rel => exact ⟨k + 1, _, by omega, by go_num, Lib.hid (by rw [HS.out, ← hq.out]), ho2, hb2⟩
        case measure => simp [intOf]; omega
      | false =>
        rw [hp] at HC HS
        rw [if_neg (by decide)] at HS
        clear hp
        go_wp2_with fail
        refine (HC.out _ HB.out).mono ?_
        rintro e w1 ⟨rfl, b1⟩
        replace e0 := (b1.cell (World.block_lt_of_cell? _ _ e0)).trans e0
        replace e1 := (b1.cell (World.block_lt_of_cell? _ _ e1)).trans e1
        have ho1 := HO.out.below b1 (fun k hk => (HO.out.lt k hk).2)
        have hb1 := HB.out.trans (b1.mono HB.out.size)
        clear b1
        go_wp2_with fail
        go_roundw
        case rel => exact ⟨k + 1, _, by omega, by go_num, Lib.hid (by rw [HS.out, ← hq.out]), ho1, hb1⟩
        case measure => simp [intOf]; omega
    · obtain rfl : k = l.length := by omega
      go_wp2_with fail
      go_ret
      exact ⟨_, rfl, by have := hq.out; rw [List.take_length] at this; rw [← this]; exact ho, hb⟩
set_option maxHeartbeats 1600000 in
theorem leastPJ_any (c1 c2 c3 : Value) (p : Int × Int → Bool) (C : Nat) (hC : C ≤ 5) (w : World)
    (HP : ∀ x, x ∈ candL C → ∀ w', Below w.heap.size w w' → Calls Try.prog 59 #[.agg #[.int .i64 x.1, .int .i64 x.2], c1, c2, c3] w' fun e w'' => e = .returned (.bool (p x)) ∧ Below w'.heap.size w' w'') :
    Calls Try.prog 58 #[.int .i64 (C : Int), .func (.func 59) #[] #[c1, c2, c3]] w (RetD (uncL ((candL C).filter p)) w) := by
  have HC := Lib.hid (candOf_any C hC w)
  have hlen := candL_len11 C hC
  have hlf := List.length_filter_le p (candL C)
  have HF := Lib.hid (fun v w' (hb : Below w.heap.size w w') (hr : ReadD w' v (candL C)) => filtPJ_any c1 c2 c3 p v (candL C) w' hr (by omega) (fun x hx w'' hb' => HP x hx w'' (hb.trans (hb'.mono hb.size))))
  have HU := Lib.hid (fun v w' (hr : ReadD w' v ((candL C).filter p)) => uncovered_any v ((candL C).filter p) w' hr (by omega))
  clear HP hlen hlf
  go_enter Try.func58, Try.ntmps58
  go_wp2_with fail
  refine HC.out.mono ?_
  rintro e w1 ⟨v1, rfl, o1, b1⟩
  have HG := Lib.hid (HF.out v1 w1 b1 o1.read)
  clear o1
  go_wp2_with fail
  refine HG.out.mono ?_
  rintro e w2 ⟨v2, rfl, o2, b2⟩
  have hb2 := b1.trans (b2.mono b1.size)
  have HV := Lib.hid (HU.out v2 w2 o2.read)
  clear o2 b1 b2
  go_wp2_with fail
  refine HV.out.mono ?_
  rintro e w3 ⟨v3, rfl, o3, b3⟩
  have hb3 := hb2.trans (b3.mono hb2.size)
  have o4 := o3.base hb2.size
  clear o3 b3 hb2
  go_wp2_with fail
  go_ret
  exact ⟨_, rfl, o4, hb3⟩
section
set_option maxRecDepth 20000
set_option maxHeartbeats 3200000
theorem within_any (L R T : Nat) (hL : L < 32) (hR : R < 5) (hT : T < 32) (w : World) :
    Calls Try.prog 60 #[.agg #[.int .i64 (L : Int), .int .i64 (R : Int)], .int .i64 (T : Int)] w fun e w' => e = .returned (.bool (subN L T && bitB T R)) ∧ Below w.heap.size w w' := by
  have hb1 := (Below.refl w.heap.size w).alloc (Nat.le_refl _) (.cells #[.int .i64 (L : Int), .int .i64 (R : Int)] 33)
  have HB1 := Lib.hid hb1
  have HX1 := Lib.hid (bx_new w L R)
  have HAP := Lib.hid (fun w' => applies10_any L T (R : Int) hL hT w')
  have HHS := Lib.hid (fun w' => has_any T R (by omega) w')
  have c0 := HX1.out.c0
  have c1 := HX1.out.c1
  clear hb1
  cases hs : subN L T with
  | false =>
    rw [hs] at HAP
    clear hs
    go_enter Try.func60, Try.ntmps60
    go_wp2_with fail
    refine (HAP.out _).mono ?_
    rintro e w3 ⟨rfl, b3⟩
    have HB3 := Lib.hid (HB1.out.trans (b3.mono HB1.out.size))
    clear b3 c0 c1
    go_wp2_with fail
    go_ret
    exact ⟨rfl, HB3.out⟩
  | true =>
    rw [hs] at HAP
    clear hs
    obtain ⟨q, hq⟩ : ∃ q, q = bitB T R := ⟨_, rfl⟩
    rw [← hq] at HHS ⊢
    clear hq
    go_enter Try.func60, Try.ntmps60
    go_wp2_with fail
    refine (HAP.out _).mono ?_
    rintro e w3 ⟨rfl, b3⟩
    have HB3 := Lib.hid (HB1.out.trans (b3.mono HB1.out.size))
    have HX3 := Lib.hid (HX1.out.keep b3)
    clear b3 c0 c1
    have c1 := HX3.out.c1
    go_wp2_with fail
    refine (HHS.out _).mono ?_
    rintro e w4 ⟨rfl, rfl⟩
    go_wp2_with fail
    go_ret
    exact ⟨ret_b (by rw [Bool.true_and]), HB3.out⟩
theorem projFun_any (v : Value) (n : Int) (l : List (Int × Int)) (_w0 : (Lit.int .i64 n).wf = true) (bd : ∀ d ∈ l, (Lit.int .i64 d.1).wf = true ∧ (Lit.int .i64 d.2).wf = true) (T L R : Nat) (hL : L < 32) (hR : R < 5) (hT : T < 32) (b : Nat) (w : World) (h0 : w.cell? ⟨b, 0, none⟩ = some (.int .i64 n)) (h1 : w.cell? ⟨b + 1, 0, none⟩ = some v) (h2 : w.cell? ⟨b + 2, 0, none⟩ = some (.int .i64 (T : Int))) (hr : ReadD w v l) (hl : l.length ≤ 1048576) :
    Calls Try.prog 59 #[.agg #[.int .i64 (L : Int), .int .i64 (R : Int)], .pointer (some ⟨b + 2, 0, none⟩), .pointer (some ⟨b, 0, none⟩), .pointer (some ⟨b + 1, 0, none⟩)] w fun e w' => e = .returned (.bool (gp l n T ((L : Int), (R : Int)))) ∧ Below w.heap.size w w' := by
  have hb1 := (Below.refl w.heap.size w).alloc (Nat.le_refl _) (.cells #[.int .i64 (L : Int), .int .i64 (R : Int)] 33)
  have HB1 := Lib.hid hb1
  have HX1 := Lib.hid (bx_new w L R)
  have HWI := Lib.hid (fun w' => within_any L R T hL hR hT w')
  have HIM := Lib.hid (fun w' (hb : Below w.heap.size w w') => implImpliesDep_any v n (L : Int) (R : Int) l _w0 bd (wf_small11 L hL) (wf_small11 R (by omega)) w' (hr.kept hb) hl)
  have HK := Lib.hid (fun w' (hb : Below w.heap.size w w') => And.intro (keep_in h0 hb) (And.intro (keep_in h1 hb) (keep_in h2 hb)))
  have hE : gp l n T ((L : Int), (R : Int)) = ((subN L T && bitB T R) && impB n l ((L : Int), (R : Int))) := by unfold gp; rw [Bool.and_assoc]; rfl
  rw [hE]
  obtain ⟨q, hq⟩ : ∃ q, q = impB n l ((L : Int), (R : Int)) := ⟨_, rfl⟩
  rw [← hq] at HIM ⊢
  have c0 := HX1.out.c0
  have c1 := HX1.out.c1
  obtain ⟨a, cap, rfl, -⟩ := hr
  clear hE hq bd h0 h1 h2
  obtain ⟨h0, h1, h2⟩ := HK.out _ hb1
  clear hb1
  cases hs : subN L T && bitB T R with
  | false =>
    rw [hs] at HWI
    clear hs
    go_enter Try.func59, Try.ntmps59
    go_wp2_with fail
    refine (HWI.out _).mono ?_
    rintro e w3 ⟨rfl, b3⟩
    have HB3 := Lib.hid (HB1.out.trans (b3.mono HB1.out.size))
    clear b3 c0 c1 h0 h1 h2
    go_wp2_with fail
    go_ret
    exact ⟨rfl, HB3.out⟩
  | true =>
    rw [hs] at HWI
    clear hs
    go_enter Try.func59, Try.ntmps59
    go_wp2_with fail
    refine (HWI.out _).mono ?_
    rintro e w3 ⟨rfl, b3⟩
    have HB3 := Lib.hid (HB1.out.trans (b3.mono HB1.out.size))
    have HX3 := Lib.hid (HX1.out.keep b3)
    clear b3 c0 c1 h0 h1 h2
    have c0 := HX3.out.c0
    have c1 := HX3.out.c1
    obtain ⟨h0, h1, h2⟩ := HK.out _ HB3.out
    go_wp2_with fail
    refine (HIM.out _ HB3.out).mono ?_
    rintro e w4 ⟨rfl, b4⟩
    have HB4 := Lib.hid (HB3.out.trans (b4.mono HB3.out.size))
    clear b4 c0 c1 h0 h1 h2
    go_wp2_with fail
    go_ret
    exact ⟨ret_b (by rw [Bool.true_and]), HB4.out⟩
end
end Go.Proofs.Yticiiloigciceaa
namespace Go.Proofs.Yticiiloigciceaa
open Go.RowKit

theorem isA_nat11 {n s : Int} (h : isA n s = true) : ∃ C T : Nat, n = (C : Int) ∧ s = (T : Int) ∧ C ≤ 5 ∧ T < 2 ^ C := by
  unfold isA at h
  rw [decide_eq_true_iff] at h
  obtain ⟨⟨n0, n5⟩, s0, s1⟩ := h
  have hz2 : ((2 ^ n.toNat : Nat) : Int) = (2 : Int) ^ n.toNat := by rw [Int.natCast_pow]; rfl
  exact ⟨n.toNat, s.toNat, by omega, by omega, by omega, by omega⟩
theorem candL_at {C : Nat} {x : Int × Int} (h : x ∈ candL C) : ∃ L R : Nat, x = ((L : Int), (R : Int)) ∧ L < 32 ∧ R < C := by
  obtain ⟨r, r1, S, r2, -, rfl⟩ := (mdOut_mem _ _ _ _).1 h
  obtain ⟨X, rfl, hX⟩ := parts_small _ S r2
  exact ⟨X, r, rfl, hX, r1⟩
theorem pj_list {C : Nat} (hC : C ≤ 5) (l : List (Int × Int)) (T : Nat) (hT : isA (C : Int) (T : Int) = true) : uncL ((candL C).filter (gp l (C : Int) T)) = pjL (C : Int) l (T : Int) := by
  unfold pjL
  rw [hT, Bool.and_true]
  cases ha : arD (C : Int) l with
  | true =>
    obtain ⟨C', e, h1, -⟩ := arD_n ha
    obtain rfl : C = C' := by omega
    rw [if_pos rfl]
    exact pj_unc h1 hC ha
  | false =>
    rw [if_neg (by decide)]
    have : (candL C).filter (gp l (C : Int) T) = [] := by
      rw [List.filter_eq_nil_iff]
      intro x _ h
      unfold gp impB at h
      rw [ha] at h
      simp at h
    rw [this]
    rfl
section
set_option maxRecDepth 20000
set_option maxHeartbeats 3200000
theorem implProjectDeps_any (v : Value) (n s : Int) (l : List (Int × Int)) (_w0 : (Lit.int .i64 n).wf = true) (bd : ∀ d ∈ l, (Lit.int .i64 d.1).wf = true ∧ (Lit.int .i64 d.2).wf = true) (_w2 : (Lit.int .i64 s).wf = true) (w : World) (hr : ReadD w v l) (hl : l.length ≤ 1048576) :
    Calls Try.prog 30 #[.int .i64 n, v, .int .i64 s] w (RetD (pjL n l s) w) := by
  have hb1 := (Below.refl w.heap.size w).alloc (Nat.le_refl _) (.cells #[.int .i64 n] 3)
  have hb2 := hb1.alloc hb1.size (.cells #[v] 24)
  have hb3 := hb2.alloc hb2.size (.cells #[.int .i64 s] 3)
  obtain ⟨c0, c1⟩ := two_boxes (w := w) (T := 3) (T' := 24) (a := .int .i64 n) (b := v)
  have c2 := one_at ((w.alloc (.cells #[.int .i64 n] 3)).alloc (.cells #[v] 24)) 3 (.int .i64 s)
  have hba := (Below.refl ((w.alloc (.cells #[.int .i64 n] 3)).alloc (.cells #[v] 24)).heap.size _).alloc (Nat.le_refl _) (.cells #[.int .i64 s] 3)
  replace c0 := keep_in c0 hba
  replace c1 := keep_in c1 hba
  rw [World.size_alloc, World.size_alloc] at c2
  have HIA := Lib.hid (fun w' => implIsA_any n s (wf_i64_ge _w2) (wf_i64_le _w2) w')
  have HB3 := Lib.hid hb3
  cases hs : isA n s with
  | false =>
    rw [hs] at HIA
    have HE : Hid (pjL n l s = []) := Lib.hid (by unfold pjL; rw [hs, Bool.and_false]; rfl)
    rw [HE.out]
    obtain ⟨a, cap, rfl, -⟩ := hr
    clear hs bd hb1 hb2 hb3 hba
    go_enter Try.func30, Try.ntmps30
    go_wp2_with fail
    refine (HIA.out _).mono ?_
    rintro e w4 ⟨rfl, b4⟩
    have HB4 := Lib.hid (HB3.out.trans (b4.mono HB3.out.size))
    clear b4 c0 c1 c2
    go_wp2_with fail
    go_ret
    exact ⟨_, rfl, OwnD.nil _ _, HB4.out⟩
  | true =>
    rw [hs] at HIA
    obtain ⟨C, T, rfl, rfl, hC, hT⟩ := isA_nat11 hs
    have h32 := two5 hC
    have HE := Lib.hid (pj_list hC l T hs)
    have HFN := Lib.hid (fun x (hx : x ∈ candL C) w' (hb : Below w.heap.size w w') (k0 : w'.cell? ⟨w.heap.size, 0, none⟩ = some (.int .i64 (C : Int))) (k1 : w'.cell? ⟨w.heap.size + 1, 0, none⟩ = some v) (k2 : w'.cell? ⟨w.heap.size + 2, 0, none⟩ = some (.int .i64 (T : Int))) => show Calls Try.prog 59 #[.agg #[.int .i64 x.1, .int .i64 x.2], .pointer (some ⟨w.heap.size + 2, 0, none⟩), .pointer (some ⟨w.heap.size, 0, none⟩), .pointer (some ⟨w.heap.size + 1, 0, none⟩)] w' fun e w'' => e = .returned (.bool (gp l (C : Int) T x)) ∧ Below w'.heap.size w' w'' from by
      obtain ⟨L, R, rfl, hL, hR⟩ := candL_at hx
      exact projFun_any v (C : Int) l _w0 bd T L R hL (by omega) (by omega) w.heap.size w' k0 k1 k2 (hr.kept hb) hl)
    have HLD := Lib.hid (fun w' (hb : Below w.heap.size w w') (k0 : w'.cell? ⟨w.heap.size, 0, none⟩ = some (.int .i64 (C : Int))) (k1 : w'.cell? ⟨w.heap.size + 1, 0, none⟩ = some v) (k2 : w'.cell? ⟨w.heap.size + 2, 0, none⟩ = some (.int .i64 (T : Int))) => leastPJ_any (.pointer (some ⟨w.heap.size + 2, 0, none⟩)) (.pointer (some ⟨w.heap.size, 0, none⟩)) (.pointer (some ⟨w.heap.size + 1, 0, none⟩)) (gp l (C : Int) T) C hC w'
      (fun x hx w'' hb' => HFN.out x hx w'' (hb.trans (hb'.mono hb.size)) (keep_in k0 hb') (keep_in k1 hb') (keep_in k2 hb')))
    rw [HE.out] at HLD
    have HC3 := Lib.hid (And.intro c0 (And.intro c1 c2))
    obtain ⟨a, cap, rfl, -⟩ := hr
    clear hs bd hb1 hb2 hb3 hba HE HFN hT
    go_enter Try.func30, Try.ntmps30
    go_wp2_with fail
    refine (HIA.out _).mono ?_
    rintro e w4 ⟨rfl, b4⟩
    have HB4 := Lib.hid (HB3.out.trans (b4.mono HB3.out.size))
    have HC4 := Lib.hid (And.intro (keep_in HC3.out.1 b4) (And.intro (keep_in HC3.out.2.1 b4) (keep_in HC3.out.2.2 b4)))
    clear b4 c0 c1 c2 HC3
    obtain ⟨c0, c1, c2⟩ := HC4.out
    go_wp2_with fail
    refine (HLD.out _ HB4.out c0 c1 c2).mono ?_
    rintro e w5 ⟨v5, rfl, o5, b5⟩
    have HB5 := Lib.hid (HB4.out.trans (b5.mono HB4.out.size))
    have HO5 := Lib.hid (o5.base HB4.out.size)
    clear b5 o5 c0 c1 c2
    go_wp2_with fail
    go_ret
    exact ⟨_, rfl, HO5.out, HB5.out⟩
end
end Go.Proofs.Yticiiloigciceaa
namespace Go.Proofs.Yticiiloigciceaa
open Go.ChangeShapes Go.WideShapes Go.Joins Go.RowKit Go.Deep

theorem cellsDep : Try.prog.cellsOf 32 = 2 := by kernel_rfl
section
variable {H : Type} {enc : TypeId × Value → H} {w : World} {base : Nat} {held : Bool}
set_option maxRecDepth 20000 in
theorem open_dep {r : Reach} {b0 : Nat} {v : Value} {d : DataW H} {p : List MemPlace} (hv : Value.okWide Try.prog w r b0 32 v) (h : DataW.Trod enc Try.prog w base (fun _ => true) held 32 v d p) :
    ∃ x y : Int, v = .agg #[.int .i64 x, .int .i64 y] ∧ (Lit.int .i64 x).wf = true ∧ (Lit.int .i64 y).wf = true := by
  obtain ⟨c0, c1, y0, y1, m, rfl, -, -, hy0, hy1⟩ := open_agg2 Try.underlying32 (by kernel_rfl) cellsDep hv h
  obtain ⟨n, hn, -, hwf⟩ := DataW.trod_int Try.underlying3 hy0
  obtain ⟨n', hn', -, hwf'⟩ := DataW.trod_int Try.underlying3 hy1
  simp at hn hn'
  subst hn hn'
  exact ⟨n, n', rfl, hwf, hwf'⟩
set_option maxRecDepth 20000 in
theorem open_deps {fuel : Nat} {v : Value} {x : DataW H × List MemPlace} (h : DataW.trod enc Try.prog w base (fun _ => true) held fuel 22 [v] = some x) : ∃ ds, ReadD w v ds ∧ ds.length ≤ maxLen ∧ ∀ d ∈ ds, (Lit.int .i64 d.1).wf = true ∧ (Lit.int .i64 d.2).wf = true := by
  rcases open_slice_pairs Try.underlying22 Try.underlying32 cellsDep rfl rfl (by kernel_rfl) (by kernel_rfl) h with ⟨hcs, -⟩ | ⟨a, len, cap, m, n, V0, V1, D0, D1, P0, P1, hcs, -, hl, hm, hmm, -, hr⟩
  · simp at hcs
    subst hcs
    exact ⟨[], ⟨none, 0, rfl, fun i hi => absurd hi (Nat.not_lt_zero _)⟩, Nat.zero_le _, fun d hd => by cases hd⟩
  · simp at hcs
    subst hcs
    simp at hmm
    subst hmm
    have hx : ∀ i, i < m → ∃ p : Int × Int, V0 i = .int .i64 p.1 ∧ V1 i = .int .i64 p.2 ∧ (Lit.int .i64 p.1).wf = true ∧ (Lit.int .i64 p.2).wf = true := fun i hi => by
      obtain ⟨-, -, h0, h1⟩ := hr i hi
      obtain ⟨n0, e0, -, w0⟩ := DataW.trod_int Try.underlying3 h0
      obtain ⟨n1, e1, -, w1⟩ := DataW.trod_int Try.underlying3 h1
      simp at e0 e1
      exact ⟨(n0, n1), e0, e1, w0, w1⟩
    let f : Nat → Int × Int := fun i => if h : i < m then Classical.choose (hx i h) else (0, 0)
    have hf : ∀ i, i < m → V0 i = .int .i64 (f i).1 ∧ V1 i = .int .i64 (f i).2 ∧ (Lit.int .i64 (f i).1).wf = true ∧ (Lit.int .i64 (f i).2).wf = true := fun i hi => by
      have := Classical.choose_spec (hx i hi)
      simp only [f, dif_pos hi]
      exact this
    have hlen : ((List.range len).map f).length = len := by simp
    refine ⟨(List.range len).map f, ⟨some a, m, by rw [hlen], fun i hi => ?_⟩, by rw [hlen]; omega, fun d hd => ?_⟩
    · rw [hlen] at hi
      obtain ⟨c0, c1, -, -⟩ := hr i (by omega)
      obtain ⟨e0, e1, -, -⟩ := hf i (by omega)
      obtain ⟨b, o, s⟩ := a
      have hs : s = none := by
        obtain ⟨g0, -, -, -⟩ := hr 0 (by omega)
        rw [Nat.zero_mul, Addr.add_zero'] at g0
        unfold World.cell? at g0
        cases s with
        | none => rfl
        | some z =>
          simp only at g0
          split at g0 <;> simp at g0
      subst hs
      have hg : ((List.range len).map f).getD i (0, 0) = f i := by rw [List.getD_eq_getElem?_getD, List.getElem?_eq_getElem (by rw [hlen]; exact hi)]; simp
      rw [hg]
      refine ⟨b, o, rfl, ?_, ?_⟩
      · rw [← e0, ← c0]
        unfold Addr.add
        split
        · next h => rw [h, Nat.add_zero]
        · rfl
      · rw [← e1, ← c1]
        unfold Addr.add
        rw [if_neg (by omega)]
        rfl
    · obtain ⟨i, hi, rfl⟩ := List.mem_map.1 hd
      have := List.mem_range.1 hi
      exact (hf i (by omega)).2.2
end
end Go.Proofs.Yticiiloigciceaa
namespace Go.Proofs.Yticiiloigciceaa
open Go.RowKit

/-- k, k + 1; k + 2, k + 3; and so on. -/
def upD (k : Int) (n : Nat) : List (Int × Int) := (List.range n).map fun (j : Nat) => (k + 2 * (j : Int), k + 2 * (j : Int) + 1)
theorem upD_length (k : Int) (n : Nat) : (upD k n).length = n := by simp [upD]
theorem upD_get (k : Int) (n j : Nat) (h : j < n) : (upD k n).getD j (0, 0) = (k + 2 * (j : Int), k + 2 * (j : Int) + 1) := by
  rw [List.getD_eq_getElem?_getD, List.getElem?_eq_getElem (by rw [upD_length]; exact h)]
  simp [upD]
theorem upD_start (k : Int) (l : List (Int × Int)) : upD k 0 ++ l.drop 0 = l := by simp [upD]
theorem upD_step (k : Int) (l : List (Int × Int)) (j : Nat) (h : j < l.length) : (upD k j ++ l.drop j).set j (k + 2 * (j : Int), k + 2 * (j : Int) + 1) = upD k (j + 1) ++ l.drop (j + 1) := by
  have e : upD k (j + 1) = upD k j ++ [(k + 2 * (j : Int), k + 2 * (j : Int) + 1)] := by simp [upD, List.range_succ]
  rw [List.set_append, if_neg (by rw [upD_length]; omega), upD_length, Nat.sub_self, List.drop_eq_getElem_cons h, e, List.append_assoc]
  rfl
theorem OwnD.num {w : World} {B g n cap : Nat} {ds : List (Int × Int)} (h : OwnD w B (.slice (some ⟨g, 0, none⟩) n cap) ds) : n = ds.length := by
  rcases h.2 with ⟨h', _⟩ | ⟨g', cap', cur, h', _⟩ <;> simp at h'; omega
theorem OwnD.cells2 {w : World} {B g n cap : Nat} {ds : List (Int × Int)} (h : OwnD w B (.slice (some ⟨g, 0, none⟩) n cap) ds) (j : Nat) (hj : j < ds.length) :
    (w.cell? ⟨g, j * 2, none⟩ = some (.int .i64 (ds.getD j (0, 0)).1) ∧ w.cell? ⟨g, j * 2 + 1, none⟩ = some (.int .i64 (ds.getD j (0, 0)).2)) ∧ w.frozen? ⟨g, j * 2, none⟩ = false ∧ w.frozen? ⟨g, j * 2 + 1, none⟩ = false := by
  have hn := h.num
  subst hn
  exact ⟨⟨by rw [World.ownsRow.cellAt h (j * 2) (by omega), (depsV_get ds j hj).1], by rw [World.ownsRow.cellAt h (j * 2 + 1) (by omega), (depsV_get ds j hj).2]⟩, World.ownsRow.frozenAt h _, World.ownsRow.frozenAt h _⟩
theorem OwnD.store2 {w : World} {B g n cap : Nat} {ds : List (Int × Int)} (h : OwnD w B (.slice (some ⟨g, 0, none⟩) n cap) ds) (j : Nat) (a b : Int) :
    OwnD ((w.setCell ⟨g, j * 2, none⟩ (.int .i64 a)).setCell ⟨g, j * 2 + 1, none⟩ (.int .i64 b)) B (.slice (some ⟨g, 0, none⟩) n cap) (ds.set j (a, b)) ∧ w.grownBy ((w.setCell ⟨g, j * 2, none⟩ (.int .i64 a)).setCell ⟨g, j * 2 + 1, none⟩ (.int .i64 b)) (some g) := by
  refine ⟨h.store j a b, ?_⟩
  have hn := h.num
  subst hn
  obtain ⟨h1, h2⟩ := World.ownsRow.stored h (j * 2) (.int .i64 a)
  obtain ⟨h3, h4⟩ := World.ownsRow.stored h1 (j * 2 + 1) (.int .i64 b)
  exact ⟨h4.os.trans h2.os, h4.tape.trans h2.tape, h4.output.trans h2.output, Nat.le_trans h2.size h4.size, fun q hq hne => (h4.block q (Nat.lt_of_lt_of_le hq h2.size) hne).trans (h2.block q hq hne)⟩
set_option maxHeartbeats 1600000 in
theorem markD_any (v : Value) (ds : List (Int × Int)) (k : Int) (B : Nat) (w : World) (ho : OwnD w B v ds) (hl : ds.length ≤ 1048576) (hk0 : -1000000000 ≤ k) (hk1 : k ≤ 1000000000) :
    Calls Try.prog 14 #[v, .int .i64 k] w fun e w' => e = .returned (.int .i64 (k + 2 * (ds.length : Int))) ∧ OwnD w' B v (upD k ds.length) ∧ w.grownBy w' v.ownBlock := by
  rcases ho.2 with ⟨rfl, h0⟩ | ⟨g, cap, cur, rfl, hBg, hgg, -⟩
  · obtain rfl : ds = [] := List.eq_nil_of_length_eq_zero h0
    go_enter Try.func14, Try.ntmps14
    go_wp2_with fail
    refine wp_loop_rounds 1 ?_
    rw [rounds_succ]
    go_wp2_with fail
    go_ret
    exact ⟨ret_int (by simp), by simpa [upD] using ho, World.grownBy.refl _ _⟩
  · clear hgg
    go_enter Try.func14, Try.ntmps14
    go_wp2_with fail
    go_loopw [1, 5] (fun kv iv wr => ∃ j : Nat, j ≤ ds.length ∧ kv = .int .i64 (k + 2 * (j : Int)) ∧ iv = .int .i64 (j : Int) ∧ OwnD wr B (.slice (some ⟨g, 0, none⟩) ds.length cap) (upD k j ++ ds.drop j) ∧ w.grownBy wr (some g)) (fun _ iv _ => ds.length - (intOf iv).toNat)
    case atStart => exact ⟨0, by omega, by simp, rfl, by rw [upD_start]; exact ho, World.grownBy.refl _ _⟩
    case round =>
      clear ho
      obtain ⟨j, hj, rfl, rfl, ho', hg⟩ := hrel
      by_cases hlt : j < ds.length
      · obtain ⟨⟨h0, h1⟩, f0, f1⟩ := ho'.cells2 j (by rw [List.length_append, upD_length, List.length_drop]; omega)
        have z0 : (0 : Int) ≤ (j : Int) := by omega
        have z1 : (j : Int) < (ds.length : Int) := by omega
        have z2 : IntKind.i64.wrap (k + 2 * (j : Int) + 1) = k + 2 * (j : Int) + 1 := IntWalk.i64_in _ (by omega)
        have z3 : IntKind.i64.wrap (k + 2 * (j : Int) + 1 + 1) = k + 2 * (j : Int) + 1 + 1 := IntWalk.i64_in _ (by omega)
        obtain ⟨s1, s2⟩ := ho'.store2 j (k + 2 * (j : Int)) (k + 2 * (j : Int) + 1)
        rw [upD_step k ds j hlt] at s1
        have S1 := Lib.hid s1
        have S2 := Lib.hid s2
        have HG := Lib.hid hg
        clear s1 s2 hg ho'
        go_wp2_with fail
        go_roundw
        case rel => exact ⟨j + 1, by omega, by go_num, by go_num, S1.out, ⟨S2.out.os.trans HG.out.os, S2.out.tape.trans HG.out.tape, S2.out.output.trans HG.out.output, Nat.le_trans HG.out.size S2.out.size, fun q hq hne => (S2.out.block q (Nat.lt_of_lt_of_le hq HG.out.size) hne).trans (HG.out.block q hq hne)⟩⟩
        case measure => simp [intOf]; omega
      · obtain rfl : j = ds.length := by omega
        go_wp2_with fail
        go_ret
        rw [List.drop_eq_nil_of_le (Nat.le_refl _), List.append_nil] at ho'
        exact ⟨rfl, ho', hg⟩
set_option maxHeartbeats 1600000 in
theorem heldD_any (v : Value) (n : Nat) (k : Int) (w : World) (hr : ReadD w v (upD k n)) (hl : n ≤ 1048576) (hk0 : -1000000000 ≤ k) (hk1 : k ≤ 1000000000) :
    Calls Try.prog 15 #[v, .int .i64 k] w fun e w' => e = .returned (.int .i64 (k + 2 * (n : Int))) ∧ w = w' := by
  obtain ⟨a, cap, rfl, ha⟩ := hr
  rw [upD_length]
  have HA : Hid (∀ i, i < n → ∃ b o, a = some ⟨b, o, none⟩ ∧ w.cell? ⟨b, o + i * 2, none⟩ = some (.int .i64 (k + 2 * (i : Int))) ∧ w.cell? ⟨b, o + i * 2 + 1, none⟩ = some (.int .i64 (k + 2 * (i : Int) + 1))) := Lib.hid fun i hi => by
    obtain ⟨b, o, e1, e2, e3⟩ := ha i (by rw [upD_length]; exact hi)
    rw [upD_get k n i hi] at e2 e3
    exact ⟨b, o, e1, e2, e3⟩
  clear ha
  go_enter Try.func15, Try.ntmps15
  go_wp2_with fail
  go_loop [1, 5] (fun kv iv => ∃ j : Nat, j ≤ n ∧ kv = .int .i64 (k + 2 * (j : Int)) ∧ iv = .int .i64 (j : Int)) (fun _ iv => n - (intOf iv).toNat)
  case atStart => exact ⟨0, by omega, by simp, rfl⟩
  case round =>
    obtain ⟨j, hj, rfl, rfl⟩ := hrel
    by_cases hlt : j < n
    · obtain ⟨b, o, rfl, h0, h1⟩ := HA.out j hlt
      have z0 : (0 : Int) ≤ (j : Int) := by omega
      have z1 : (j : Int) < (n : Int) := by omega
      have z2 : IntKind.i64.wrap (k + 2 * (j : Int) + 1) = k + 2 * (j : Int) + 1 := IntWalk.i64_in _ (by omega)
      have z3 : IntKind.i64.wrap (k + 2 * (j : Int) + 1 + 1) = k + 2 * (j : Int) + 1 + 1 := IntWalk.i64_in _ (by omega)
      have hb : (k + 2 * (j : Int) != k + 2 * (j : Int)) = false := by simp
      have hb1 : (k + 2 * (j : Int) + 1 != k + 2 * (j : Int) + 1) = false := by simp
      go_wp2_with fail
      go_round
      case rel => exact ⟨j + 1, by omega, by go_num, by go_num⟩
      case measure => simp [intOf]; omega
    · obtain rfl : j = n := by omega
      go_wp2_with fail
      go_ret
      exact ⟨rfl, rfl⟩
/-! ### With their bounds -/
def OwnDR (w : World) (B C : Nat) (v : Value) (l : List (Int × Int)) : Prop := OwnD w B v l ∧ ∀ g, v.ownBlock = some g → g < C
theorem OwnD.range {w : World} {B : Nat} {v : Value} {l : List (Int × Int)} (h : OwnD w B v l) : OwnDR w B w.heap.size v l := ⟨h, fun g hg => (h.lt g hg).2⟩
theorem OwnDR.same {w w' : World} {B C : Nat} {v : Value} {l : List (Int × Int)} (h : OwnDR w B C v l) (hs : Same B C w w') : OwnDR w' B C v l := by
  refine ⟨⟨h.1.1, ?_⟩, h.2⟩
  rcases h.1.2 with hn | ⟨g, cap, cur, rfl, hB, hgg, rest⟩
  · exact .inl hn
  · exact .inr ⟨g, cap, cur, rfl, hB, (hs g hB (h.2 g rfl)).trans hgg, rest⟩
theorem OwnDR.read {w : World} {B C : Nat} {v : Value} {l : List (Int × Int)} (h : OwnDR w B C v l) : ReadD w v l := h.1.read
def MarkDs (k : Int) (l : List (Int × Int)) (B C : Nat) (v : Value) (w : World) (e : Ending) (w' : World) : Prop := e = .returned (.int .i64 (k + 2 * (l.length : Int))) ∧ OwnDR w' B C v (upD k l.length) ∧ Mid B C w w'
theorem markDepR_any (v : Value) (l : List (Int × Int)) (k : Int) (B C : Nat) (w : World) (ho : OwnDR w B C v l) (hl : l.length ≤ 1048576) (hk0 : -1000000000 ≤ k) (hk1 : k ≤ 1000000000) :
    Calls Try.prog 14 #[v, .int .i64 k] w (MarkDs k l B C v w) :=
  (markD_any v l k B w ho.1 hl hk0 hk1).mono fun _ _ ⟨a, b, c⟩ => ⟨a, ⟨b, ho.2⟩, Mid.ofGrown c fun g hg => ⟨(ho.1.lt g hg).1, ho.2 g hg⟩⟩
theorem heldDepR_any (v : Value) (n : Nat) (k : Int) (w : World) (hr : ReadD w v (upD k n)) (hl : n ≤ 1048576) (hk0 : -1000000000 ≤ k) (hk1 : k ≤ 1000000000) :
    Calls Try.prog 15 #[v, .int .i64 k] w fun e w' => e = .returned (.int .i64 (k + 2 * (n : Int))) ∧ Below w.heap.size w w' :=
  (heldD_any v n k w hr hl hk0 hk1).mono fun _ w' ⟨a, b⟩ => ⟨a, by rw [← b]; exact Below.refl _ _⟩
end Go.Proofs.Yticiiloigciceaa
