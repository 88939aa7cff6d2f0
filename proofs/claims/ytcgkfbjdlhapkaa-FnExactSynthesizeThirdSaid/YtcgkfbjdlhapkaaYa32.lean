/- Texts of this claim, merged: PdL, PdM, PnM, NfA, NfB. Conditions: as stated. -/
import Derived.Test.YtcgkfbjdlhapkaaPdBm
import Derived.Test.YtcgkfbjdlhapkaaYa30
import Derived.Test.YtcgkfbjdlhapkaaClQm
import Derived.Test.YtcgkfbjdlhapkaaPdKm
import Derived.Test.YtcgkfbjdlhapkaaPcCm
import Derived.Laws.EntriesVeiled
import Derived.Test.YtcgkfbjdlhapkaaYa26
import Derived.Test.YtcgkfbjdlhapkaaYa15
import Derived.Test.YtcgkfbjdlhapkaaYa22
import Derived.Deep.RegionLaw
import Derived.Deep.CutBlock
import Derived.Deep.DeepCutAuto
namespace Go.Proofs.Ytcgkfbjdlhapkaa
open Go.RowKit

theorem candL_len11 (C : Nat) (hC : C ≤ 5) : (candL C).length ≤ 160 := cand_len C C hC (Nat.le_refl _)
set_option maxHeartbeats 1600000 in
theorem filtPJ_any (c1 c2 c3 : Value) (p : Int × Int → Bool) (v : Value) (l : List (Int × Int)) (w : World) (hr : ReadD w v l) (hl : l.length ≤ 1048576)
    (HP : ∀ x, x ∈ l → ∀ w', Below w.heap.size w w' → Calls Try.prog 126 #[.agg #[.int .i64 x.1, .int .i64 x.2], c1, c2, c3] w' fun e w'' => e = .returned (.bool (p x)) ∧ Below w'.heap.size w' w'') :
    Calls Try.prog 94 #[v, .func (.func 126) #[] #[c1, c2, c3]] w (RetD (l.filter p) w) := by
  obtain ⟨i0, hi, hz0, hz1, hz2⟩ := info_parts infoDp
  have HI : Hid (_ ∧ _ ∧ _ ∧ _) := Lib.hid ⟨hi, hz0, hz1, hz2⟩
  clear hi hz0 hz1 hz2
  have HQ := Lib.hid HP
  have HN := Lib.hid (fun k hk => filter_next p l (0, 0) k hk)
  have HL := Lib.hid (fun k => List.length_filter_le p (l.take k))
  obtain ⟨a, cap, rfl, ha⟩ := hr
  have HA := Lib.hid ha
  clear ha HP
  go_enter Try.func94, Try.ntmps94
  go_wp2_with (at_make; refine wpList_make_own _ rfl _ _ 26 rfl w.heap.size 44 i0 (.agg #[.int .i64 0, .int .i64 0]) 2 Try.underlying26 HI.out.1 HI.out.2.1 HI.out.2.2.1 .i64 .i64 _ l.length rfl rfl rfl (by rw [HI.out.2.2.2]; omega) (by unfold maxLen; omega) (Nat.le_refl _) ?_; intro w0 hown0 hgrow0)
  have hb0 := (Below.refl w.heap.size w).grown hgrow0 (Nat.le_refl _) (by simp)
  have hown : OwnD w0 w.heap.size _ [] := hown0
  clear hown0 hgrow0
  go_loopw [5, 13] (fun ov iv wr => ∃ (k : Nat) (q : List (Int × Int)), k ≤ l.length ∧ iv = .int .i64 (k : Int) ∧ Hid (q = (l.take k).filter p) ∧ OwnD wr w.heap.size ov q ∧ Below w.heap.size w wr) (fun _ iv _ => l.length - (intOf iv).toNat)
  case atStart => exact ⟨0, [], by omega, rfl, Lib.hid rfl, hown, hb0⟩
  case round =>
    clear hown hb0
    obtain ⟨k, q, hk, rfl, hq, ho, hb⟩ := hrel
    by_cases hlt : k < l.length
    · obtain ⟨b, o, rfl, h0, h1⟩ := HA.out k hlt
      replace h0 := (hb.cell (World.block_lt_of_cell? w _ h0)).trans h0
      replace h1 := (hb.cell (World.block_lt_of_cell? w _ h1)).trans h1
      have hm : l.getD k (0, 0) ∈ l := by rw [List.getD_eq_getElem?_getD, List.getElem?_eq_getElem hlt]; exact List.getElem_mem hlt
      have hll : q.length ≤ 1048576 := by rw [hq.out]; have := HL.out k; rw [List.length_take] at this; omega
      have HS := Lib.hid (HN.out k hlt)
      obtain ⟨⟨y0, y1⟩, hy⟩ : ∃ y, y = l.getD k (0, 0) := ⟨_, rfl⟩
      rw [← hy] at h0 h1 HS hm
      simp only at h0 h1
      have HC := Lib.hid (HQ.out (y0, y1) hm)
      have hwb := (Below.refl wr.heap.size wr).alloc (Nat.le_refl _) (.cells #[.int .i64 y0, .int .i64 y1] 44)
      have HB := Lib.hid (hb.trans (hwb.mono hb.size))
      have HO := Lib.hid (ho.below hwb (fun k hk => (ho.lt k hk).2))
      obtain ⟨e0, e1⟩ := zero2 wr 44 (.int .i64 y0) (.int .i64 y1)
      clear hy hm ho hwb
      have z0 : (0 : Int) ≤ (k : Int) := by omega
      have z1 : (k : Int) < (l.length : Int) := by omega
      cases hp : p (y0, y1) with
      | true =>
        rw [hp] at HC HS
        rw [if_pos rfl] at HS
        clear hp
        go_wp2_with fail
        refine (HC.out _ HB.out).mono ?_
        rintro e w1 ⟨rfl, b1⟩
        replace e0 := (b1.cell (World.block_lt_of_cell? _ _ e0)).trans e0
        replace e1 := (b1.cell (World.block_lt_of_cell? _ _ e1)).trans e1
        have ho1 := HO.out.below b1 (fun k hk => (HO.out.lt k hk).2)
        have hb1 := HB.out.trans (b1.mono HB.out.size)
        clear b1
        go_wp2_with (at_builtin; refine wpList_append_own _ rfl _ _ 26 rfl w.heap.size 44 i0 (.agg #[.int .i64 0, .int .i64 0]) 2 16 Try.underlying26 HI.out.1 HI.out.2.1 HI.out.2.2.1 HI.out.2.2.2 rfl (by decide) _ _ _ rfl (World.ownsRow.alloc ho1 _) ⟨w1.heap.size, 0, none⟩ 1 1 [.int .i64 y0, .int .i64 y1] rfl rfl (cell_two_new _ _ _ _) (two_i64 _ _) (by unfold maxLen; omega) (by omega) (le_alloc hb1 (Nat.le_refl _) _) ?_; intro v1 w2 hown1 hgrow1 _)
        have ho2 := OwnD.snoc hown1
        have hb2 := (hb1.alloc hb1.size (.cells #[.int .i64 y0, .int .i64 y1] 44)).grown hgrow1 (by simp; have := hb1.size; omega) (fun k hk => (OwnD.lt ho1 k hk).1)
        clear hown1 hgrow1
        go_wp2_with fail
        go_roundw
        case rel => exact ⟨k + 1, _, by omega, by go_num, Lib.hid (by rw [HS.out, ← hq.out]), ho2, hb2⟩
        case measure => simp [intOf]; omega
      | false =>
        rw [hp] at HC HS
        rw [if_neg (by decide)] at HS
        clear hp
        go_wp2_with fail
        refine (HC.out _ HB.out).mono ?_
        rintro e w1 ⟨rfl, b1⟩
        replace e0 := (b1.cell (World.block_lt_of_cell? _ _ e0)).trans e0
        replace e1 := (b1.cell (World.block_lt_of_cell? _ _ e1)).trans e1
        have ho1 := HO.out.below b1 (fun k hk => (HO.out.lt k hk).2)
        have hb1 := HB.out.trans (b1.mono HB.out.size)
        clear b1
        go_wp2_with fail
        go_roundw
        case rel => exact ⟨k + 1, _, by omega, by go_num, Lib.hid (by rw [HS.out, ← hq.out]), ho1, hb1⟩
        case measure => simp [intOf]; omega
    · obtain rfl : k = l.length := by omega
      go_wp2_with fail
      go_ret
      exact ⟨_, rfl, by have := hq.out; rw [List.take_length] at this; rw [← this]; exact ho, hb⟩
set_option maxHeartbeats 1600000 in
theorem leastPJ_any (c1 c2 c3 : Value) (p : Int × Int → Bool) (C : Nat) (hC : C ≤ 5) (w : World)
    (HP : ∀ x, x ∈ candL C → ∀ w', Below w.heap.size w w' → Calls Try.prog 126 #[.agg #[.int .i64 x.1, .int .i64 x.2], c1, c2, c3] w' fun e w'' => e = .returned (.bool (p x)) ∧ Below w'.heap.size w' w'') :
    Calls Try.prog 51 #[.int .i64 (C : Int), .func (.func 126) #[] #[c1, c2, c3]] w (RetD (uncL ((candL C).filter p)) w) := by
  have HC := Lib.hid (candOf_any C hC w)
  have hlen := candL_len11 C hC
  have hlf := List.length_filter_le p (candL C)
  have HF := Lib.hid (fun v w' (hb : Below w.heap.size w w') (hr : ReadD w' v (candL C)) => filtPJ_any c1 c2 c3 p v (candL C) w' hr (by omega) (fun x hx w'' hb' => HP x hx w'' (hb.trans (hb'.mono hb.size))))
  have HU := Lib.hid (fun v w' (hr : ReadD w' v ((candL C).filter p)) => uncovered_any v ((candL C).filter p) w' hr (by omega))
  clear HP hlen hlf
  go_enter Try.func51, Try.ntmps51
  go_wp2_with fail
  refine HC.out.mono ?_
  rintro e w1 ⟨v1, rfl, o1, b1⟩
  have HG := Lib.hid (HF.out v1 w1 b1 o1.read)
  clear o1
  go_wp2_with fail
  refine HG.out.mono ?_
  rintro e w2 ⟨v2, rfl, o2, b2⟩
  have hb2 := b1.trans (b2.mono b1.size)
  have HV := Lib.hid (HU.out v2 w2 o2.read)
  clear o2 b1 b2
  go_wp2_with fail
  refine HV.out.mono ?_
  rintro e w3 ⟨v3, rfl, o3, b3⟩
  have hb3 := hb2.trans (b3.mono hb2.size)
  have o4 := o3.base hb2.size
  clear o3 b3 hb2
  go_wp2_with fail
  go_ret
  exact ⟨_, rfl, o4, hb3⟩
section
set_option maxRecDepth 20000
set_option maxHeartbeats 3200000
theorem within_any (L R T : Nat) (hL : L < 32) (hR : R < 5) (hT : T < 32) (w : World) :
    Calls Try.prog 127 #[.agg #[.int .i64 (L : Int), .int .i64 (R : Int)], .int .i64 (T : Int)] w fun e w' => e = .returned (.bool (subN L T && bitB T R)) ∧ Below w.heap.size w w' := by
  have hb1 := (Below.refl w.heap.size w).alloc (Nat.le_refl _) (.cells #[.int .i64 (L : Int), .int .i64 (R : Int)] 44)
  have HB1 := Lib.hid hb1
  have HX1 := Lib.hid (bx_new w L R)
  have HAP := Lib.hid (fun w' => applies10_any L T (R : Int) hL hT w')
  have HHS := Lib.hid (fun w' => has_any T R (by omega) w')
  have c0 := HX1.out.c0
  have c1 := HX1.out.c1
  clear hb1
  cases hs : subN L T with
  | false =>
    rw [hs] at HAP
    clear hs
    go_enter Try.func127, Try.ntmps127
    go_wp2_with fail
    refine (HAP.out _).mono ?_
    rintro e w3 ⟨rfl, b3⟩
    have HB3 := Lib.hid (HB1.out.trans (b3.mono HB1.out.size))
    clear b3 c0 c1
    go_wp2_with fail
    go_ret
    exact ⟨rfl, HB3.out⟩
  | true =>
    rw [hs] at HAP
    clear hs
    obtain ⟨q, hq⟩ : ∃ q, q = bitB T R := ⟨_, rfl⟩
    rw [← hq] at HHS ⊢
    clear hq
    go_enter Try.func127, Try.ntmps127
    go_wp2_with fail
    refine (HAP.out _).mono ?_
    rintro e w3 ⟨rfl, b3⟩
    have HB3 := Lib.hid (HB1.out.trans (b3.mono HB1.out.size))
    have HX3 := Lib.hid (HX1.out.keep b3)
    clear b3 c0 c1
    have c1 := HX3.out.c1
    go_wp2_with fail
    refine (HHS.out _).mono ?_
    rintro e w4 ⟨rfl, rfl⟩
    go_wp2_with fail
    go_ret
    exact ⟨ret_b (by rw [Bool.true_and]), HB3.out⟩
theorem projFun_any (v : Value) (n : Int) (l : List (Int × Int)) (_w0 : (Lit.int .i64 n).wf = true) (bd : ∀ d ∈ l, (Lit.int .i64 d.1).wf = true ∧ (Lit.int .i64 d.2).wf = true) (T L R : Nat) (hL : L < 32) (hR : R < 5) (hT : T < 32) (b : Nat) (w : World) (h0 : w.cell? ⟨b, 0, none⟩ = some (.int .i64 n)) (h1 : w.cell? ⟨b + 1, 0, none⟩ = some v) (h2 : w.cell? ⟨b + 2, 0, none⟩ = some (.int .i64 (T : Int))) (hr : ReadD w v l) (hl : l.length ≤ 1048576) :
    Calls Try.prog 126 #[.agg #[.int .i64 (L : Int), .int .i64 (R : Int)], .pointer (some ⟨b + 2, 0, none⟩), .pointer (some ⟨b, 0, none⟩), .pointer (some ⟨b + 1, 0, none⟩)] w fun e w' => e = .returned (.bool (gp l n T ((L : Int), (R : Int)))) ∧ Below w.heap.size w w' := by
  have hb1 := (Below.refl w.heap.size w).alloc (Nat.le_refl _) (.cells #[.int .i64 (L : Int), .int .i64 (R : Int)] 44)
  have HB1 := Lib.hid hb1
  have HX1 := Lib.hid (bx_new w L R)
  have HWI := Lib.hid (fun w' => within_any L R T hL hR hT w')
  have HIM := Lib.hid (fun w' (hb : Below w.heap.size w w') => implImpliesDep_any v n (L : Int) (R : Int) l _w0 bd (wf_small11 L hL) (wf_small11 R (by omega)) w' (hr.kept hb) hl)
  have HK := Lib.hid (fun w' (hb : Below w.heap.size w w') => And.intro (keep_in h0 hb) (And.intro (keep_in h1 hb) (keep_in h2 hb)))
  have hE : gp l n T ((L : Int), (R : Int)) = ((subN L T && bitB T R) && impB n l ((L : Int), (R : Int))) := by unfold gp; rw [Bool.and_assoc]; rfl
  rw [hE]
  obtain ⟨q, hq⟩ : ∃ q, q = impB n l ((L : Int), (R : Int)) := ⟨_, rfl⟩
  rw [← hq] at HIM ⊢
  have c0 := HX1.out.c0
  have c1 := HX1.out.c1
  obtain ⟨a, cap, rfl, -⟩ := hr
  clear hE hq bd h0 h1 h2
  obtain ⟨h0, h1, h2⟩ := HK.out _ hb1
  clear hb1
  cases hs : subN L T && bitB T R with
  | false =>
    rw [hs] at HWI
    clear hs
    go_enter Try.func126, Try.ntmps126
    go_wp2_with fail
    refine (HWI.out _).mono ?_
    rintro e w3 ⟨rfl, b3⟩
    have HB3 := Lib.hid (HB1.out.trans (b3.mono HB1.out.size))
    clear b3 c0 c1 h0 h1 h2
    go_wp2_with fail
    go_ret
    exact ⟨rfl, HB3.out⟩
  | true =>
    rw [hs] at HWI
    clear hs
    go_enter Try.func126, Try.ntmps126
    go_wp2_with fail
    refine (HWI.out _).mono ?_
    rintro e w3 ⟨rfl, b3⟩
    have HB3 := Lib.hid (HB1.out.trans (b3.mono HB1.out.size))
    have HX3 := Lib.hid (HX1.out.keep b3)
    clear b3 c0 c1 h0 h1 h2
    have c0 := HX3.out.c0
    have c1 := HX3.out.c1
    obtain ⟨h0, h1, h2⟩ := HK.out _ HB3.out
    go_wp2_with fail
    refine (HIM.out _ HB3.out).mono ?_
    rintro e w4 ⟨rfl, b4⟩
    have HB4 := Lib.hid (HB3.out.trans (b4.mono HB3.out.size))
    clear b4 c0 c1 h0 h1 h2
    go_wp2_with fail
    go_ret
    exact ⟨ret_b (by rw [Bool.true_and]), HB4.out⟩
end
end Go.Proofs.Ytcgkfbjdlhapkaa
namespace Go.Proofs.Ytcgkfbjdlhapkaa
open Go.RowKit

theorem isA_nat11 {n s : Int} (h : isA n s = true) : ∃ C T : Nat, n = (C : Int) ∧ s = (T : Int) ∧ C ≤ 5 ∧ T < 2 ^ C := by
  unfold isA at h
  rw [decide_eq_true_iff] at h
  obtain ⟨⟨n0, n5⟩, s0, s1⟩ := h
  have hz2 : ((2 ^ n.toNat : Nat) : Int) = (2 : Int) ^ n.toNat := by rw [Int.natCast_pow]; rfl
  exact ⟨n.toNat, s.toNat, by omega, by omega, by omega, by omega⟩
theorem candL_at {C : Nat} {x : Int × Int} (h : x ∈ candL C) : ∃ L R : Nat, x = ((L : Int), (R : Int)) ∧ L < 32 ∧ R < C := by
  obtain ⟨r, r1, S, r2, -, rfl⟩ := (mdOut_mem _ _ _ _).1 h
  obtain ⟨X, rfl, hX⟩ := parts_small _ S r2
  exact ⟨X, r, rfl, hX, r1⟩
theorem pj_list {C : Nat} (hC : C ≤ 5) (l : List (Int × Int)) (T : Nat) (hT : isA (C : Int) (T : Int) = true) : uncL ((candL C).filter (gp l (C : Int) T)) = pjL (C : Int) l (T : Int) := by
  unfold pjL
  rw [hT, Bool.and_true]
  cases ha : arD (C : Int) l with
  | true =>
    obtain ⟨C', e, h1, -⟩ := arD_n ha
    obtain rfl : C = C' := by omega
    rw [if_pos rfl]
    exact pj_unc h1 hC ha
  | false =>
    rw [if_neg (by decide)]
    have : (candL C).filter (gp l (C : Int) T) = [] := by
      rw [List.filter_eq_nil_iff]
      intro x _ h
      unfold gp impB at h
      rw [ha] at h
      simp at h
    rw [this]
    rfl
section
set_option maxRecDepth 20000
set_option maxHeartbeats 3200000
theorem implProjectDeps_any (v : Value) (n s : Int) (l : List (Int × Int)) (_w0 : (Lit.int .i64 n).wf = true) (bd : ∀ d ∈ l, (Lit.int .i64 d.1).wf = true ∧ (Lit.int .i64 d.2).wf = true) (_w2 : (Lit.int .i64 s).wf = true) (w : World) (hr : ReadD w v l) (hl : l.length ≤ 1048576) :
    Calls Try.prog 101 #[.int .i64 n, v, .int .i64 s] w (RetD (pjL n l s) w) := by
  have hb1 := (Below.refl w.heap.size w).alloc (Nat.le_refl _) (.cells #[.int .i64 n] 3)
  have hb2 := hb1.alloc hb1.size (.cells #[v] 26)
  have hb3 := hb2.alloc hb2.size (.cells #[.int .i64 s] 3)
  obtain ⟨c0, c1⟩ := two_boxes (w := w) (T := 3) (T' := 26) (a := .int .i64 n) (b := v)
  have c2 := one_at ((w.alloc (.cells #[.int .i64 n] 3)).alloc (.cells #[v] 26)) 3 (.int .i64 s)
  have hba := (Below.refl ((w.alloc (.cells #[.int .i64 n] 3)).alloc (.cells #[v] 26)).heap.size _).alloc (Nat.le_refl _) (.cells #[.int .i64 s] 3)
  replace c0 := keep_in c0 hba
  replace c1 := keep_in c1 hba
  rw [World.size_alloc, World.size_alloc] at c2
  have HIA := Lib.hid (fun w' => implIsA_any n s (wf_i64_ge _w2) (wf_i64_le _w2) w')
  have HB3 := Lib.hid hb3
  cases hs : isA n s with
  | false =>
    rw [hs] at HIA
    have HE : Hid (pjL n l s = []) := Lib.hid (by unfold pjL; rw [hs, Bool.and_false]; rfl)
    rw [HE.out]
    obtain ⟨a, cap, rfl, -⟩ := hr
    clear hs bd hb1 hb2 hb3 hba
    go_enter Try.func101, Try.ntmps101
    go_wp2_with fail
    refine (HIA.out _).mono ?_
    rintro e w4 ⟨rfl, b4⟩
    have HB4 := Lib.hid (HB3.out.trans (b4.mono HB3.out.size))
    clear b4 c0 c1 c2
    go_wp2_with fail
    go_ret
    exact ⟨_, rfl, OwnD.nil _ _, HB4.out⟩
  | true =>
    rw [hs] at HIA
    obtain ⟨C, T, rfl, rfl, hC, hT⟩ := isA_nat11 hs
    have h32 := two5 hC
    have HE := Lib.hid (pj_list hC l T hs)
    have HFN := Lib.hid (fun x (hx : x ∈ candL C) w' (hb : Below w.heap.size w w') (k0 : w'.cell? ⟨w.heap.size, 0, none⟩ = some (.int .i64 (C : Int))) (k1 : w'.cell? ⟨w.heap.size + 1, 0, none⟩ = some v) (k2 : w'.cell? ⟨w.heap.size + 2, 0, none⟩ = some (.int .i64 (T : Int))) => show Calls Try.prog 126 #[.agg #[.int .i64 x.1, .int .i64 x.2], .pointer (some ⟨w.heap.size + 2, 0, none⟩), .pointer (some ⟨w.heap.size, 0, none⟩), .pointer (some ⟨w.heap.size + 1, 0, none⟩)] w' fun e w'' => e = .returned (.bool (gp l (C : Int) T x)) ∧ Below w'.heap.size w' w'' from by
      obtain ⟨L, R, rfl, hL, hR⟩ := candL_at hx
      exact projFun_any v (C : Int) l _w0 bd T L R hL (by omega) (by omega) w.heap.size w' k0 k1 k2 (hr.kept hb) hl)
    have HLD := Lib.hid (fun w' (hb : Below w.heap.size w w') (k0 : w'.cell? ⟨w.heap.size, 0, none⟩ = some (.int .i64 (C : Int))) (k1 : w'.cell? ⟨w.heap.size + 1, 0, none⟩ = some v) (k2 : w'.cell? ⟨w.heap.size + 2, 0, none⟩ = some (.int .i64 (T : Int))) => leastPJ_any (.pointer (some ⟨w.heap.size + 2, 0, none⟩)) (.pointer (some ⟨w.heap.size, 0, none⟩)) (.pointer (some ⟨w.heap.size + 1, 0, none⟩)) (gp l (C : Int) T) C hC w'
      (fun x hx w'' hb' => HFN.out x hx w'' (hb.trans (hb'.mono hb.size)) (keep_in k0 hb') (keep_in k1 hb') (keep_in k2 hb')))
    rw [HE.out] at HLD
    have HC3 := Lib.hid (And.intro c0 (And.intro c1 c2))
    obtain ⟨a, cap, rfl, -⟩ := hr
    clear hs bd hb1 hb2 hb3 hba HE HFN hT
    go_enter Try.func101, Try.ntmps101
    go_wp2_with fail
    refine (HIA.out _).mono ?_
    rintro e w4 ⟨rfl, b4⟩
    have HB4 := Lib.hid (HB3.out.trans (b4.mono HB3.out.size))
    have HC4 := Lib.hid (And.intro (keep_in HC3.out.1 b4) (And.intro (keep_in HC3.out.2.1 b4) (keep_in HC3.out.2.2 b4)))
    clear b4 c0 c1 c2 HC3
    obtain ⟨c0, c1, c2⟩ := HC4.out
    go_wp2_with fail
    refine (HLD.out _ HB4.out c0 c1 c2).mono ?_
    rintro e w5 ⟨v5, rfl, o5, b5⟩
    have HB5 := Lib.hid (HB4.out.trans (b5.mono HB4.out.size))
    have HO5 := Lib.hid (o5.base HB4.out.size)
    clear b5 o5 c0 c1 c2
    go_wp2_with fail
    go_ret
    exact ⟨_, rfl, HO5.out, HB5.out⟩
end
end Go.Proofs.Ytcgkfbjdlhapkaa
namespace Go.Proofs.Ytcgkfbjdlhapkaa
open Go.RowKit

/-- The boxes of the number of columns and of valid dependencies. -/
structure MnE (w : World) (b C : Nat) (v : Value) (l : List (Int × Int)) : Prop where
  n0 : w.cell? ⟨b, 0, none⟩ = some (.int .i64 (C : Int))
  l0 : w.cell? ⟨b + 1, 0, none⟩ = some v
  rd : ReadD w v l
theorem MnE.kept {w w' : World} {b C : Nat} {v : Value} {l : List (Int × Int)} (h : MnE w b C v l) (hb : Below w.heap.size w w') : MnE w' b C v l := ⟨keep_in h.n0 hb, keep_in h.l0 hb, h.rd.kept hb⟩
/-- Valid dependencies of so many columns. -/
structure MnOk (C : Nat) (l : List (Int × Int)) : Prop where
  ha : arD (C : Int) l = true
  w0 : (Lit.int .i64 (C : Int)).wf = true
  bd : ∀ d ∈ l, (Lit.int .i64 d.1).wf = true ∧ (Lit.int .i64 d.2).wf = true
  h1 : 1 ≤ C
  h5 : C ≤ 5
  dn : DepsN C l
  len : l.length ≤ 1048576
theorem MnOk.of {n : Int} {l : List (Int × Int)} (ha : arD n l = true) (w0 : (Lit.int .i64 n).wf = true) (bd : ∀ d ∈ l, (Lit.int .i64 d.1).wf = true ∧ (Lit.int .i64 d.2).wf = true) (hl : l.length ≤ 1048576) : ∃ C : Nat, n = (C : Int) ∧ MnOk C l := by
  obtain ⟨C, rfl, h1, h5, -, hd⟩ := arD_n ha
  exact ⟨C, rfl, ha, w0, bd, h1, h5, hd, hl⟩
theorem four_at (w : World) (T : TypeId) (p q r s : Value) : ((w.alloc (.cells #[p, q, r, s] T)).cell? ⟨w.heap.size, 0, none⟩ = some p ∧ (w.alloc (.cells #[p, q, r, s] T)).cell? ⟨w.heap.size, 1, none⟩ = some q) ∧ (w.alloc (.cells #[p, q, r, s] T)).cell? ⟨w.heap.size, 2, none⟩ = some r ∧ (w.alloc (.cells #[p, q, r, s] T)).cell? ⟨w.heap.size, 3, none⟩ = some s :=
  ⟨⟨World.cell?_alloc_mark w #[p, q, r, s] T (0, 0) 0, World.cell?_alloc_mark w #[p, q, r, s] T (0, 0) 1⟩, World.cell?_alloc_mark w #[p, q, r, s] T (0, 0) 2, World.cell?_alloc_mark w #[p, q, r, s] T (0, 0) 3⟩
theorem three_at (w : World) (T : TypeId) (p q r : Value) : (w.alloc (.cells #[p, q, r] T)).cell? ⟨w.heap.size, 0, none⟩ = some p ∧ (w.alloc (.cells #[p, q, r] T)).cell? ⟨w.heap.size, 1, none⟩ = some q ∧ (w.alloc (.cells #[p, q, r] T)).cell? ⟨w.heap.size, 2, none⟩ = some r :=
  ⟨World.cell?_alloc_mark w #[p, q, r] T (0, 0) 0, World.cell?_alloc_mark w #[p, q, r] T (0, 0) 1, World.cell?_alloc_mark w #[p, q, r] T (0, 0) 2⟩
/-- A block that holds these cells, whole. -/
def BV (w : World) (b : Nat) (T : TypeId) (cs : Array Value) : Prop := w.heap[b]? = some (.cells cs T (0, 0))
theorem BV.cell {w : World} {b : Nat} {T : TypeId} {cs : Array Value} (h : BV w b T cs) (i : Nat) {v : Value} (hv : cs[i]? = some v) : w.cell? ⟨b, i, none⟩ = some v := by
  rw [cell_of_row w b i _ _ _ h]; exact hv
theorem BV.fro {w : World} {b : Nat} {T : TypeId} {cs : Array Value} (h : BV w b T cs) (i : Nat) : w.frozen? ⟨b, i, none⟩ = false := frozen_of_row w b i _ _ h
theorem BV.lt {w : World} {b : Nat} {T : TypeId} {cs : Array Value} (h : BV w b T cs) : b < w.heap.size := by
  by_cases hlt : b < w.heap.size
  · exact hlt
  · have hn : w.heap[b]? = none := by simp; omega
    unfold BV at h; rw [hn] at h; cases h
theorem BV.keep {w w' : World} {b : Nat} {T : TypeId} {cs : Array Value} (h : BV w b T cs) (hb : Below w.heap.size w w') : BV w' b T cs := (hb.block b h.lt).trans h
theorem BV.new (w : World) (T : TypeId) (cs : Array Value) : BV (w.alloc (.cells cs T)) w.heap.size T cs := heap_alloc_new w _
theorem BV.set {w : World} {b : Nat} {T : TypeId} {cs : Array Value} (h : BV w b T cs) (i : Nat) (v : Value) : BV (w.setCell ⟨b, i, none⟩ v) b T (cs.setIfInBounds i v) := by
  unfold BV
  rw [heap_setCell_same w b i _ _ _ h]
theorem BV.row {w : World} {b : Nat} {T : TypeId} {cs : Array Value} (h : BV w b T cs) (cs' : Array Value) : BV (w.setRow b cs') b T cs' := setRow_heap w b _ _ _ _ h
theorem mnSize : (Try.prog.info? 67).map (·.size) = some 3 := by kernel_rfl
theorem scSize : (Try.prog.info? 69).map (·.size) = some 4 := by kernel_rfl
theorem wpList_store_mn {ops : Array Oper} {rest : List Oper} {o : Oper} {a : Act} {w : World} {Q : Exit → Act → World → Prop} {x y : Operand} {b : Nat} {cs cs' : Array Value} (hg : o.guard = none) (ho : o.op = .store 67 x y)
    (hx : a.eval x = .pointer (some ⟨b, 0, none⟩)) (hy : a.eval y = .agg cs') (hf : BV w b 67 cs) (h3 : cs.size = 3) (h3' : cs'.size = 3) (h1 : cs'.all (·.oneCell') = true)
    (h : wpList Try.prog ops Q rest (a.put o.dst undef) (w.setRow b cs')) : wpList Try.prog ops Q (o :: rest) a w :=
  wpList_store_row hg 67 x y ho b cs' hx hy 67 cs hf (by rw [h3']; exact mnSize) (by rw [h3, h3']) h1 h
theorem wpList_store_sc {ops : Array Oper} {rest : List Oper} {o : Oper} {a : Act} {w : World} {Q : Exit → Act → World → Prop} {x y : Operand} {b : Nat} {cs cs' : Array Value} (hg : o.guard = none) (ho : o.op = .store 69 x y)
    (hx : a.eval x = .pointer (some ⟨b, 0, none⟩)) (hy : a.eval y = .agg cs') (hf : BV w b 69 cs) (h3 : cs.size = 4) (h3' : cs'.size = 4) (h1 : cs'.all (·.oneCell') = true)
    (h : wpList Try.prog ops Q rest (a.put o.dst undef) (w.setRow b cs')) : wpList Try.prog ops Q (o :: rest) a w :=
  wpList_store_row hg 69 x y ho b cs' hx hy 69 cs hf (by rw [h3']; exact scSize) (by rw [h3, h3']) h1 h
theorem load_mn {w : World} {b : Nat} {cs : Array Value} (h : BV w b 67 cs) (h3 : cs.size = 3) : (loadVar 67 ⟨b, 0, none⟩).run Try.prog w = .ok (.agg cs) w :=
  run_loadVar_row w b 67 67 cs (0, 0) _ h Try.underlying67 rfl (by rw [h3]; exact mnSize)
theorem load_sc {w : World} {b : Nat} {cs : Array Value} (h : BV w b 69 cs) (h3 : cs.size = 4) : (loadVar 69 ⟨b, 0, none⟩).run Try.prog w = .ok (.agg cs) w :=
  run_loadVar_row w b 69 69 cs (0, 0) _ h Try.underlying69 rfl (by rw [h3]; exact scSize)
section
set_option maxRecDepth 20000
set_option maxHeartbeats 3200000
theorem mnClo_any (b C : Nat) (v : Value) (l : List (Int × Int)) (ok : MnOk C l) (X : Nat) (hX : X < 32) (w : World) (he : MnE w b C v l) :
    Calls Try.prog 99 #[.int .i64 (X : Int), .pointer (some ⟨b + 1, 0, none⟩)] w fun e w' => e = .returned (.int .i64 (clo l X : Int)) ∧ Below w.heap.size w w' := by
  have HS := Lib.hid (fun w' (hb : Below w.heap.size w w') => settled10_any C ok.h5 v l ok.dn X hX w' (he.rd.kept hb) ok.len)
  have h1 := he.l0
  obtain ⟨a, cap, rfl, -⟩ := he.rd
  have HB := Lib.hid (Below.refl w.heap.size w)
  clear he ok hX
  go_enter Try.func99, Try.ntmps99
  go_wp2_with fail
  refine (HS.out _ HB.out).mono ?_
  rintro e w3 ⟨rfl, b3⟩
  have HB3 := Lib.hid b3
  clear b3 h1
  go_wp2_with fail
  go_ret
  exact ⟨rfl, HB3.out⟩
theorem mnIn_any (b C : Nat) (v : Value) (l : List (Int × Int)) (ok : MnOk C l) (X : Nat) (hX : X < 32) (w : World) (he : MnE w b C v l) :
    Calls Try.prog 100 #[.int .i64 (X : Int), .pointer (some ⟨b, 0, none⟩), .pointer (some ⟨b + 1, 0, none⟩)] w (RetD (pjL (C : Int) l (X : Int)) w) := by
  have HS := Lib.hid (fun w' (hb : Below w.heap.size w w') => implProjectDeps_any v (C : Int) (X : Int) l ok.w0 ok.bd (wf_small11 X hX) w' (he.rd.kept hb) ok.len)
  have h0 := he.n0
  have h1 := he.l0
  obtain ⟨a, cap, rfl, -⟩ := he.rd
  have HB := Lib.hid (Below.refl w.heap.size w)
  clear he ok hX
  go_enter Try.func100, Try.ntmps100
  go_wp2_with fail
  refine (HS.out _ HB.out).mono ?_
  rintro e w3 ⟨v3, rfl, o3, b3⟩
  have HB3 := Lib.hid b3
  have HO3 := Lib.hid o3
  clear b3 o3 h0 h1
  go_wp2_with fail
  go_ret
  exact ⟨_, rfl, HO3.out, HB3.out⟩
theorem mnKey_any (b C : Nat) (v : Value) (l : List (Int × Int)) (ok : MnOk C l) (X : Nat) (hX : X < 32) (w : World) (he : MnE w b C v l) :
    Calls Try.prog 102 #[.int .i64 (X : Int), .pointer (some ⟨b, 0, none⟩), .pointer (some ⟨b + 1, 0, none⟩)] w (RetI (kwL l C X) w) := by
  have HS := Lib.hid (fun w' (hb : Below w.heap.size w w') => keysWithin_any v C X ok.h1 ok.h5 hX l ok.ha ok.w0 ok.bd w' (he.rd.kept hb) ok.len)
  have h0 := he.n0
  have h1 := he.l0
  obtain ⟨a, cap, rfl, -⟩ := he.rd
  have HB := Lib.hid (Below.refl w.heap.size w)
  clear he ok hX
  go_enter Try.func102, Try.ntmps102
  go_wp2_with fail
  refine (HS.out _ HB.out).mono ?_
  rintro e w3 ⟨v3, rfl, o3, b3⟩
  have HB3 := Lib.hid b3
  have HO3 := Lib.hid o3
  clear b3 o3 h0 h1
  go_wp2_with fail
  go_ret
  exact ⟨_, rfl, HO3.out, HB3.out⟩
/-- What meaningOf answers. -/
def RetM (n : Int) (v : Value) (l : List (Int × Int)) (w : World) (e : Ending) (w' : World) : Prop :=
  (arD n l = false → e = .returned (.tuple #[.agg #[.nilFunc, .nilFunc, .nilFunc], .bool false])) ∧
  (arD n l = true → e = .returned (.tuple #[.agg #[.func (.func 99) #[] #[.pointer (some ⟨w.heap.size + 1, 0, none⟩)], .func (.func 100) #[] #[.pointer (some ⟨w.heap.size, 0, none⟩), .pointer (some ⟨w.heap.size + 1, 0, none⟩)], .func (.func 102) #[] #[.pointer (some ⟨w.heap.size, 0, none⟩), .pointer (some ⟨w.heap.size + 1, 0, none⟩)]], .bool true]) ∧ w'.cell? ⟨w.heap.size, 0, none⟩ = some (.int .i64 n) ∧ w'.cell? ⟨w.heap.size + 1, 0, none⟩ = some v) ∧ Below w.heap.size w w'
theorem meaningOf_any (v : Value) (n : Int) (l : List (Int × Int)) (_w0 : (Lit.int .i64 n).wf = true) (bd : ∀ d ∈ l, (Lit.int .i64 d.1).wf = true ∧ (Lit.int .i64 d.2).wf = true) (w : World) (hr : ReadD w v l) (hl : l.length ≤ 1048576) :
    Calls Try.prog 64 #[.int .i64 n, v] w (RetM n v l w) := by
  have hb1 := (Below.refl w.heap.size w).alloc (Nat.le_refl _) (.cells #[.int .i64 n] 3)
  have hb2 := hb1.alloc hb1.size (.cells #[v] 26)
  have hb3 := hb2.alloc hb2.size (.cells #[.nilFunc, .nilFunc, .nilFunc] 67)
  obtain ⟨c0, c1⟩ := two_boxes (w := w) (T := 3) (T' := 26) (a := .int .i64 n) (b := v)
  have hba := (Below.refl ((w.alloc (.cells #[.int .i64 n] 3)).alloc (.cells #[v] 26)).heap.size _).alloc (Nat.le_refl _) (.cells #[.nilFunc, .nilFunc, .nilFunc] 67)
  replace c0 := keep_in c0 hba
  replace c1 := keep_in c1 hba
  have hv := BV.new ((w.alloc (.cells #[.int .i64 n] 3)).alloc (.cells #[v] 26)) 67 #[.nilFunc, .nilFunc, .nilFunc]
  rw [World.size_alloc, World.size_alloc] at hv
  have HAD := Lib.hid (implAreDeps_any v n l _w0 bd _ (hr.kept hb3) hl)
  have HB2 := Lib.hid hb3
  have HC2 := Lib.hid (And.intro c0 c1)
  have HV2 := Lib.hid hv
  unfold RetM
  cases ha : arD n l with
  | false =>
    rw [ha] at HAD
    obtain ⟨a, cap, rfl, -⟩ := hr
    clear ha bd hb1 hb2 hb3 hba hv
    go_enter Try.func64, Try.ntmps64
    go_wp2_with fail
    refine HAD.out.mono ?_
    rintro e w3 ⟨rfl, b3⟩
    have HB3 := Lib.hid (HB2.out.trans (b3.mono HB2.out.size))
    have HV3 := Lib.hid (HV2.out.keep b3)
    have e0 := HV3.out.fro 0
    have e1 := HV3.out.fro 1
    have e2 := HV3.out.fro 2
    have d0 : w3.cell? ⟨w.heap.size + 1 + 1, 0, none⟩ = some .nilFunc := HV3.out.cell 0 rfl
    have d1 : w3.cell? ⟨w.heap.size + 1 + 1, 1, none⟩ = some .nilFunc := HV3.out.cell 1 rfl
    have d2 : w3.cell? ⟨w.heap.size + 1 + 1, 2, none⟩ = some .nilFunc := HV3.out.cell 2 rfl
    clear b3 c0 c1
    have hz := ((HV3.out.set 0 .nilFunc).set 1 .nilFunc).set 2 .nilFunc
    have hld := load_mn hz rfl
    clear hz
    go_wp2_with fail
    refine bodyPost_ret (v := .tuple #[.agg #[.nilFunc, .nilFunc, .nilFunc], .bool false]) (by rw [results_cell_tmp rfl]; simp [asAddr, Result.andThen, hld]) rfl ⟨fun _ => rfl, fun h => absurd h (by decide), ((HB3.out.setCell (p := ⟨w.heap.size + 1 + 1, 0, none⟩) (by show w.heap.size ≤ w.heap.size + 1 + 1; omega) _).setCell (p := ⟨w.heap.size + 1 + 1, 1, none⟩) (by show w.heap.size ≤ w.heap.size + 1 + 1; omega) _).setCell (p := ⟨w.heap.size + 1 + 1, 2, none⟩) (by show w.heap.size ≤ w.heap.size + 1 + 1; omega) _⟩
  | true =>
    rw [ha] at HAD
    obtain ⟨a, cap, rfl, -⟩ := hr
    clear ha bd hb1 hb2 hb3 hba hv
    go_enter Try.func64, Try.ntmps64
    go_wp2_with fail
    refine HAD.out.mono ?_
    rintro e w3 ⟨rfl, b3⟩
    have HB3 := Lib.hid (HB2.out.trans (b3.mono HB2.out.size))
    have HC3 := Lib.hid (And.intro (keep_in HC2.out.1 b3) (keep_in HC2.out.2 b3))
    have HV3 := Lib.hid (HV2.out.keep b3)
    have e0 := HV3.out.fro 0
    have e1 := HV3.out.fro 1
    have e2 := HV3.out.fro 2
    have d0 : w3.cell? ⟨w.heap.size + 1 + 1, 0, none⟩ = some .nilFunc := HV3.out.cell 0 rfl
    have d1 : w3.cell? ⟨w.heap.size + 1 + 1, 1, none⟩ = some .nilFunc := HV3.out.cell 1 rfl
    have d2 : w3.cell? ⟨w.heap.size + 1 + 1, 2, none⟩ = some .nilFunc := HV3.out.cell 2 rfl
    clear b3 c0 c1 HC2
    have hz := ((HV3.out.set 0 (.func (.func 99) #[] #[.pointer (some ⟨w.heap.size + 1, 0, none⟩)])).set 1 (.func (.func 100) #[] #[.pointer (some ⟨w.heap.size, 0, none⟩), .pointer (some ⟨w.heap.size + 1, 0, none⟩)])).set 2 (.func (.func 102) #[] #[.pointer (some ⟨w.heap.size, 0, none⟩), .pointer (some ⟨w.heap.size + 1, 0, none⟩)])
    have hld := load_mn hz rfl
    have hbr := (((Below.refl (w.heap.size + 1 + 1) w3).setCell (p := ⟨w.heap.size + 1 + 1, 0, none⟩) (Nat.le_refl _) (.func (.func 99) #[] #[.pointer (some ⟨w.heap.size + 1, 0, none⟩)])).setCell (p := ⟨w.heap.size + 1 + 1, 1, none⟩) (Nat.le_refl _) (.func (.func 100) #[] #[.pointer (some ⟨w.heap.size, 0, none⟩), .pointer (some ⟨w.heap.size + 1, 0, none⟩)])).setCell (p := ⟨w.heap.size + 1 + 1, 2, none⟩) (Nat.le_refl _) (.func (.func 102) #[] #[.pointer (some ⟨w.heap.size, 0, none⟩), .pointer (some ⟨w.heap.size + 1, 0, none⟩)])
    have HBR := Lib.hid hbr
    have hL : w.heap.size < w.heap.size + 1 + 1 := by omega
    have hL1 : w.heap.size + 1 < w.heap.size + 1 + 1 := by omega
    clear hz hbr
    go_wp2_with fail
    refine bodyPost_ret (v := .tuple #[.agg #[.func (.func 99) #[] #[.pointer (some ⟨w.heap.size + 1, 0, none⟩)], .func (.func 100) #[] #[.pointer (some ⟨w.heap.size, 0, none⟩), .pointer (some ⟨w.heap.size + 1, 0, none⟩)], .func (.func 102) #[] #[.pointer (some ⟨w.heap.size, 0, none⟩), .pointer (some ⟨w.heap.size + 1, 0, none⟩)]], .bool true]) (by rw [results_cell_tmp rfl]; simp [asAddr, Result.andThen, hld]) rfl ⟨fun h => absurd h (by decide), fun _ => ⟨rfl, (HBR.out.cell hL).trans HC3.out.1, (HBR.out.cell hL1).trans HC3.out.2⟩, HB3.out.trans (HBR.out.mono (by omega))⟩
end
end Go.Proofs.Ytcgkfbjdlhapkaa
namespace Go.Proofs.Ytcgkfbjdlhapkaa
open Go.RowKit

/-- The first of a list with a property, and whether there is one. -/
def fst13 (p : Int × Int → Bool) : List (Int × Int) → (Int × Int) × Bool
  | [] => ((0, 0), false)
  | d :: r => if p d = true then (d, true) else fst13 p r
theorem drop_getD13 (l : List (Int × Int)) {i : Nat} (h : i < l.length) : l.drop i = l.getD i (0, 0) :: l.drop (i + 1) := by
  rw [List.drop_eq_getElem_cons h, List.getD_eq_getElem?_getD, List.getElem?_eq_getElem h]; rfl
theorem fst13_step (p : Int × Int → Bool) (l : List (Int × Int)) {i : Nat} (h : i < l.length) (hp : p (l.getD i (0, 0)) = false) : fst13 p (l.drop i) = fst13 p (l.drop (i + 1)) := by
  rw [drop_getD13 l h]
  unfold fst13
  rw [if_neg (by rw [hp]; decide)]
  cases hd : l.drop (i + 1) <;> rfl
theorem fst13_at (p : Int × Int → Bool) (l : List (Int × Int)) {i : Nat} (h : i < l.length) (hp : p (l.getD i (0, 0)) = true) : fst13 p (l.drop i) = (l.getD i (0, 0), true) := by
  rw [drop_getD13 l h]
  unfold fst13
  rw [if_pos hp]
theorem fst13_end (p : Int × Int → Bool) (l : List (Int × Int)) : fst13 p (l.drop l.length) = ((0, 0), false) := by rw [List.drop_length]; rfl
theorem fst13_mem {p : Int × Int → Bool} {d : Int × Int} : ∀ {l : List (Int × Int)}, fst13 p l = (d, true) → d ∈ l ∧ p d = true
  | [], h => by cases h
  | x :: r, h => by
    unfold fst13 at h
    split at h
    · rename_i hp
      cases h
      exact ⟨List.mem_cons_self, hp⟩
    · obtain ⟨h1, h2⟩ := fst13_mem h
      exact ⟨List.mem_cons_of_mem _ h1, h2⟩
/-- Whether Left of a dependency does not determine the whole set. -/
def badN (l : List (Int × Int)) (T : Nat) (d : Int × Int) : Bool := !subN T (clo l d.1.toNat)
def bdD (n : Int) (l : List (Int × Int)) (s : Int) : (Int × Int) × Bool := fst13 (badN l s.toNat) (pjL n l s)
def fineN (n : Int) (l : List (Int × Int)) (s : Int) : Bool := arD n l && isA n s
def byB (n : Int) (l : List (Int × Int)) (s : Int) : Bool := fineN n l s && !(bdD n l s).2
/-- The parts of a set whose closure contains it. -/
def kyG (l : List (Int × Int)) (T x : Nat) : Bool := subN x T && subN T (clo l x)
def prN (l : List (Int × Int)) (T : Nat) : Int := orL (minS (brdTo (kyG l T) (T + 1))) (minS (brdTo (kyG l T) (T + 1))).length
def thG (l : List (Int × Int)) (T pr : Nat) (d : Int × Int) : Bool := badN l T d && !bitB pr d.2.toNat
def thB (n : Int) (l : List (Int × Int)) (s : Int) : Bool := fineN n l s && (pjL n l s).all (fun d => !thG l s.toNat (prN l s.toNat).toNat d)
theorem prN_nat (l : List (Int × Int)) {T : Nat} (hT : T < 32) : ∃ P : Nat, prN l T = (P : Int) ∧ P < 32 := by
  obtain ⟨P, e, hP, -⟩ := orL_facts (minS (brdTo (kyG l T) (T + 1))) (fun y hy => by
    obtain ⟨x, hx, -, rfl, -⟩ := (minS_brd (kyG l T) (by omega) y).1 hy
    exact ⟨x, rfl, by omega⟩) _ (Nat.le_refl _)
  exact ⟨P, e, hP⟩
/-- A set that is divided by a dependency: the part in the closure of Left, and Left with the rest; anew until none is. -/
def splN (n : Int) (l : List (Int × Int)) : Nat → Nat → List Int → List Int
  | 0, T, out => put4 out (T : Int)
  | f + 1, T, out => if (bdD n l (T : Int)).2 = true then splN n l f ((T ^^^ (clo l (bdD n l (T : Int)).1.1.toNat &&& T)) ||| (bdD n l (T : Int)).1.1.toNat) (splN n l f (clo l (bdD n l (T : Int)).1.1.toNat &&& T) out) else put4 out (T : Int)
def dcL (n : Int) (l : List (Int × Int)) : List Int := if arD n l = true then maxS (splN n l 6 (2 ^ n.toNat - 1) []) else []
theorem xor_sub : ∀ T A : Fin 32, subN A.val T.val = true → subN (T.val ^^^ A.val) T.val = true ∧ T.val ^^^ A.val < 32 := by decide +kernel
theorem xor_bit : ∀ (T A : Fin 32) (R : Fin 5), subN A.val T.val = true → bitB A.val R.val = true → bitB (T.val ^^^ A.val) R.val = false := by decide +kernel
theorem or_bit13 : ∀ (x y : Fin 32) (R : Fin 5), bitB (x.val ||| y.val) R.val = (bitB x.val R.val || bitB y.val R.val) := by decide +kernel
theorem or_lt13 : ∀ x y : Fin 32, x.val ||| y.val < 32 := by decide +kernel
theorem or_sub13 {x y T : Nat} (hx : x < 32) (hy : y < 32) (hT : T < 32) (h1 : subN x T = true) (h2 : subN y T = true) : subN (x ||| y) T = true := by
  rw [subN_bit ⟨x ||| y, or_lt13 ⟨x, hx⟩ ⟨y, hy⟩⟩ ⟨T, hT⟩]
  rw [subN_bit ⟨x, hx⟩ ⟨T, hT⟩] at h1
  rw [subN_bit ⟨y, hy⟩ ⟨T, hT⟩] at h2
  intro j hb
  have := or_bit13 ⟨x, hx⟩ ⟨y, hy⟩ j
  simp only at this
  rw [this, Bool.or_eq_true] at hb
  rcases hb with hb | hb
  · exact h1 j hb
  · exact h2 j hb
theorem pj_nobit {l : List (Int × Int)} {s r : Nat} {ps : List Int} {q : List (Int × Int)} {d : Int × Int} : ∀ k, d ∈ pjIn l s r ps q k → d ∈ q ∨ (d.2 = (r : Int) ∧ bitB d.1.toNat r = false)
  | 0, h => .inl h
  | k + 1, h => by
    unfold pjIn at h
    split at h
    · rename_i hp
      rcases List.mem_append.1 h with h | h
      · exact pj_nobit k h
      · rw [List.mem_singleton] at h
        subst h
        refine .inr ⟨rfl, ?_⟩
        unfold pjAt at hp
        revert hp
        cases bitB (ps.getD k 0).toNat r <;> simp
    · exact pj_nobit k h
theorem pj_nobitO {l : List (Int × Int)} {s : Nat} {ps : List Int} {d : Int × Int} : ∀ r, d ∈ pjOut l s ps r → bitB d.1.toNat d.2.toNat = false
  | 0, h => by cases h
  | r + 1, h => by
    unfold pjOut at h
    split at h
    · rcases pj_nobit _ h with h | ⟨h1, h2⟩
      · exact pj_nobitO r h
      · rw [h1]; exact h2
    · exact pj_nobitO r h
/-- A dependency that divides a set: what is known of it and of both parts. -/
theorem bad_facts {C T : Nat} {l : List (Int × Int)} (h : (bdD (C : Int) l (T : Int)).2 = true) : ∃ L R : Nat, (bdD (C : Int) l (T : Int)).1 = ((L : Int), (R : Int)) ∧ L < 32 ∧ R < 5 ∧ T < 32 ∧ T < 2 ^ C ∧ C ≤ 5 ∧ arD (C : Int) l = true ∧ DepsN C l ∧ subN L T = true ∧ clo l L < 32 ∧
    subN (clo l L &&& T) T = true ∧ clo l L &&& T < 32 ∧ popN (clo l L &&& T) < popN T ∧ (T ^^^ (clo l L &&& T)) ||| L < 32 ∧ subN ((T ^^^ (clo l L &&& T)) ||| L) T = true ∧ popN ((T ^^^ (clo l L &&& T)) ||| L) < popN T := by
  have hm : bdD (C : Int) l (T : Int) = ((bdD (C : Int) l (T : Int)).1, true) := by rw [← h]
  obtain ⟨h1, h2⟩ := fst13_mem hm
  obtain ⟨L, R, T', e, eT, hL, hR, hT, hLT, hTR, him⟩ := pj_facts h1
  obtain rfl : T = T' := by omega
  have hnb : bitB L R = false := by
    have h3 := h1
    unfold pjL at h3
    split at h3
    · have := pj_nobitO _ h3
      rw [e] at this
      exact this
    · cases h3
  have hok : arD (C : Int) l = true ∧ isA (C : Int) (T : Int) = true := by
    unfold pjL at h1
    split at h1
    · rename_i hp
      rw [Bool.and_eq_true] at hp
      exact hp
    · cases h1
  obtain ⟨C', e2, hC1, hC5, -, hd⟩ := arD_n hok.1
  obtain rfl : C = C' := by omega
  have hTC : T < 2 ^ C := by
    have h3 := hok.2
    unfold isA at h3
    rw [decide_eq_true_iff, show ((C : Int)).toNat = C from rfl] at h3
    have hz : ((2 ^ C : Nat) : Int) = (2 : Int) ^ C := by rw [Int.natCast_pow]; rfl
    omega
  obtain ⟨c1, c2, c3, c4, c5⟩ := clo_spec hC5 hd (x := L) hL
  have hbR : bitB (clo l L) R = true := by
    unfold impB at him
    rw [e, Bool.and_eq_true, Bool.and_eq_true] at him
    exact him.2.2
  have hbad : subN T (clo l L) = false := by
    unfold badN at h2
    rw [e] at h2
    simpa using h2
  have a1 := andN_sub ⟨clo l L, c1⟩ ⟨T, hT⟩
  have a2 := andN_bit ⟨clo l L, c1⟩ ⟨T, hT⟩ ⟨R, hR⟩
  simp only at a1 a2
  rw [hbR, hTR] at a2
  have hA32 : clo l L &&& T < 32 := by omega
  have hne : clo l L &&& T ≠ T := fun e3 => by
    rw [e3] at a1
    rw [a1.1] at hbad
    cases hbad
  have p1 := popN_up ⟨clo l L &&& T, hA32⟩ ⟨T, hT⟩ a1.2.1 (fun e3 => hne (congrArg Fin.val e3))
  simp only at p1
  obtain ⟨x1, x2⟩ := xor_sub ⟨T, hT⟩ ⟨clo l L &&& T, hA32⟩ a1.2.1
  simp only at x1 x2
  have x3 := xor_bit ⟨T, hT⟩ ⟨clo l L &&& T, hA32⟩ ⟨R, hR⟩ a1.2.1 a2
  simp only at x3
  have o1 := or_lt13 ⟨T ^^^ (clo l L &&& T), x2⟩ ⟨L, hL⟩
  simp only at o1
  have o2 := or_sub13 x2 hL hT x1 hLT
  have o3 := or_bit13 ⟨T ^^^ (clo l L &&& T), x2⟩ ⟨L, hL⟩ ⟨R, hR⟩
  simp only at o3
  rw [x3, hnb] at o3
  have p2 := popN_up ⟨(T ^^^ (clo l L &&& T)) ||| L, o1⟩ ⟨T, hT⟩ o2 (fun e3 => by
    have e4 : (T ^^^ (clo l L &&& T)) ||| L = T := congrArg Fin.val e3
    rw [e4, hTR] at o3
    cases o3)
  simp only at p2
  exact ⟨L, R, e, hL, hR, hT, hTC, hC5, hok.1, hd, hLT, c1, a1.2.1, hA32, by omega, o1, o2, by omega⟩
/-- Left and the Rights of all dependencies with this Left. -/
def syN (c : List (Int × Int)) (L : Nat) : Nat → Nat
  | 0 => L
  | k + 1 => if (c.getD k (0, 0)).1 = (L : Int) then orN (syN c L k) (c.getD k (0, 0)).2.toNat else syN c L k
def syO (c : List (Int × Int)) : Nat → List Int
  | 0 => []
  | i + 1 => put4 (syO c i) ((syN c (c.getD i (0, 0)).1.toNat c.length : Nat) : Int)
/-- Whether one of the sets holds a key. -/
def syK (k : List Int) (o : Int) : Nat → Bool
  | 0 => false
  | j + 1 => syK k o j || decide (bits .and .i64 (k.getD j 0) o = k.getD j 0)
def syH (k out : List Int) : Nat → Bool
  | 0 => false
  | i + 1 => syH k out i || syK k (out.getD i 0) k.length
def syL (n : Int) (l : List (Int × Int)) : List Int :=
  if arD n l = true then maxS (if syH (koL n l) (syO (coL11 n l) (coL11 n l).length) (syO (coL11 n l) (coL11 n l).length).length = true then syO (coL11 n l) (coL11 n l).length else put4 (syO (coL11 n l) (coL11 n l).length) ((koL n l).getD 0 0)) else []
/-- The dependencies of all parts together. -/
def alTo (n : Int) (l : List (Int × Int)) (ps : List Int) : Nat → List (Int × Int)
  | 0 => []
  | i + 1 => alTo n l ps i ++ pjL n l (ps.getD i 0)
def psB (n : Int) (l : List (Int × Int)) (ps : List Int) : Bool := arD n l && (ps.all (isA n) && l.all (fun d => bitB (clo (alTo n l ps ps.length) d.1.toNat) d.2.toNat))
theorem alTo_len (n : Int) (l : List (Int × Int)) (ps : List Int) : ∀ k, (alTo n l ps k).length ≤ 160 * k
  | 0 => Nat.le_refl _
  | k + 1 => by
    have h1 := alTo_len n l ps k
    have h2 := pjL_len n l (ps.getD k 0)
    show (alTo n l ps k ++ pjL n l (ps.getD k 0)).length ≤ _
    rw [List.length_append]
    omega
theorem sub_refl13 : ∀ x : Fin 32, subN x.val x.val = true := by decide +kernel
theorem full_bit13 : ∀ (C : Fin 6) (j : Fin 5), bitB (2 ^ C.val - 1) j.val = decide (j.val < C.val) := by decide +kernel
theorem closed_full13 {C : Nat} {l : List (Int × Int)} (hC : C ≤ 5) (hl : DepsN C l) : ClosedN l (2 ^ C - 1) := by
  intro d hd _
  obtain ⟨L, R, e, hL, hR⟩ := hl d hd
  have hf := full_bit13 ⟨C, by omega⟩ ⟨R, by omega⟩
  simp only at hf
  rw [e]
  show bitB (2 ^ C - 1) R = true
  rw [hf, decide_eq_true hR]
theorem min_ex13 {P : Nat → Prop} : ∀ x, x < 32 → P x → ∃ y, y < 32 ∧ y ≤ x ∧ subN y x = true ∧ P y ∧ ∀ z, z < 32 → P z → subN z y = true → z = y := by
  intro x
  induction x using Nat.strongRecOn with
  | ind x ih =>
    intro hx hp
    by_cases h : ∃ z, z < 32 ∧ P z ∧ subN z x = true ∧ z ≠ x
    · obtain ⟨z, z1, z2, z3, z4⟩ := h
      have hle : z ≤ x := by
        unfold subN at z3
        rw [beq_iff_eq] at z3
        have := Nat.and_le_right (n := z) (m := x)
        omega
      obtain ⟨y, y1, y2, y3, y4⟩ := ih z (by omega) z1 z2
      exact ⟨y, y1, by omega, subN_trans y3 z3, y4⟩
    · refine ⟨x, hx, Nat.le_refl _, sub_refl13 ⟨x, hx⟩, hp, fun z hz hpz hs => ?_⟩
      exact Classical.byContradiction fun hne => h ⟨z, hz, hpz, hs, hne⟩
/-- There is a key. -/
theorem koL_pos {n : Int} {l : List (Int × Int)} (ha : arD n l = true) : 0 < (koL n l).length := by
  obtain ⟨C, rfl, h1, h5, -, hd⟩ := arD_n ha
  have h32 := two5 h5
  have hp : 0 < 2 ^ C := Nat.pow_pos (by decide)
  have hE : koL (C : Int) l = minS (brdTo (spn l C) (2 ^ C)) := by unfold koL koC; rw [if_pos ha]; rfl
  have hfull : spn l C (2 ^ C - 1) = true := by
    unfold spn
    have hc : clo l (2 ^ C - 1) = 2 ^ C - 1 := (clo_id h5 hd (by omega)).2 (closed_full13 h5 hd)
    rw [hc]
    simp
  obtain ⟨y, hy, -, -, hP, hmin⟩ := min_ex13 (P := fun x => x < 2 ^ C ∧ spn l C x = true) (2 ^ C - 1) (by omega) ⟨by omega, hfull⟩
  have hm : (y : Int) ∈ koL (C : Int) l := by
    rw [hE, minS_brd (spn l C) (by omega)]
    exact ⟨y, hP.1, hP.2, rfl, fun z hz hg hs => hmin z (by omega) ⟨hz, hg⟩ hs⟩
  exact List.length_pos_of_mem hm
end Go.Proofs.Ytcgkfbjdlhapkaa
namespace Go.Proofs.Ytcgkfbjdlhapkaa
open Go.RowKit

def RetDB (x y : Int) (b : Bool) (w : World) (e : Ending) (w' : World) : Prop := e = .returned (.tuple #[.agg #[.int .i64 x, .int .i64 y], .bool b]) ∧ Below w.heap.size w w'
theorem and_bad : ∀ a T : Fin 32, (bits .and .i64 ((a.val : Nat) : Int) ((T.val : Nat) : Int) != ((T.val : Nat) : Int)) = !subN T.val a.val := by decide +kernel
theorem pj_deps {n s : Int} {l : List (Int × Int)} {d : Int × Int} (h : d ∈ pjL n l s) : ∃ C : Nat, n = (C : Int) ∧ C ≤ 5 ∧ DepsN C l := by
  unfold pjL at h
  split at h
  · rename_i hp
    rw [Bool.and_eq_true] at hp
    obtain ⟨C, e, -, h5, -, hd⟩ := arD_n hp.1
    exact ⟨C, e, h5, hd⟩
  · cases h
theorem clo_lt13 {C : Nat} {l : List (Int × Int)} (hC : C ≤ 5) (hd : DepsN C l) {x : Nat} (hx : x < 32) : clo l x < 32 := (clo_spec hC hd hx).1
theorem Bx.put13 {w : World} {b : Nat} {x y : Int} (h : Bx w b x y) (p q : Int) : Bx ((w.setCell ⟨b, 0, none⟩ (.int .i64 p)).setCell ⟨b, 1, none⟩ (.int .i64 q)) b p q := by
  have h1 := h.set0 p
  unfold Bx at *
  simp only [World.setCell, Array.getElem?_modify] at h1 ⊢
  rw [if_pos trivial] at h1 ⊢
  rw [h1]
  rfl
section
set_option maxRecDepth 20000
set_option maxHeartbeats 3200000
theorem bad13_any (v : Value) (n s : Int) (l : List (Int × Int)) (w : World) (hr : ReadD w v l) (hl : l.length ≤ 1048576) :
    Calls Try.prog 56 #[.int .i64 n, v, .int .i64 s] w (RetDB (bdD n l s).1.1 (bdD n l s).1.2 (bdD n l s).2 w) := by
  have hb1 := (Below.refl w.heap.size w).alloc (Nat.le_refl _) (.cells #[.int .i64 0, .int .i64 0] 44)
  have HZ1 := Lib.hid (bx_new w 0 0)
  have HB1 := Lib.hid hb1
  have HPJ := Lib.hid (fun w' (hb : Below w.heap.size w w') => projectDeps11_any v n s l w' (hr.kept hb) hl)
  have HCL := Lib.hid (fun (C : Nat) (hC : C ≤ 5) (hd : DepsN C l) (x : Nat) (hx : x < 32) w' (hb : Below w.heap.size w w') => close10_any C hC v l hd x hx w' (hr.kept hb) hl)
  have HPF := Lib.hid (fun d (h : d ∈ pjL n l s) => And.intro (pj_facts h) (pj_deps h))
  have hql := pjL_len n l s
  have HE : Hid (bdD n l s = fst13 (badN l s.toNat) (pjL n l s)) := Lib.hid rfl
  obtain ⟨R0, hR0⟩ : ∃ r, r = bdD n l s := ⟨_, rfl⟩
  rw [← hR0] at HE ⊢
  clear hR0
  obtain ⟨q, hq⟩ : ∃ q, q = pjL n l s := ⟨_, rfl⟩
  rw [← hq] at HPJ HPF hql HE
  clear hq hb1
  obtain ⟨a, cap, rfl, -⟩ := hr
  go_enter Try.func56, Try.ntmps56
  go_wp2_with fail
  refine (HPJ.out _ HB1.out).mono ?_
  rintro e w2 ⟨vq, rfl, oq, b2⟩
  have HB2 := Lib.hid (HB1.out.trans (b2.mono HB1.out.size))
  have HZ2 := Lib.hid (HZ1.out.keep b2)
  have HQ2 := Lib.hid oq.read
  obtain ⟨aq, cq, rfl, -⟩ := oq.read
  clear oq b2 HPJ
  go_wp2_with fail
  go_loopw [9] (fun iv wr => ∃ i : Nat, i ≤ q.length ∧ iv = .int .i64 (i : Int) ∧ Hid (R0 = fst13 (badN l s.toNat) (q.drop i)) ∧ Hid (ReadD wr (.slice aq q.length cq) q) ∧ Hid (Bx wr w.heap.size 0 0) ∧ Hid (Below w.heap.size w wr)) (fun iv _ => q.length - (intOf iv).toNat)
  case atStart => exact ⟨0, by omega, rfl, HE, HQ2, HZ2, HB2⟩
  case round =>
    clear HQ2 HZ2 HB2 HE
    obtain ⟨i, hi, rfl, HE, HQ, HZ, HB⟩ := hrel
    obtain ⟨w5, hw⟩ : ∃ w', w' = wr := ⟨_, rfl⟩
    rw [← hw] at HQ HZ HB ⊢
    clear hw
    have z0 : (0 : Int) ≤ (i : Int) := by omega
    by_cases hlt : i < q.length
    · have z1 : (i : Int) < (q.length : Int) := by omega
      obtain ⟨bd, od, hbd, h0, h1⟩ := readD_cells HQ.out hlt
      subst hbd
      obtain ⟨⟨x, R, T, hd, hs, hx, hR5, hT, -⟩, C, hn, hC, hDN⟩ := HPF.out _ (memD hlt)
      subst hs hn
      have HC := Lib.hid (HCL.out C hC hDN x hx)
      have hk := clo_lt13 hC hDN hx
      have hab := and_bad ⟨clo l x, hk⟩ ⟨T, hT⟩
      simp only at hab
      have hbn : badN l ((T : Int)).toNat ((x : Int), (R : Int)) = !subN T (clo l x) := rfl
      have HST := Lib.hid (fst13_step (badN l ((T : Int)).toNat) q hlt)
      have HAT := Lib.hid (fst13_at (badN l ((T : Int)).toNat) q hlt)
      rw [hd, hbn] at HST HAT
      rw [hd] at h0 h1
      simp only at h0 h1
      obtain ⟨K, hK⟩ : ∃ K, K = clo l x := ⟨_, rfl⟩
      rw [← hK] at HC hab HST HAT
      clear hbn hk hDN hK hd
      cases hp : subN T K with
      | true =>
        rw [hp] at hab HST
        have HN := Lib.hid (HE.out.trans (HST.out rfl))
        clear hp HST HAT
        go_wp2_with fail
        refine (HC.out _ HB.out).mono ?_
        rintro e w6 ⟨rfl, b6⟩
        replace HB := Lib.hid (HB.out.trans (b6.mono HB.out.size))
        replace HQ := Lib.hid (HQ.out.kept b6)
        replace HZ := Lib.hid (HZ.out.keep b6)
        clear b6 h0 h1
        go_wp2_with fail
        go_roundw
        case rel => exact ⟨i + 1, by omega, by go_num, HN, HQ, HZ, HB⟩
        case measure => simp [intOf]; omega
      | false =>
        rw [hp] at hab HAT
        have HN := Lib.hid (HE.out.trans (HAT.out rfl))
        clear hp HST HAT
        go_wp2_with fail
        refine (HC.out _ HB.out).mono ?_
        rintro e w6 ⟨rfl, b6⟩
        have k0 := keep_in h0 b6
        have k1 := keep_in h1 b6
        replace HB := Lib.hid (HB.out.trans (b6.mono HB.out.size))
        replace HZ := Lib.hid (HZ.out.keep b6)
        clear b6 h0 h1
        have d0 := HZ.out.c0
        have d1 := HZ.out.c1
        have e0 := HZ.out.f0
        have e1 := HZ.out.f1
        have hf := HZ.out.put13 (x : Int) (R : Int)
        have HR := Lib.hid (And.intro hf.c0 hf.c1)
        have HBE := Lib.hid ((HB.out.setCell (p := ⟨w.heap.size, 0, none⟩) (Nat.le_refl _) (.int .i64 (x : Int))).setCell (p := ⟨w.heap.size, 1, none⟩) (Nat.le_refl _) (.int .i64 (R : Int)))
        clear hf
        go_wp2_with fail
        exact bodyPost_ret (v := .tuple #[.agg #[.int .i64 (x : Int), .int .i64 (R : Int)], .bool true]) (by simp [results, Try.results56, go_sem, HR.out.1, HR.out.2]) rfl ⟨by rw [HN.out], HBE.out⟩
    · obtain rfl : i = q.length := by omega
      have HN := Lib.hid (HE.out.trans (fst13_end _ q))
      have d0 := HZ.out.c0
      have d1 := HZ.out.c1
      have e0 := HZ.out.f0
      have e1 := HZ.out.f1
      have hf := HZ.out.put13 0 0
      have HR := Lib.hid (And.intro hf.c0 hf.c1)
      have HBE := Lib.hid ((HB.out.setCell (p := ⟨w.heap.size, 0, none⟩) (Nat.le_refl _) (.int .i64 0)).setCell (p := ⟨w.heap.size, 1, none⟩) (Nat.le_refl _) (.int .i64 0))
      clear hf
      go_wp2_with fail
      exact bodyPost_ret (v := .tuple #[.agg #[.int .i64 0, .int .i64 0], .bool false]) (by simp [results, Try.results56, go_sem, HR.out.1, HR.out.2]) rfl ⟨by rw [HN.out], HBE.out⟩
theorem fine13_any (v : Value) (n s : Int) (l : List (Int × Int)) (w : World) (hr : ReadD w v l) (hl : l.length ≤ 1048576) :
    Calls Try.prog 57 #[.int .i64 n, v, .int .i64 s] w fun e w' => e = .returned (.bool (fineN n l s)) ∧ Below w.heap.size w w' := by
  have HAD := Lib.hid (areDeps10_any v n l w hr hl)
  have HIA := Lib.hid (fun w' => isA_any n s w')
  have HE : Hid (fineN n l s = (arD n l && isA n s)) := Lib.hid rfl
  obtain ⟨q, hq⟩ : ∃ q, q = isA n s := ⟨_, rfl⟩
  rw [← hq] at HIA HE
  rw [HE.out]
  obtain ⟨a, cap, rfl, -⟩ := hr
  clear hq
  cases ha : arD n l with
  | false =>
    rw [ha] at HAD
    clear ha
    go_enter Try.func57, Try.ntmps57
    go_wp2_with fail
    refine HAD.out.mono ?_
    rintro e w2 ⟨rfl, b2⟩
    go_wp2_with fail
    go_ret
    exact ⟨rfl, b2⟩
  | true =>
    rw [ha] at HAD
    clear ha
    go_enter Try.func57, Try.ntmps57
    go_wp2_with fail
    refine HAD.out.mono ?_
    rintro e w2 ⟨rfl, b2⟩
    go_wp2_with fail
    refine (HIA.out _).mono ?_
    rintro e w3 ⟨rfl, rfl⟩
    go_wp2_with fail
    go_ret
    exact ⟨ret_b (by rw [Bool.true_and]), b2⟩
theorem isBoyce13_any (v : Value) (n s : Int) (l : List (Int × Int)) (w : World) (hr : ReadD w v l) (hl : l.length ≤ 1048576) :
    Calls Try.prog 26 #[.int .i64 n, v, .int .i64 s] w fun e w' => e = .returned (.bool (byB n l s)) ∧ Below w.heap.size w w' := by
  have HBD := Lib.hid (bad13_any v n s l w hr hl)
  have HFI := Lib.hid (fun w' (hb : Below w.heap.size w w') => fine13_any v n s l w' (hr.kept hb) hl)
  have HE : Hid (byB n l s = (fineN n l s && !(bdD n l s).2)) := Lib.hid rfl
  obtain ⟨⟨⟨x, y⟩, bb⟩, hB⟩ : ∃ B, B = bdD n l s := ⟨_, rfl⟩
  rw [← hB] at HBD HE
  rw [HE.out]
  simp only at HBD
  obtain ⟨a, cap, rfl, -⟩ := hr
  clear hB
  cases hf : fineN n l s with
  | false =>
    rw [hf] at HFI
    clear hf
    go_enter Try.func26, Try.ntmps26
    go_wp2_with fail
    refine HBD.out.mono ?_
    rintro e w2 ⟨rfl, b2⟩
    have HA2 := Lib.hid (b2.alloc b2.size (.cells #[.int .i64 x, .int .i64 y] 44))
    clear b2
    go_wp2_with fail
    refine (HFI.out _ HA2.out).mono ?_
    rintro e w3 ⟨rfl, b3⟩
    have b4 := HA2.out.trans (b3.mono HA2.out.size)
    go_wp2_with fail
    go_ret
    exact ⟨rfl, b4⟩
  | true =>
    rw [hf] at HFI
    clear hf
    go_enter Try.func26, Try.ntmps26
    go_wp2_with fail
    refine HBD.out.mono ?_
    rintro e w2 ⟨rfl, b2⟩
    have HA2 := Lib.hid (b2.alloc b2.size (.cells #[.int .i64 x, .int .i64 y] 44))
    clear b2
    go_wp2_with fail
    refine (HFI.out _ HA2.out).mono ?_
    rintro e w3 ⟨rfl, b3⟩
    have b4 := HA2.out.trans (b3.mono HA2.out.size)
    go_wp2_with fail
    go_ret
    exact ⟨ret_b (by rw [Bool.true_and]), b4⟩
end
end Go.Proofs.Ytcgkfbjdlhapkaa
