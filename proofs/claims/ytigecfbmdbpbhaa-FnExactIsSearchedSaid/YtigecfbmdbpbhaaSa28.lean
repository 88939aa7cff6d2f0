/- Texts of this claim, merged: SrC. Conditions: as stated. -/
import Derived.Test.YtigecfbmdbpbhaaSa23
import Derived.Deep.RegionLaw
namespace Go.Proofs.Ytigecfbmdbpbhaa
open Go.RowKit

/-- Where a search stops that is run with a budget. -/
noncomputable def rnK (c : Int) (ll : List (List Int)) (m at_ t b : Int) : Nat := goN c.toNat ll m t ((c.toNat * 2 ^ c.toNat : Nat) : Int) b (c.toNat * 2 ^ c.toNat - at_.toNat) at_.toNat
noncomputable def rsA (c : Int) (ll : List (List Int)) (m at_ : Int) (F : List (Int × Int)) (t b : Int) : Int := if isSB c ll m at_ F t = true then (rnK c ll m at_ t b : Int) else at_
noncomputable def rsF (c : Int) (ll : List (List Int)) (m at_ : Int) (F : List (Int × Int)) (t b : Int) : List (Int × Int) := if isSB c ll m at_ F t = true then (repN c.toNat ll m (rnK c ll m at_ t b)).1 else F
noncomputable def rsT (c : Int) (ll : List (List Int)) (m at_ : Int) (F : List (Int × Int)) (t b : Int) : Int := if isSB c ll m at_ F t = true then ((repN c.toNat ll m (rnK c ll m at_ t b)).2 : Int) else t
theorem isSB_all {c m at_ t : Int} {ll : List (List Int)} {F : List (Int × Int)} (h : isSB c ll m at_ F t = true) : ∃ C K n : Nat, c = (C : Int) ∧ at_ = (K : Int) ∧ t = (n : Int) ∧ 1 ≤ C ∧ C ≤ 5 ∧ K ≤ C * 2 ^ C ∧ C * 2 ^ C ≤ 160 ∧ fineT c ll m = true ∧ repN C ll m K = (F, n) := by
  obtain ⟨C, K, rfl, rfl, hC1, hC5, hK, hf⟩ := isSB_fine h
  unfold isSB at h
  rw [Bool.and_eq_true, Bool.and_eq_true, decide_eq_true_iff, decide_eq_true_iff] at h
  obtain ⟨⟨-, h2⟩, h3⟩ := h
  rw [show ((C : Int)).toNat = C from rfl, show ((K : Int)).toNat = K from rfl] at h2 h3
  have h32 := two5 hC5
  have h4 : C * 2 ^ C ≤ 5 * 32 := Nat.mul_le_mul hC5 h32
  exact ⟨C, K, (repN C ll m K).2, rfl, rfl, h3, hC1, hC5, hK, by omega, hf, by rw [h2]⟩
theorem keepSet {w0 w' : World} {b : Nat} {c m at_ t : Int} {v f : Value} (h : SBx w' b c v m at_ f t ∧ Below w0.heap.size w0 w') (p : Nat) (hp : b ≠ p) (hp2 : w0.heap.size ≤ p) (x y : Value) : SBx ((w'.setCell ⟨p, 0, none⟩ x).setCell ⟨p, 1, none⟩ y) b c v m at_ f t ∧ Below w0.heap.size w0 ((w'.setCell ⟨p, 0, none⟩ x).setCell ⟨p, 1, none⟩ y) := by
  have e : ((w'.setCell ⟨p, 0, none⟩ x).setCell ⟨p, 1, none⟩ y).heap[b]? = w'.heap[b]? := (Below.heap_setCell _ _ _ _ hp).trans (Below.heap_setCell _ _ _ _ hp)
  obtain ⟨⟨h0, h1⟩, ⟨h2, h3⟩, h4, h5⟩ := h.1
  exact ⟨⟨⟨cell_eqb h0 e, cell_eqb h1 e⟩, ⟨cell_eqb h2 e, cell_eqb h3 e⟩, cell_eqb h4 e, cell_eqb h5 e⟩, (h.2.setCell (p := ⟨p, 0, none⟩) hp2 x).setCell (p := ⟨p, 1, none⟩) hp2 y⟩
section
set_option maxRecDepth 20000
set_option maxHeartbeats 1600000
theorem implIsSearched_any (c m at_ t : Int) (v f : Value) (ll : List (List Int)) (F : List (Int × Int)) (w : World) (hr : ReadSS w v ll) (hl : ll.length ≤ 1048576) (ht : ∀ i, i < ll.length → (ll.getD i []).length ≤ 1048576) (hf : ReadD w f F) (hF : F.length ≤ 1048576) :
    Calls Try.prog 28 #[srcV c v m at_ f t] w fun e w' => e = .returned (.bool (edB c ll m at_ F t)) ∧ Below w.heap.size w w' := by
  have HF := Lib.hid (fun w' (hb : Below w.heap.size w w') => implIsSearch_any c m at_ t v f ll F w' (hr.kept hb) hl ht (hf.kept hb) hF)
  have HB1 := Lib.hid ((Below.refl w.heap.size w).alloc (Nat.le_refl _) (.cells #[.int .i64 c, v, .int .i64 m, .int .i64 at_, f, .int .i64 t] 29))
  have HSB := Lib.hid (SBx.mk' w 29 c v m at_ f t)
  obtain ⟨a, cap, rfl, -⟩ := hr
  obtain ⟨af, capf, rfl, -⟩ := hf
  obtain ⟨⟨c0, c1⟩, ⟨c2, c3⟩, c4, c5⟩ := HSB.out
  unfold srcV at *
  clear ht
  cases hs : isSB c ll m at_ F t with
  | false =>
    have HE : Hid (edB c ll m at_ F t = false) := Lib.hid (by unfold edB; rw [hs]; rfl)
    rw [hs] at HF
    clear hs
    go_enter Try.func28, Try.ntmps28
    go_wp2_with fail
    refine (HF.out _ HB1.out).mono ?_
    rintro e w1 ⟨rfl, b1⟩
    have hb3 := HB1.out.trans (b1.mono HB1.out.size)
    go_wp2_with fail
    go_ret
    exact ⟨ret_b HE.out, hb3⟩
  | true =>
    obtain ⟨C, K, rfl, rfl, hC1, hC5, hK, -⟩ := isSB_fine hs
    have HE : Hid (edB (C : Int) ll m (K : Int) F t = decide (K = C * 2 ^ C)) := Lib.hid (by
      unfold edB
      rw [hs, Bool.true_and, show ((C : Int)).toNat = C from rfl, Bool.eq_iff_iff, decide_eq_true_iff, decide_eq_true_iff]
      omega)
    rw [HE.out]
    have HD := Lib.hid (fun w' => hasEnded_any C K hC1 hC5 m t a af ll.length F.length cap capf w')
    unfold srcV at HD
    rw [hs] at HF
    obtain ⟨bb, hbb⟩ : ∃ bb, bb = decide (K = C * 2 ^ C) := ⟨_, rfl⟩
    rw [← hbb] at HD ⊢
    clear hs hbb hK HE
    go_enter Try.func28, Try.ntmps28
    go_wp2_with fail
    refine (HF.out _ HB1.out).mono ?_
    rintro e w1 ⟨rfl, b1⟩
    have hb3 := HB1.out.trans (b1.mono HB1.out.size)
    have HS1 := Lib.hid (HSB.out.kept b1)
    clear c0 c1 c2 c3 c4 c5 b1
    obtain ⟨⟨c0, c1⟩, ⟨c2, c3⟩, c4, c5⟩ := HS1.out
    go_wp2_with fail
    refine (HD.out _).mono ?_
    rintro e w2 ⟨rfl, b2⟩
    have hb4 := hb3.trans (b2.mono hb3.size)
    go_wp2_with fail
    go_ret
    exact ⟨rfl, hb4⟩
theorem implCandidateAt_any (c m at_ t : Int) (v f : Value) (ll : List (List Int)) (F : List (Int × Int)) (w : World) (hr : ReadSS w v ll) (hl : ll.length ≤ 1048576) (ht : ∀ i, i < ll.length → (ll.getD i []).length ≤ 1048576) (hf : ReadD w f F) (hF : F.length ≤ 1048576) :
    Calls Try.prog 23 #[srcV c v m at_ f t] w fun e w' => e = .returned (.tuple #[.agg #[.int .i64 (nxD c ll m at_ F t).1, .int .i64 (nxD c ll m at_ F t).2], .bool (nxB c ll m at_ F t)]) ∧ Below w.heap.size w w' := by
  have HF := Lib.hid (fun w' (hb : Below w.heap.size w w') => implIsSearch_any c m at_ t v f ll F w' (hr.kept hb) hl ht (hf.kept hb) hF)
  have hb1 := (Below.refl w.heap.size w).alloc (Nat.le_refl _) (.cells #[.int .i64 c, v, .int .i64 m, .int .i64 at_, f, .int .i64 t] 29)
  have h12 := (Below.refl (w.alloc (.cells #[.int .i64 c, v, .int .i64 m, .int .i64 at_, f, .int .i64 t] 29)).heap.size (w.alloc (.cells #[.int .i64 c, v, .int .i64 m, .int .i64 at_, f, .int .i64 t] 29))).alloc (Nat.le_refl _) (.cells #[.int .i64 0, .int .i64 0] 46)
  have hb2 := hb1.trans (h12.mono hb1.size)
  have HS0 := (SBx.mk' w 29 c v m at_ f t).kept h12
  have hbx := heap_alloc_new (w.alloc (.cells #[.int .i64 c, v, .int .i64 m, .int .i64 at_, f, .int .i64 t] 29)) (.cells #[.int .i64 0, .int .i64 0] 46)
  rw [World.size_alloc] at hbx
  obtain ⟨W, hW⟩ : ∃ W, W = (w.alloc (.cells #[.int .i64 c, v, .int .i64 m, .int .i64 at_, f, .int .i64 t] 29)).alloc (.cells #[.int .i64 0, .int .i64 0] 46) := ⟨_, rfl⟩
  have hWs : w.heap.size + 1 < W.heap.size := by rw [hW]; simp
  rw [← hW] at hb2 HS0 hbx
  have HKX := Lib.hid (fun w' (hb : Below W.heap.size W w') => (hb.block (w.heap.size + 1) hWs).trans hbx)
  have HSB := Lib.hid HS0
  have HB1 := Lib.hid hb2
  obtain ⟨a, cap, rfl, -⟩ := hr
  obtain ⟨af, capf, rfl, -⟩ := hf
  clear hb1 ht h12 HS0 hb2 hWs hbx
  cases hs : isSB c ll m at_ F t with
  | false =>
    have HE : Hid (nxB c ll m at_ F t = false) := Lib.hid (by unfold nxB; rw [hs]; rfl)
    have HE2 : Hid (nxD c ll m at_ F t = (0, 0)) := Lib.hid (by unfold nxD; rw [HE.out]; rfl)
    rw [hs] at HF
    unfold srcV at *
    rw [hW] at HSB HB1 HKX
    obtain ⟨⟨c0, c1⟩, ⟨c2, c3⟩, c4, c5⟩ := HSB.out
    clear hs hW
    go_enter Try.func23, Try.ntmps23
    go_wp2_with fail
    refine (HF.out _ HB1.out).mono ?_
    rintro e w1 ⟨rfl, b1⟩
    have hb3 := HB1.out.trans (b1.mono HB1.out.size)
    have hk := HKX.out w1 b1
    have d0 : w1.cell? ⟨w.heap.size + 1, 0, none⟩ = some (.int .i64 0) := by rw [cell_of_row w1 (w.heap.size + 1) 0 _ _ _ hk]; rfl
    have d1 : w1.cell? ⟨w.heap.size + 1, 1, none⟩ = some (.int .i64 0) := by rw [cell_of_row w1 (w.heap.size + 1) 1 _ _ _ hk]; rfl
    have f0 := frozen_of_row w1 (w.heap.size + 1) 0 _ _ hk
    have f1 := frozen_of_row w1 (w.heap.size + 1) 1 _ _ hk
    clear b1 hk
    go_wp2_with fail
    exact bodyPost_ret (v := .tuple #[.agg #[.int .i64 0, .int .i64 0], .bool false]) (by simp [results, Try.results23, go_sem, d0, d1]) rfl ⟨by rw [HE.out, HE2.out], (hb3.setCell (p := ⟨w.heap.size + 1, 0, none⟩) (Nat.le_succ _) _).setCell (p := ⟨w.heap.size + 1, 1, none⟩) (Nat.le_succ _) _⟩
  | true =>
    obtain ⟨C, K, rfl, rfl, hC1, hC5, hK, -⟩ := isSB_fine hs
    have HD := Lib.hid (fun w' => hasEnded_any C K hC1 hC5 m t a af ll.length F.length cap capf w')
    have hed : edB (C : Int) ll m (K : Int) F t = decide (K = C * 2 ^ C) := by
      unfold edB
      rw [hs, Bool.true_and, show ((C : Int)).toNat = C from rfl, Bool.eq_iff_iff, decide_eq_true_iff, decide_eq_true_iff]
      omega
    by_cases hlt : K = C * 2 ^ C
    · have HE : Hid (nxB (C : Int) ll m (K : Int) F t = false) := Lib.hid (by unfold nxB; rw [hed, decide_eq_true hlt]; simp)
      have HE2 : Hid (nxD (C : Int) ll m (K : Int) F t = (0, 0)) := Lib.hid (by unfold nxD; rw [HE.out]; rfl)
      rw [hs] at HF
      rw [decide_eq_true hlt] at HD
      unfold srcV at *
      rw [hW] at HSB HB1 HKX
      obtain ⟨⟨c0, c1⟩, ⟨c2, c3⟩, c4, c5⟩ := HSB.out
      clear hs hed hW hK hlt
      go_enter Try.func23, Try.ntmps23
      go_wp2_with fail
      refine (HF.out _ HB1.out).mono ?_
      rintro e w1 ⟨rfl, b1⟩
      have hb3 := HB1.out.trans (b1.mono HB1.out.size)
      have HS1 := Lib.hid (HSB.out.kept b1)
      clear c0 c1 c2 c3 c4 c5
      obtain ⟨⟨c0, c1⟩, ⟨c2, c3⟩, c4, c5⟩ := HS1.out
      go_wp2_with fail
      refine (HD.out _).mono ?_
      rintro e w2 ⟨rfl, b2⟩
      have hb4 := hb3.trans (b2.mono hb3.size)
      have hk := HKX.out w2 (b1.trans (b2.mono b1.size))
      have d0 : w2.cell? ⟨w.heap.size + 1, 0, none⟩ = some (.int .i64 0) := by rw [cell_of_row w2 (w.heap.size + 1) 0 _ _ _ hk]; rfl
      have d1 : w2.cell? ⟨w.heap.size + 1, 1, none⟩ = some (.int .i64 0) := by rw [cell_of_row w2 (w.heap.size + 1) 1 _ _ _ hk]; rfl
      have f0 := frozen_of_row w2 (w.heap.size + 1) 0 _ _ hk
      have f1 := frozen_of_row w2 (w.heap.size + 1) 1 _ _ hk
      clear b1 b2 hk c0 c1 c2 c3 c4 c5
      go_wp2_with fail
      exact bodyPost_ret (v := .tuple #[.agg #[.int .i64 0, .int .i64 0], .bool false]) (by simp [results, Try.results23, go_sem, d0, d1]) rfl ⟨by rw [HE.out, HE2.out], (hb4.setCell (p := ⟨w.heap.size + 1, 0, none⟩) (Nat.le_succ _) _).setCell (p := ⟨w.heap.size + 1, 1, none⟩) (Nat.le_succ _) _⟩
    · have hlt2 : K < C * 2 ^ C := by omega
      obtain ⟨x, r, e, hx, hr5⟩ := cdt_ok hC1 hC5 hlt2
      have HE : Hid (nxB (C : Int) ll m (K : Int) F t = true) := Lib.hid (by unfold nxB; rw [hs, hed, decide_eq_false hlt]; rfl)
      have HE2 : Hid (nxD (C : Int) ll m (K : Int) F t = ((x : Int), (r : Int))) := Lib.hid (by unfold nxD; rw [if_pos HE.out]; exact e)
      have HCD := Lib.hid (fun w' => cands_any C hC1 hC5 m (K : Int) t a af ll.length F.length cap capf w')
      have HGE := Lib.hid ((cdL_get C _ _ hlt2).trans e)
      have HLL := Lib.hid (cdL_len C (C * 2 ^ C))
      rw [hs] at HF
      rw [decide_eq_false hlt] at HD
      obtain ⟨N, hN⟩ : ∃ N, N = C * 2 ^ C := ⟨_, rfl⟩
      rw [← hN] at HCD HGE HLL hlt2
      have HOA : Hid (∀ (w3 : World) (cpd B : Nat) (ad : Option Addr), OwnD w3 B (.slice ad N cpd) (cdL C N) → ∃ b o, ad = some ⟨b, o, none⟩ ∧ w3.cell? ⟨b, o + K * 2, none⟩ = some (.int .i64 (x : Int)) ∧ w3.cell? ⟨b, o + K * 2 + 1, none⟩ = some (.int .i64 (r : Int))) := Lib.hid (fun w3 cpd B ad oo => by
        have h := ord_at oo (k := K) (by rw [HLL.out]; exact hlt2)
        rw [HGE.out] at h
        exact h)
      unfold srcV at *
      rw [hW] at HSB HB1 HKX
      obtain ⟨⟨c0, c1⟩, ⟨c2, c3⟩, c4, c5⟩ := HSB.out
      clear hs hed hW hK e hlt hN
      go_enter Try.func23, Try.ntmps23
      go_wp2_with fail
      refine (HF.out _ HB1.out).mono ?_
      rintro e w1 ⟨rfl, b1⟩
      have hb3 := HB1.out.trans (b1.mono HB1.out.size)
      have HS1 := Lib.hid (HSB.out.kept b1)
      clear c0 c1 c2 c3 c4 c5
      obtain ⟨⟨c0, c1⟩, ⟨c2, c3⟩, c4, c5⟩ := HS1.out
      go_wp2_with fail
      refine (HD.out _).mono ?_
      rintro e w2 ⟨rfl, b2⟩
      have HB4 := Lib.hid (hb3.trans (b2.mono hb3.size))
      have HS2 := Lib.hid (HS1.out.kept b2)
      have HK2 := Lib.hid (b1.trans (b2.mono b1.size))
      clear c0 c1 c2 c3 c4 c5 b1 b2 hb3
      obtain ⟨⟨c0, c1⟩, ⟨c2, c3⟩, c4, c5⟩ := HS2.out
      have z0 : (0 : Int) ≤ (K : Int) := by omega
      have z1 : (K : Int) < (N : Int) := by omega
      go_wp2_with fail
      refine wp_region_noPanic ?_
      refine wp_region_held_drew (S := (fun w' => ((w'.cell? ⟨w.heap.size, 0, none⟩ = some (.int .i64 (C : Int)) ∧ w'.cell? ⟨w.heap.size, 1, none⟩ = some (.slice a ll.length cap)) ∧ (w'.cell? ⟨w.heap.size, 2, none⟩ = some (.int .i64 m) ∧ w'.cell? ⟨w.heap.size, 3, none⟩ = some (.int .i64 (K : Int))) ∧ w'.cell? ⟨w.heap.size, 4, none⟩ = some (.slice af F.length capf) ∧ w'.cell? ⟨w.heap.size, 5, none⟩ = some (.int .i64 t)) ∧ Below w.heap.size w w')) (by kernel_rfl) ?_ (fun hHeld => ?_)
      · ((try dsimp only); (first | exact keepSet hHeld (w.heap.size + 1) (by omega) (by omega) _ _ | exact hHeld | exact keepS hHeld b3 | exact ⟨⟨⟨c0, c1⟩, ⟨c2, c3⟩, c4, c5⟩, HB4.out.drew⟩))
      refine wpAnyH_take (i := 0) (v := ?_) rfl (by kernel_rfl) (by kernel_rfl) (by kernel_rfl) (fun _ _ _ h => h) (Or.inl ⟨by rfl, ?_⟩) (by assumption) ?_
      rotate_left
      · (intro w hSw; (try dsimp only at hSw); go_simp; (try with_reducible rfl))
      (try simp only [Act.put, List.getElem_toArray, List.getElem_cons_zero, List.setIfInBounds_toArray, List.set_cons_zero, List.set_cons_succ])
      refine wpAnyH_take (i := 2) (v := ?_) rfl (by kernel_rfl) (by kernel_rfl) (by kernel_rfl) (fun _ _ _ h => h) (Or.inl ⟨by rfl, ?_⟩) (by assumption) ?_
      rotate_left
      · (intro w hSw; (try dsimp only at hSw); go_simp; (try with_reducible rfl))
      (try simp only [Act.put, List.getElem_toArray, List.getElem_cons_succ, List.getElem_cons_zero, List.setIfInBounds_toArray, List.set_cons_zero, List.set_cons_succ])
      refine wpAnyH_take (i := 3) (v := ?_) rfl (by kernel_rfl) (by kernel_rfl) (by kernel_rfl) (fun _ _ _ h => h) (Or.inl ⟨by rfl, ?_⟩) (by assumption) ?_
      rotate_left
      · (intro w hSw; (try dsimp only at hSw); go_simp; (try with_reducible rfl))
      (try simp only [Act.put, List.getElem_toArray, List.getElem_cons_succ, List.getElem_cons_zero, List.setIfInBounds_toArray, List.set_cons_zero, List.set_cons_succ])
      refine wpAnyH_ready (rs := [1]) (by kernel_rfl) (by simp) (AllReadyH.cons rfl (fun K hK => ?_) AllReadyH.nil)
      (first | ((go_at_call 52; refine (HCD.out _).mono ?_; rintro e w3 ⟨vo, rfl, oo, b3⟩; obtain ⟨ad, cpd, hov⟩ := oo.shape; rw [HLL.out] at hov; subst hov; obtain ⟨ob, of, had, y0, y1⟩ := HOA.out _ _ _ _ oo; subst had; have hk := HKX.out w3 (HK2.out.drew.trans (b3.mono HK2.out.drew.size)); have d0 : w3.cell? ⟨w.heap.size + 1, 0, none⟩ = some (.int .i64 0) := (by rw [cell_of_row w3 (w.heap.size + 1) 0 _ _ _ hk]; rfl); have d1 : w3.cell? ⟨w.heap.size + 1, 1, none⟩ = some (.int .i64 0) := (by rw [cell_of_row w3 (w.heap.size + 1) 1 _ _ _ hk]; rfl); have f0 := frozen_of_row w3 (w.heap.size + 1) 0 _ _ hk; have f1 := frozen_of_row w3 (w.heap.size + 1) 1 _ _ hk; clear oo hk)) | (go_simp; (go_at_call 52; refine (HCD.out _).mono ?_; rintro e w3 ⟨vo, rfl, oo, b3⟩; obtain ⟨ad, cpd, hov⟩ := oo.shape; rw [HLL.out] at hov; subst hov; obtain ⟨ob, of, had, y0, y1⟩ := HOA.out _ _ _ _ oo; subst had; have hk := HKX.out w3 (HK2.out.drew.trans (b3.mono HK2.out.drew.size)); have d0 : w3.cell? ⟨w.heap.size + 1, 0, none⟩ = some (.int .i64 0) := (by rw [cell_of_row w3 (w.heap.size + 1) 0 _ _ _ hk]; rfl); have d1 : w3.cell? ⟨w.heap.size + 1, 1, none⟩ = some (.int .i64 0) := (by rw [cell_of_row w3 (w.heap.size + 1) 1 _ _ _ hk]; rfl); have f0 := frozen_of_row w3 (w.heap.size + 1) 0 _ _ hk; have f1 := frozen_of_row w3 (w.heap.size + 1) 1 _ _ hk; clear oo hk)))
      (try (go_wp2_with fail))
      refine hK.out _ _ ?_ (fun hHeld => ?_)
      · ((try dsimp only); (first | exact keepSet hHeld (w.heap.size + 1) (by omega) (by omega) _ _ | exact hHeld | exact keepS hHeld b3 | exact ⟨⟨⟨c0, c1⟩, ⟨c2, c3⟩, c4, c5⟩, HB4.out.drew⟩))
      clear hK K
      (try simp only [Act.put, List.getElem_toArray, List.getElem_cons_succ, List.getElem_cons_zero, List.setIfInBounds_toArray, List.set_cons_zero, List.set_cons_succ])
      refine wpAnyH_take (i := 4) (v := ?_) rfl (by kernel_rfl) (by kernel_rfl) (by kernel_rfl) (fun _ _ _ h => h) (Or.inl ⟨by rfl, ?_⟩) (by assumption) ?_
      rotate_left
      · (intro w hSw; (try dsimp only at hSw); go_simp; (try with_reducible rfl))
      (try simp only [Act.put, List.getElem_toArray, List.getElem_cons_succ, List.getElem_cons_zero, List.setIfInBounds_toArray, List.set_cons_zero, List.set_cons_succ])
      refine wpAnyH_ready (rs := [5]) (by kernel_rfl) (by simp) (AllReadyH.cons rfl (fun K hK => ?_) AllReadyH.nil)
      go_simp
      refine hK.out _ _ ?_ (fun hHeld => ?_)
      · ((try dsimp only); (first | exact keepSet hHeld (w.heap.size + 1) (by omega) (by omega) _ _ | exact hHeld | exact keepS hHeld b3 | exact ⟨⟨⟨c0, c1⟩, ⟨c2, c3⟩, c4, c5⟩, HB4.out.drew⟩))
      clear hK K
      (try simp only [Act.put, List.getElem_toArray, List.getElem_cons_succ, List.getElem_cons_zero, List.setIfInBounds_toArray, List.set_cons_zero, List.set_cons_succ])
      refine wpAnyH_ready (rs := [6]) (by kernel_rfl) (by simp) (AllReadyH.cons rfl (fun K hK => ?_) AllReadyH.nil)
      go_simp
      refine hK.out _ _ ?_ (fun hHeld => ?_)
      · ((try dsimp only); (first | exact keepSet hHeld (w.heap.size + 1) (by omega) (by omega) _ _ | exact hHeld | exact keepS hHeld b3 | exact ⟨⟨⟨c0, c1⟩, ⟨c2, c3⟩, c4, c5⟩, HB4.out.drew⟩))
      clear hK K
      (try simp only [Act.put, List.getElem_toArray, List.getElem_cons_succ, List.getElem_cons_zero, List.setIfInBounds_toArray, List.set_cons_zero, List.set_cons_succ])
      refine wpAnyH_take (i := 7) (v := ?_) rfl (by kernel_rfl) (by kernel_rfl) (by kernel_rfl) (fun _ _ _ h => h) (Or.inl ⟨by rfl, ?_⟩) (by assumption) ?_
      rotate_left
      · (intro w hSw; (try dsimp only at hSw); go_simp; (try with_reducible rfl))
      (try simp only [Act.put, List.getElem_toArray, List.getElem_cons_succ, List.getElem_cons_zero, List.setIfInBounds_toArray, List.set_cons_zero, List.set_cons_succ])
      refine wpAnyH_done (by kernel_rfl) ?_ _
      refine NoPanic.normal ?_
      clear c0 c1 c2 c3 c4 c5
      go_wp2_with fail
      exact bodyPost_ret (v := .tuple #[.agg #[.int .i64 (x : Int), .int .i64 (r : Int)], .bool true]) (by simp [results, Try.results23, go_sem, d0, d1]) rfl ⟨by rw [HE.out, HE2.out], hHeld.2⟩
end
end Go.Proofs.Ytigecfbmdbpbhaa
