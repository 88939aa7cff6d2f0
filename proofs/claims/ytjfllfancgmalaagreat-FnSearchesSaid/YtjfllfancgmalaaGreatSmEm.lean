/- The model's RunSearch, by contract. Conditions: as stated. -/
import Derived.Test.YtjfllfancgmalaaGreatSmDm
import Derived.Test.YtjfllfancgmalaaGreatSc23
import Derived.Deep.LoopGhost
namespace Go.Proofs.YtjfllfancgmalaaGreat
open Go.RowKit

section
set_option maxRecDepth 20000
set_option maxHeartbeats 3200000
theorem runSearch8_any (c m at_ t b : Int) (v f : Value) (ll : List (List Int)) (F : List (Int × Int)) (w : World) (hr : ReadSS w v ll) (hl : ll.length ≤ 1048576) (ht : ∀ i, i < ll.length → (ll.getD i []).length ≤ 1048576) (hf : ReadD w f F) (hF : F.length ≤ 1048576) :
    Calls Tryz.prog 8 #[srcV c v m at_ f t, .int .i64 b] w (RetSW c m (rsA c ll m at_ F t b) (rsT c ll m at_ F t b) ll (rsF c ll m at_ F t b) w) := by
  have HF := Lib.hid (fun w' (hb : Below w.heap.size w w') => isSearch8_any c m at_ t v f ll F w' (hr.kept hb) hl ht (hf.kept hb) hF)
  have HCP := Lib.hid (fun w' (hb : Below w.heap.size w w') => l8Copy_any c m at_ t v f ll F w' (hr.kept hb) hl ht (hf.kept hb) hF)
  obtain ⟨a, cap, rfl, -⟩ := hr
  obtain ⟨af, capf, rfl, -⟩ := hf
  obtain ⟨hx, hy, hb⟩ := SBI.pair w (.int .i64 c) (.slice a ll.length cap) (.int .i64 m) (.int .i64 at_) (.slice af F.length capf) (.int .i64 t) (.int .i64 0) (.slice none 0 0) (.int .i64 0) (.int .i64 0) (.slice none 0 0) (.int .i64 0)
  have HX := Lib.hid hx
  have HY := Lib.hid hy
  have HB := Lib.hid hb
  obtain ⟨⟨c0, c1, c2, c3, c4, c5⟩, -⟩ := HX.out.cells
  have HZ : Hid (((w.alloc (.cells #[.int .i64 c, .slice a ll.length cap, .int .i64 m, .int .i64 at_, .slice af F.length capf, .int .i64 t] 29)).alloc (.cells #[.int .i64 0, .slice none 0 0, .int .i64 0, .int .i64 0, .slice none 0 0, .int .i64 0] 29)).heap.size = w.heap.size + 2) := Lib.hid (by simp)
  unfold srcV at HF HCP ⊢
  clear hx hy hb ht
  go_enter Tryz.func8, Tryz.ntmps8
  go_wp2_with fail
  refine (HCP.out _ HB.out).mono ?_
  rintro e w1 ⟨u, g, rfl, ou, og, b1⟩
  have HB1 := Lib.hid (HB.out.trans (b1.mono HB.out.size))
  have hX1 := HX.out.kept b1
  have hY1 := HY.out.kept b1
  obtain ⟨au, capu, rfl, -⟩ := ou.read
  obtain ⟨ag, capg, rfl⟩ := og.shape
  rw [HZ.out] at ou og
  have hp := (Below.refl w1.heap.size w1).alloc (Nat.le_refl _) (.cells #[.int .i64 c, .slice au ll.length capu, .int .i64 m, .int .i64 at_, .slice ag F.length capg, .int .i64 t] 29)
  have HNX := Lib.hid (SBI.new w1 (.int .i64 c) (.slice au ll.length capu) (.int .i64 m) (.int .i64 at_) (.slice ag F.length capg) (.int .i64 t))
  have HX2 := Lib.hid (hX1.kept hp)
  have HY2 := Lib.hid (hY1.kept hp)
  have HB2 := Lib.hid (HB1.out.trans (hp.mono HB1.out.size))
  have HOU := Lib.hid (ou.same (w' := w1.alloc (.cells #[.int .i64 c, .slice au ll.length capu, .int .i64 m, .int .i64 at_, .slice ag F.length capg, .int .i64 t] 29)) (Below.keeps hp (Nat.le_refl _)))
  have HOG := Lib.hid (og.below hp (fun q hq => (og.lt q hq).2))
  have HS1 : Hid (w.heap.size + 2 ≤ w1.heap.size) := Lib.hid (by have := b1.size; rw [HZ.out] at this; exact this)
  unfold srcV
  clear c0 c1 c2 c3 c4 c5 b1 hX1 hY1 ou og hp HX HY HB HB1 HCP HZ
  obtain ⟨⟨c0, c1, c2, c3, c4, c5⟩, -⟩ := HX2.out.cells
  go_wp2_with fail
  refine (HF.out _ HB2.out).mono ?_
  rintro e w2 ⟨rfl, b2⟩
  have HNX2 := Lib.hid (HNX.out.kept b2)
  have HX3 := Lib.hid (HX2.out.kept b2)
  have HY3 := Lib.hid (HY2.out.kept b2)
  have HB3 := Lib.hid (HB2.out.trans (b2.mono HB2.out.size))
  have HOU2 := Lib.hid (HOU.out.same (Below.keeps b2 (by simp)))
  have HOG2 := Lib.hid (HOG.out.below b2 (fun q hq => (HOG.out.lt q hq).2))
  have HS2 : Hid (w1.heap.size < w2.heap.size) := Lib.hid (by have := b2.size; rw [World.size_alloc] at this; exact this)
  clear c0 c1 c2 c3 c4 c5 b2 HNX HX2 HY2 HB2 HOU HOG
  obtain ⟨p, hp⟩ : ∃ p, p = w1.heap.size := ⟨_, rfl⟩
  rw [← hp] at HNX2 HOU2 HS1 HS2 ⊢
  clear hp
  cases hs : isSB c ll m at_ F t with
  | false =>
    have e1 : rsA c ll m at_ F t b = at_ := by unfold rsA; rw [hs]; rfl
    have e2 : rsT c ll m at_ F t b = t := by unfold rsT; rw [hs]; rfl
    have e3 : rsF c ll m at_ F t b = F := by unfold rsF; rw [hs]; rfl
    have HE := Lib.hid (And.intro e1 (And.intro e2 e3))
    have HFN := Lib.hid (sea_fin2 HOU2.out HOG2.out HB3.out (Nat.le_of_lt HS2.out) (.int .i64 c) (.slice au ll.length capu) (.int .i64 m) (.int .i64 at_) (.slice ag F.length capg) (.int .i64 t))
    obtain ⟨⟨d0, d1, d2, d3, d4, d5⟩, -⟩ := HNX2.out.cells
    obtain ⟨⟨r0, r1, r2, r3, r4, r5⟩, s0, s1, s2, s3, s4, s5⟩ := HY3.out.cells
    clear hs e1 e2 e3
    go_wp2_with fail
    exact bodyPost_ret (v := srcV c (.slice au ll.length capu) m at_ (.slice ag F.length capg) t) (by simp [srcV, results, Tryz.results8, go_sem, r0, r1, r2, r3, r4, r5]) rfl ⟨.slice au ll.length capu, .slice ag F.length capg, by rw [HE.out.1, HE.out.2.1], by rw [HE.out.2.2]; exact HFN.out⟩
  | true =>
    obtain ⟨C, K, n0, rfl, rfl, rfl, hC1, hC5, hK, hN160, hfi, hrep⟩ := isSB_all hs
    obtain ⟨k9, hk9⟩ : ∃ k9, k9 = rnK (C : Int) ll m (K : Int) (n0 : Int) b := ⟨_, rfl⟩
    obtain ⟨⟨F9, n9⟩, h9⟩ : ∃ z, repN C ll m k9 = z := ⟨_, rfl⟩
    have e1 : rsA (C : Int) ll m (K : Int) F (n0 : Int) b = (k9 : Int) := by unfold rsA; rw [hs, ← hk9]; rfl
    have e2 : rsT (C : Int) ll m (K : Int) F (n0 : Int) b = (n9 : Int) := by unfold rsT; rw [hs, ← hk9, show ((C : Int)).toNat = C from rfl, h9]; rfl
    have e3 : rsF (C : Int) ll m (K : Int) F (n0 : Int) b = F9 := by unfold rsF; rw [hs, ← hk9, show ((C : Int)).toNat = C from rfl, h9]; rfl
    have HE := Lib.hid (And.intro e1 (And.intro e2 e3))
    have HCM := Lib.hid (Cm.mk (w0 := w) (C := C) (m := m) (K := (K : Int)) (n0 := (n0 : Int)) (k := K) (p := p) HNX2.out HX3.out HY3.out HOU2.out HOG2.out HB3.out ⟨HS1.out, HS2.out⟩)
    have HT := Lib.hid (fineT_isT hfi)
    obtain ⟨N, hN⟩ : ∃ N, N = C * 2 ^ C := ⟨_, rfl⟩
    have HNN := Lib.hid hN
    have hg9 : goN C ll m (n0 : Int) (N : Int) b (N - K) K = k9 := by rw [hk9, hN]; rfl
    have HG9 := Lib.hid hg9
    have HGS := Lib.hid (fun k h1 h2 h3 => goN_step (C := C) (ll := ll) (m := m) (t0 := (n0 : Int)) (E := (N : Int)) (b := b) (N := N) (k := k) h1 h2 h3)
    have HGT := Lib.hid (fun f k h => goN_stop (C := C) (ll := ll) (m := m) (t0 := (n0 : Int)) (E := (N : Int)) (b := b) (f := f) (k := k) h)
    have HF9 := Lib.hid h9
    have HF0 := Lib.hid hrep
    have HLN := Lib.hid (repN_len C ll m)
    have HN : Hid (∀ w', Calls Tryz.prog 32 #[.int .i64 (C : Int)] w' fun e w'' => e = .returned (.int .i64 (N : Int)) ∧ Below w'.heap.size w' w'') := Lib.hid (fun w' => (count8_any C hC5 w').mono fun e w'' ⟨h1, h2⟩ => ⟨by rw [h1, hN], by rw [← h2]; exact Below.refl _ _⟩)
    rw [← hN] at hK hN160
    clear hs e1 e2 e3 hk9 h9 hrep hfi hg9 hN HNX2 HX3 HY3 HB3 HOU2 HOG2 HS1 HS2 HF
    go_wp2_with fail
    go_loopg [] (N - K) (fun n wr => ∃ (k t : Nat) (g : Value) (q : List (Int × Int)), n = N - k ∧ k ≤ N ∧ Hid (repN C ll m k = (q, t)) ∧ Hid (goN C ll m (n0 : Int) (N : Int) b (N - k) k = k9) ∧
      Hid (Cm w C m (.slice a ll.length cap) (.slice af F.length capf) (K : Int) (n0 : Int) (.slice au ll.length capu) ll p k g q (t : Int) wr))
    case atStart => exact ⟨K, n0, _, F, rfl, hK, HF0, HG9, HCM⟩
    case round =>
      clear HCM
      obtain ⟨k, t, g, q, rfl, hkN, HQ, HG, HCM⟩ := hrel
      obtain ⟨w3, hw3⟩ : ∃ w', w' = wr := ⟨_, rfl⟩
      rw [← hw3] at HCM ⊢
      clear hw3
      have hln := HLN.out k
      rw [HQ.out] at hln
      obtain ⟨hl1, hl2⟩ := hln
      simp only at hl1 hl2
      have hn0k : n0 ≤ 160 := by have := (HLN.out K).2; rw [HF0.out] at this; simp only at this; omega
      have hwr : IntKind.i64.wrap ((t : Int) - (n0 : Int)) = (t : Int) - (n0 : Int) := IntWalk.i64_in _ (by omega)
      obtain ⟨ag', capg', rfl⟩ := HCM.out.fnd.shape
      obtain ⟨⟨c0, c1, c2, c3, c4, c5⟩, -⟩ := HCM.out.nx.cells
      obtain ⟨⟨-, -, -, -, -, d5⟩, -⟩ := HCM.out.sb.cells
      by_cases hlt : (k : Int) < (N : Int)
      · have hltN : k < N := by omega
        by_cases hbu : (t : Int) - (n0 : Int) < b
        · have hkN' : k < N := by omega
          have HG2 := Lib.hid (HG.out.symm.trans (HGS.out k hkN' hlt (by rw [HQ.out]; exact hbu))).symm
          obtain ⟨⟨q', t'⟩, hq'⟩ : ∃ z, repN C ll m (k + 1) = z := ⟨_, rfl⟩
          have HQ' := Lib.hid hq'
          have HST := Lib.hid (fun (w' : World) h => l8Step_any C k t m q w (.slice a ll.length cap) (.slice af F.length capf) (K : Int) (n0 : Int) (.slice au ll.length capu) (.slice ag' q.length capg') ll p w' HT.out (by rw [← HNN.out]; exact hkN') HQ.out h q' t' hq')
          clear hq'
          go_wp2_with fail
          refine wp_region_noPanic ?_
          refine wp_region_held_drew (S := (fun w' => ((w'.cell? ⟨p, 3, none⟩ = some (.int .i64 (k : Int)) ∧ w'.cell? ⟨p, 0, none⟩ = some (.int .i64 (C : Int))) ∧ w'.cell? ⟨p, 5, none⟩ = some (.int .i64 (t : Int)) ∧ w'.cell? ⟨w.heap.size, 5, none⟩ = some (.int .i64 (n0 : Int))) ∧ Below w3.heap.size w3 w')) (by kernel_rfl) ?_ (fun hHeld => ?_)
          · ((try dsimp only); (first | exact ⟨⟨⟨cell_inB hHeld.1.1.1 b91, cell_inB hHeld.1.1.2 b91⟩, cell_inB hHeld.1.2.1 b91, cell_inB hHeld.1.2.2 b91⟩, hHeld.2.trans (b91.mono hHeld.2.size)⟩ | exact ⟨⟨⟨c3, c0⟩, c5, d5⟩, (Below.refl _ _).drew⟩))
          refine wpAnyH_take (i := 0) (v := ?_) rfl (by kernel_rfl) (by kernel_rfl) (by kernel_rfl) (fun _ _ _ h => h) (Or.inl ⟨by rfl, ?_⟩) (by assumption) ?_
          rotate_left
          · (intro w hSw; (try dsimp only at hSw); go_simp; (try with_reducible rfl))
          (try simp only [Act.put, List.getElem_toArray, List.getElem_cons_zero, List.setIfInBounds_toArray, List.set_cons_zero, List.set_cons_succ])
          refine wpAnyH_take (i := 1) (v := ?_) rfl (by kernel_rfl) (by kernel_rfl) (by kernel_rfl) (fun _ _ _ h => h) (Or.inl ⟨by rfl, ?_⟩) (by assumption) ?_
          rotate_left
          · (intro w hSw; (try dsimp only at hSw); go_simp; (try with_reducible rfl))
          (try simp only [Act.put, List.getElem_toArray, List.getElem_cons_succ, List.getElem_cons_zero, List.setIfInBounds_toArray, List.set_cons_zero, List.set_cons_succ])
          refine wpAnyH_take (i := 2) (v := ?_) rfl (by kernel_rfl) (by kernel_rfl) (by kernel_rfl) (fun _ _ _ h => h) (Or.inl ⟨by rfl, ?_⟩) (by assumption) ?_
          rotate_left
          · (intro w hSw; (try dsimp only at hSw); go_simp; (try with_reducible rfl))
          (try simp only [Act.put, List.getElem_toArray, List.getElem_cons_succ, List.getElem_cons_zero, List.setIfInBounds_toArray, List.set_cons_zero, List.set_cons_succ])
          refine wpAnyH_take (i := 3) (v := ?_) rfl (by kernel_rfl) (by kernel_rfl) (by kernel_rfl) (fun _ _ _ h => h) (Or.inl ⟨by rfl, ?_⟩) (by assumption) ?_
          rotate_left
          · (intro w hSw; (try dsimp only at hSw); go_simp; (try with_reducible rfl))
          (try simp only [Act.put, List.getElem_toArray, List.getElem_cons_succ, List.getElem_cons_zero, List.setIfInBounds_toArray, List.set_cons_zero, List.set_cons_succ])
          refine wpAnyH_take (i := 4) (v := ?_) rfl (by kernel_rfl) (by kernel_rfl) (by kernel_rfl) (fun _ _ _ h => h) (Or.inl ⟨by rfl, ?_⟩) (by assumption) ?_
          rotate_left
          · (intro w hSw; (try dsimp only at hSw); go_simp; (try with_reducible rfl))
          (try simp only [Act.put, List.getElem_toArray, List.getElem_cons_succ, List.getElem_cons_zero, List.setIfInBounds_toArray, List.set_cons_zero, List.set_cons_succ])
          refine wpAnyH_ready (rs := [5]) (by kernel_rfl) (by simp) (AllReadyH.cons rfl (fun K hK => ?_) AllReadyH.nil)
          (first | ((go_at_call 32; refine (HN.out _).mono ?_; rintro e w91 ⟨rfl, b91⟩)) | (go_simp; (go_at_call 32; refine (HN.out _).mono ?_; rintro e w91 ⟨rfl, b91⟩)))
          (try (go_wp2_with fail))
          refine hK.out _ _ ?_ (fun hHeld => ?_)
          · ((try dsimp only); (first | exact ⟨⟨⟨cell_inB hHeld.1.1.1 b91, cell_inB hHeld.1.1.2 b91⟩, cell_inB hHeld.1.2.1 b91, cell_inB hHeld.1.2.2 b91⟩, hHeld.2.trans (b91.mono hHeld.2.size)⟩ | exact ⟨⟨⟨c3, c0⟩, c5, d5⟩, (Below.refl _ _).drew⟩))
          clear hK K
          (try simp only [Act.put, List.getElem_toArray, List.getElem_cons_succ, List.getElem_cons_zero, List.setIfInBounds_toArray, List.set_cons_zero, List.set_cons_succ])
          refine wpAnyH_take (i := 6) (v := ?_) rfl (by kernel_rfl) (by kernel_rfl) (by kernel_rfl) (fun _ _ _ h => h) (Or.inl ⟨by rfl, ?_⟩) (by assumption) ?_
          rotate_left
          · (intro w hSw; (try dsimp only at hSw); go_simp; (try with_reducible rfl))
          (try simp only [Act.put, List.getElem_toArray, List.getElem_cons_succ, List.getElem_cons_zero, List.setIfInBounds_toArray, List.set_cons_zero, List.set_cons_succ])
          refine wpAnyH_take (i := 7) (v := ?_) rfl (by kernel_rfl) (by kernel_rfl) (by kernel_rfl) (fun _ _ _ h => h) (Or.inl ⟨by rfl, ?_⟩) (by assumption) ?_
          rotate_left
          · (intro w hSw; (try dsimp only at hSw); go_simp; (try with_reducible rfl))
          (try simp only [Act.put, List.getElem_toArray, List.getElem_cons_succ, List.getElem_cons_zero, List.setIfInBounds_toArray, List.set_cons_zero, List.set_cons_succ])
          refine wpAnyH_take (i := 8) (v := ?_) rfl (by kernel_rfl) (by kernel_rfl) (by kernel_rfl) (fun _ _ _ h => h) (Or.inl ⟨by rfl, ?_⟩) (by assumption) ?_
          rotate_left
          · (intro w hSw; (try dsimp only at hSw); go_simp; (try with_reducible rfl))
          (try simp only [Act.put, List.getElem_toArray, List.getElem_cons_succ, List.getElem_cons_zero, List.setIfInBounds_toArray, List.set_cons_zero, List.set_cons_succ])
          refine wpAnyH_take (i := 9) (v := ?_) rfl (by kernel_rfl) (by kernel_rfl) (by kernel_rfl) (fun _ _ _ h => h) (Or.inl ⟨by rfl, ?_⟩) (by assumption) ?_
          rotate_left
          · (intro w hSw; (try dsimp only at hSw); go_simp; (try with_reducible rfl))
          (try simp only [Act.put, List.getElem_toArray, List.getElem_cons_succ, List.getElem_cons_zero, List.setIfInBounds_toArray, List.set_cons_zero, List.set_cons_succ])
          refine wpAnyH_take (i := 10) (v := ?_) rfl (by kernel_rfl) (by kernel_rfl) (by kernel_rfl) (fun _ _ _ h => h) (Or.inl ⟨by rfl, ?_⟩) (by assumption) ?_
          rotate_left
          · (intro w hSw; (try dsimp only at hSw); go_simp; (try with_reducible rfl))
          (try simp only [Act.put, List.getElem_toArray, List.getElem_cons_succ, List.getElem_cons_zero, List.setIfInBounds_toArray, List.set_cons_zero, List.set_cons_succ])
          refine wpAnyH_take (i := 11) (v := ?_) rfl (by kernel_rfl) (by kernel_rfl) (by kernel_rfl) (fun _ _ _ h => h) (Or.inl ⟨by rfl, ?_⟩) (by assumption) ?_
          rotate_left
          · (intro w hSw; (try dsimp only at hSw); go_simp; (try with_reducible rfl))
          (try simp only [Act.put, List.getElem_toArray, List.getElem_cons_succ, List.getElem_cons_zero, List.setIfInBounds_toArray, List.set_cons_zero, List.set_cons_succ])
          refine wpAnyH_take (i := 12) (v := ?_) rfl (by kernel_rfl) (by kernel_rfl) (by kernel_rfl) (fun _ _ _ h => h) (Or.inl ⟨by rfl, ?_⟩) (by assumption) ?_
          rotate_left
          · (intro w hSw; (try dsimp only at hSw); go_simp; (try with_reducible rfl))
          (try simp only [Act.put, List.getElem_toArray, List.getElem_cons_succ, List.getElem_cons_zero, List.setIfInBounds_toArray, List.set_cons_zero, List.set_cons_succ])
          refine wpAnyH_take (i := 13) (v := ?_) rfl (by kernel_rfl) (by kernel_rfl) (by kernel_rfl) (fun _ _ _ h => h) (Or.inl ⟨by rfl, ?_⟩) (by assumption) ?_
          rotate_left
          · (intro w hSw; (try dsimp only at hSw); go_simp; (try with_reducible rfl))
          (try simp only [Act.put, List.getElem_toArray, List.getElem_cons_succ, List.getElem_cons_zero, List.setIfInBounds_toArray, List.set_cons_zero, List.set_cons_succ])
          refine wpAnyH_take (i := 14) (v := ?_) rfl (by kernel_rfl) (by kernel_rfl) (by kernel_rfl) (fun _ _ _ h => h) (Or.inl ⟨by rfl, ?_⟩) (by assumption) ?_
          rotate_left
          · (intro w hSw; (try dsimp only at hSw); go_simp; (try with_reducible rfl))
          (try simp only [Act.put, List.getElem_toArray, List.getElem_cons_succ, List.getElem_cons_zero, List.setIfInBounds_toArray, List.set_cons_zero, List.set_cons_succ])
          refine wpAnyH_take (i := 15) (v := ?_) rfl (by kernel_rfl) (by kernel_rfl) (by kernel_rfl) (fun _ _ _ h => h) (Or.inl ⟨by rfl, ?_⟩) (by assumption) ?_
          rotate_left
          · (intro w hSw; (try dsimp only at hSw); go_simp; (try with_reducible rfl))
          (try simp only [Act.put, List.getElem_toArray, List.getElem_cons_succ, List.getElem_cons_zero, List.setIfInBounds_toArray, List.set_cons_zero, List.set_cons_succ])
          refine wpAnyH_done (by kernel_rfl) ?_ _
          refine NoPanic.normal ?_
          have HC9 := Lib.hid (HCM.out.below hHeld.2)
          clear c0 c1 c2 c3 c4 c5 d5 hHeld b91
          go_wp2_with fail
          refine (HST.out _ HC9.out).mono ?_
          rintro e w4 ⟨rfl, g', hc4⟩
          have HC4 := Lib.hid hc4
          clear hc4
          go_wp2_with fail
          go_roundg (N - (k + 1))
          case measure => omega
          case rel => exact ⟨k + 1, t', g', q', rfl, by omega, HQ', HG2, HC4⟩
        · have HEQ := Lib.hid (HG.out.symm.trans (HGT.out (N - k) k (fun h => hbu (by have := h.2; rw [HQ.out] at this; exact this))))
          go_wp2_with fail
          refine wp_region_noPanic ?_
          refine wp_region_held_drew (S := (fun w' => ((w'.cell? ⟨p, 3, none⟩ = some (.int .i64 (k : Int)) ∧ w'.cell? ⟨p, 0, none⟩ = some (.int .i64 (C : Int))) ∧ w'.cell? ⟨p, 5, none⟩ = some (.int .i64 (t : Int)) ∧ w'.cell? ⟨w.heap.size, 5, none⟩ = some (.int .i64 (n0 : Int))) ∧ Below w3.heap.size w3 w')) (by kernel_rfl) ?_ (fun hHeld => ?_)
          · ((try dsimp only); (first | exact ⟨⟨⟨cell_inB hHeld.1.1.1 b91, cell_inB hHeld.1.1.2 b91⟩, cell_inB hHeld.1.2.1 b91, cell_inB hHeld.1.2.2 b91⟩, hHeld.2.trans (b91.mono hHeld.2.size)⟩ | exact ⟨⟨⟨c3, c0⟩, c5, d5⟩, (Below.refl _ _).drew⟩))
          refine wpAnyH_take (i := 0) (v := ?_) rfl (by kernel_rfl) (by kernel_rfl) (by kernel_rfl) (fun _ _ _ h => h) (Or.inl ⟨by rfl, ?_⟩) (by assumption) ?_
          rotate_left
          · (intro w hSw; (try dsimp only at hSw); go_simp; (try with_reducible rfl))
          (try simp only [Act.put, List.getElem_toArray, List.getElem_cons_zero, List.setIfInBounds_toArray, List.set_cons_zero, List.set_cons_succ])
          refine wpAnyH_take (i := 1) (v := ?_) rfl (by kernel_rfl) (by kernel_rfl) (by kernel_rfl) (fun _ _ _ h => h) (Or.inl ⟨by rfl, ?_⟩) (by assumption) ?_
          rotate_left
          · (intro w hSw; (try dsimp only at hSw); go_simp; (try with_reducible rfl))
          (try simp only [Act.put, List.getElem_toArray, List.getElem_cons_succ, List.getElem_cons_zero, List.setIfInBounds_toArray, List.set_cons_zero, List.set_cons_succ])
          refine wpAnyH_take (i := 2) (v := ?_) rfl (by kernel_rfl) (by kernel_rfl) (by kernel_rfl) (fun _ _ _ h => h) (Or.inl ⟨by rfl, ?_⟩) (by assumption) ?_
          rotate_left
          · (intro w hSw; (try dsimp only at hSw); go_simp; (try with_reducible rfl))
          (try simp only [Act.put, List.getElem_toArray, List.getElem_cons_succ, List.getElem_cons_zero, List.setIfInBounds_toArray, List.set_cons_zero, List.set_cons_succ])
          refine wpAnyH_take (i := 3) (v := ?_) rfl (by kernel_rfl) (by kernel_rfl) (by kernel_rfl) (fun _ _ _ h => h) (Or.inl ⟨by rfl, ?_⟩) (by assumption) ?_
          rotate_left
          · (intro w hSw; (try dsimp only at hSw); go_simp; (try with_reducible rfl))
          (try simp only [Act.put, List.getElem_toArray, List.getElem_cons_succ, List.getElem_cons_zero, List.setIfInBounds_toArray, List.set_cons_zero, List.set_cons_succ])
          refine wpAnyH_take (i := 4) (v := ?_) rfl (by kernel_rfl) (by kernel_rfl) (by kernel_rfl) (fun _ _ _ h => h) (Or.inl ⟨by rfl, ?_⟩) (by assumption) ?_
          rotate_left
          · (intro w hSw; (try dsimp only at hSw); go_simp; (try with_reducible rfl))
          (try simp only [Act.put, List.getElem_toArray, List.getElem_cons_succ, List.getElem_cons_zero, List.setIfInBounds_toArray, List.set_cons_zero, List.set_cons_succ])
          refine wpAnyH_ready (rs := [5]) (by kernel_rfl) (by simp) (AllReadyH.cons rfl (fun K hK => ?_) AllReadyH.nil)
          (first | ((go_at_call 32; refine (HN.out _).mono ?_; rintro e w91 ⟨rfl, b91⟩)) | (go_simp; (go_at_call 32; refine (HN.out _).mono ?_; rintro e w91 ⟨rfl, b91⟩)))
          (try (go_wp2_with fail))
          refine hK.out _ _ ?_ (fun hHeld => ?_)
          · ((try dsimp only); (first | exact ⟨⟨⟨cell_inB hHeld.1.1.1 b91, cell_inB hHeld.1.1.2 b91⟩, cell_inB hHeld.1.2.1 b91, cell_inB hHeld.1.2.2 b91⟩, hHeld.2.trans (b91.mono hHeld.2.size)⟩ | exact ⟨⟨⟨c3, c0⟩, c5, d5⟩, (Below.refl _ _).drew⟩))
          clear hK K
          (try simp only [Act.put, List.getElem_toArray, List.getElem_cons_succ, List.getElem_cons_zero, List.setIfInBounds_toArray, List.set_cons_zero, List.set_cons_succ])
          refine wpAnyH_take (i := 6) (v := ?_) rfl (by kernel_rfl) (by kernel_rfl) (by kernel_rfl) (fun _ _ _ h => h) (Or.inl ⟨by rfl, ?_⟩) (by assumption) ?_
          rotate_left
          · (intro w hSw; (try dsimp only at hSw); go_simp; (try with_reducible rfl))
          (try simp only [Act.put, List.getElem_toArray, List.getElem_cons_succ, List.getElem_cons_zero, List.setIfInBounds_toArray, List.set_cons_zero, List.set_cons_succ])
          refine wpAnyH_take (i := 7) (v := ?_) rfl (by kernel_rfl) (by kernel_rfl) (by kernel_rfl) (fun _ _ _ h => h) (Or.inl ⟨by rfl, ?_⟩) (by assumption) ?_
          rotate_left
          · (intro w hSw; (try dsimp only at hSw); go_simp; (try with_reducible rfl))
          (try simp only [Act.put, List.getElem_toArray, List.getElem_cons_succ, List.getElem_cons_zero, List.setIfInBounds_toArray, List.set_cons_zero, List.set_cons_succ])
          refine wpAnyH_take (i := 8) (v := ?_) rfl (by kernel_rfl) (by kernel_rfl) (by kernel_rfl) (fun _ _ _ h => h) (Or.inl ⟨by rfl, ?_⟩) (by assumption) ?_
          rotate_left
          · (intro w hSw; (try dsimp only at hSw); go_simp; (try with_reducible rfl))
          (try simp only [Act.put, List.getElem_toArray, List.getElem_cons_succ, List.getElem_cons_zero, List.setIfInBounds_toArray, List.set_cons_zero, List.set_cons_succ])
          refine wpAnyH_take (i := 9) (v := ?_) rfl (by kernel_rfl) (by kernel_rfl) (by kernel_rfl) (fun _ _ _ h => h) (Or.inl ⟨by rfl, ?_⟩) (by assumption) ?_
          rotate_left
          · (intro w hSw; (try dsimp only at hSw); go_simp; (try with_reducible rfl))
          (try simp only [Act.put, List.getElem_toArray, List.getElem_cons_succ, List.getElem_cons_zero, List.setIfInBounds_toArray, List.set_cons_zero, List.set_cons_succ])
          refine wpAnyH_take (i := 10) (v := ?_) rfl (by kernel_rfl) (by kernel_rfl) (by kernel_rfl) (fun _ _ _ h => h) (Or.inl ⟨by rfl, ?_⟩) (by assumption) ?_
          rotate_left
          · (intro w hSw; (try dsimp only at hSw); go_simp; (try with_reducible rfl))
          (try simp only [Act.put, List.getElem_toArray, List.getElem_cons_succ, List.getElem_cons_zero, List.setIfInBounds_toArray, List.set_cons_zero, List.set_cons_succ])
          refine wpAnyH_take (i := 11) (v := ?_) rfl (by kernel_rfl) (by kernel_rfl) (by kernel_rfl) (fun _ _ _ h => h) (Or.inl ⟨by rfl, ?_⟩) (by assumption) ?_
          rotate_left
          · (intro w hSw; (try dsimp only at hSw); go_simp; (try with_reducible rfl))
          (try simp only [Act.put, List.getElem_toArray, List.getElem_cons_succ, List.getElem_cons_zero, List.setIfInBounds_toArray, List.set_cons_zero, List.set_cons_succ])
          refine wpAnyH_take (i := 12) (v := ?_) rfl (by kernel_rfl) (by kernel_rfl) (by kernel_rfl) (fun _ _ _ h => h) (Or.inl ⟨by rfl, ?_⟩) (by assumption) ?_
          rotate_left
          · (intro w hSw; (try dsimp only at hSw); go_simp; (try with_reducible rfl))
          (try simp only [Act.put, List.getElem_toArray, List.getElem_cons_succ, List.getElem_cons_zero, List.setIfInBounds_toArray, List.set_cons_zero, List.set_cons_succ])
          refine wpAnyH_take (i := 13) (v := ?_) rfl (by kernel_rfl) (by kernel_rfl) (by kernel_rfl) (fun _ _ _ h => h) (Or.inl ⟨by rfl, ?_⟩) (by assumption) ?_
          rotate_left
          · (intro w hSw; (try dsimp only at hSw); go_simp; (try with_reducible rfl))
          (try simp only [Act.put, List.getElem_toArray, List.getElem_cons_succ, List.getElem_cons_zero, List.setIfInBounds_toArray, List.set_cons_zero, List.set_cons_succ])
          refine wpAnyH_take (i := 14) (v := ?_) rfl (by kernel_rfl) (by kernel_rfl) (by kernel_rfl) (fun _ _ _ h => h) (Or.inl ⟨by rfl, ?_⟩) (by assumption) ?_
          rotate_left
          · (intro w hSw; (try dsimp only at hSw); go_simp; (try with_reducible rfl))
          (try simp only [Act.put, List.getElem_toArray, List.getElem_cons_succ, List.getElem_cons_zero, List.setIfInBounds_toArray, List.set_cons_zero, List.set_cons_succ])
          refine wpAnyH_take (i := 15) (v := ?_) rfl (by kernel_rfl) (by kernel_rfl) (by kernel_rfl) (fun _ _ _ h => h) (Or.inl ⟨by rfl, ?_⟩) (by assumption) ?_
          rotate_left
          · (intro w hSw; (try dsimp only at hSw); go_simp; (try with_reducible rfl))
          (try simp only [Act.put, List.getElem_toArray, List.getElem_cons_succ, List.getElem_cons_zero, List.setIfInBounds_toArray, List.set_cons_zero, List.set_cons_succ])
          refine wpAnyH_done (by kernel_rfl) ?_ _
          refine NoPanic.normal ?_
          have HC9 := Lib.hid (HCM.out.below hHeld.2)
          obtain ⟨⟨c0', c1', c2', c3', c4', c5'⟩, -⟩ := HC9.out.nx.cells
          obtain ⟨⟨r0, r1, r2, r3, r4, r5⟩, s0, s1, s2, s3, s4, s5⟩ := HC9.out.rb.cells
          clear c0 c1 c2 c3 c4 c5 d5 hHeld
          go_wp2_with fail
          have hk9 := HEQ.out
          subst hk9
          have hqt := HQ.out.symm.trans HF9.out
          simp only [Prod.mk.injEq] at hqt
          obtain ⟨rfl, rfl⟩ := hqt
          exact bodyPost_ret (v := srcV (C : Int) (.slice au ll.length capu) m (k9 : Int) (.slice ag' q.length capg') (t : Int)) (by simp [srcV, results, Tryz.results8, go_sem, r0, r1, r2, r3, r4, r5]) rfl ⟨.slice au ll.length capu, .slice ag' q.length capg', by rw [HE.out.1, HE.out.2.1], by rw [HE.out.2.2]; exact HC9.out.fin _ _ _ _ _ _⟩
      · have hltN : ¬ k < N := by omega
        have HEQ := Lib.hid (HG.out.symm.trans (HGT.out (N - k) k (fun h => hlt h.1)))
        go_wp2_with fail
        refine wp_region_noPanic ?_
        refine wp_region_held_drew (S := (fun w' => ((w'.cell? ⟨p, 3, none⟩ = some (.int .i64 (k : Int)) ∧ w'.cell? ⟨p, 0, none⟩ = some (.int .i64 (C : Int))) ∧ w'.cell? ⟨p, 5, none⟩ = some (.int .i64 (t : Int)) ∧ w'.cell? ⟨w.heap.size, 5, none⟩ = some (.int .i64 (n0 : Int))) ∧ Below w3.heap.size w3 w')) (by kernel_rfl) ?_ (fun hHeld => ?_)
        · ((try dsimp only); (first | exact ⟨⟨⟨cell_inB hHeld.1.1.1 b91, cell_inB hHeld.1.1.2 b91⟩, cell_inB hHeld.1.2.1 b91, cell_inB hHeld.1.2.2 b91⟩, hHeld.2.trans (b91.mono hHeld.2.size)⟩ | exact ⟨⟨⟨c3, c0⟩, c5, d5⟩, (Below.refl _ _).drew⟩))
        refine wpAnyH_take (i := 0) (v := ?_) rfl (by kernel_rfl) (by kernel_rfl) (by kernel_rfl) (fun _ _ _ h => h) (Or.inl ⟨by rfl, ?_⟩) (by assumption) ?_
        rotate_left
        · (intro w hSw; (try dsimp only at hSw); go_simp; (try with_reducible rfl))
        (try simp only [Act.put, List.getElem_toArray, List.getElem_cons_zero, List.setIfInBounds_toArray, List.set_cons_zero, List.set_cons_succ])
        refine wpAnyH_take (i := 1) (v := ?_) rfl (by kernel_rfl) (by kernel_rfl) (by kernel_rfl) (fun _ _ _ h => h) (Or.inl ⟨by rfl, ?_⟩) (by assumption) ?_
        rotate_left
        · (intro w hSw; (try dsimp only at hSw); go_simp; (try with_reducible rfl))
        (try simp only [Act.put, List.getElem_toArray, List.getElem_cons_succ, List.getElem_cons_zero, List.setIfInBounds_toArray, List.set_cons_zero, List.set_cons_succ])
        refine wpAnyH_take (i := 2) (v := ?_) rfl (by kernel_rfl) (by kernel_rfl) (by kernel_rfl) (fun _ _ _ h => h) (Or.inl ⟨by rfl, ?_⟩) (by assumption) ?_
        rotate_left
        · (intro w hSw; (try dsimp only at hSw); go_simp; (try with_reducible rfl))
        (try simp only [Act.put, List.getElem_toArray, List.getElem_cons_succ, List.getElem_cons_zero, List.setIfInBounds_toArray, List.set_cons_zero, List.set_cons_succ])
        refine wpAnyH_take (i := 3) (v := ?_) rfl (by kernel_rfl) (by kernel_rfl) (by kernel_rfl) (fun _ _ _ h => h) (Or.inl ⟨by rfl, ?_⟩) (by assumption) ?_
        rotate_left
        · (intro w hSw; (try dsimp only at hSw); go_simp; (try with_reducible rfl))
        (try simp only [Act.put, List.getElem_toArray, List.getElem_cons_succ, List.getElem_cons_zero, List.setIfInBounds_toArray, List.set_cons_zero, List.set_cons_succ])
        refine wpAnyH_take (i := 4) (v := ?_) rfl (by kernel_rfl) (by kernel_rfl) (by kernel_rfl) (fun _ _ _ h => h) (Or.inl ⟨by rfl, ?_⟩) (by assumption) ?_
        rotate_left
        · (intro w hSw; (try dsimp only at hSw); go_simp; (try with_reducible rfl))
        (try simp only [Act.put, List.getElem_toArray, List.getElem_cons_succ, List.getElem_cons_zero, List.setIfInBounds_toArray, List.set_cons_zero, List.set_cons_succ])
        refine wpAnyH_ready (rs := [5]) (by kernel_rfl) (by simp) (AllReadyH.cons rfl (fun K hK => ?_) AllReadyH.nil)
        (first | ((go_at_call 32; refine (HN.out _).mono ?_; rintro e w91 ⟨rfl, b91⟩)) | (go_simp; (go_at_call 32; refine (HN.out _).mono ?_; rintro e w91 ⟨rfl, b91⟩)))
        (try (go_wp2_with fail))
        refine hK.out _ _ ?_ (fun hHeld => ?_)
        · ((try dsimp only); (first | exact ⟨⟨⟨cell_inB hHeld.1.1.1 b91, cell_inB hHeld.1.1.2 b91⟩, cell_inB hHeld.1.2.1 b91, cell_inB hHeld.1.2.2 b91⟩, hHeld.2.trans (b91.mono hHeld.2.size)⟩ | exact ⟨⟨⟨c3, c0⟩, c5, d5⟩, (Below.refl _ _).drew⟩))
        clear hK K
        (try simp only [Act.put, List.getElem_toArray, List.getElem_cons_succ, List.getElem_cons_zero, List.setIfInBounds_toArray, List.set_cons_zero, List.set_cons_succ])
        refine wpAnyH_take (i := 6) (v := ?_) rfl (by kernel_rfl) (by kernel_rfl) (by kernel_rfl) (fun _ _ _ h => h) (Or.inl ⟨by rfl, ?_⟩) (by assumption) ?_
        rotate_left
        · (intro w hSw; (try dsimp only at hSw); go_simp; (try with_reducible rfl))
        (try simp only [Act.put, List.getElem_toArray, List.getElem_cons_succ, List.getElem_cons_zero, List.setIfInBounds_toArray, List.set_cons_zero, List.set_cons_succ])
        refine wpAnyH_take (i := 7) (v := ?_) rfl (by kernel_rfl) (by kernel_rfl) (by kernel_rfl) (fun _ _ _ h => h) (Or.inl ⟨by rfl, ?_⟩) (by assumption) ?_
        rotate_left
        · (intro w hSw; (try dsimp only at hSw); go_simp; (try with_reducible rfl))
        (try simp only [Act.put, List.getElem_toArray, List.getElem_cons_succ, List.getElem_cons_zero, List.setIfInBounds_toArray, List.set_cons_zero, List.set_cons_succ])
        refine wpAnyH_take (i := 8) (v := undef) rfl (by kernel_rfl) (by kernel_rfl) (by kernel_rfl) (fun _ _ _ h => h) (Or.inr ⟨by rfl, rfl⟩) (by assumption) ?_
        (try simp only [Act.put, List.getElem_toArray, List.getElem_cons_succ, List.getElem_cons_zero, List.setIfInBounds_toArray, List.set_cons_zero, List.set_cons_succ])
        refine wpAnyH_take (i := 9) (v := undef) rfl (by kernel_rfl) (by kernel_rfl) (by kernel_rfl) (fun _ _ _ h => h) (Or.inr ⟨by rfl, rfl⟩) (by assumption) ?_
        (try simp only [Act.put, List.getElem_toArray, List.getElem_cons_succ, List.getElem_cons_zero, List.setIfInBounds_toArray, List.set_cons_zero, List.set_cons_succ])
        refine wpAnyH_take (i := 10) (v := undef) rfl (by kernel_rfl) (by kernel_rfl) (by kernel_rfl) (fun _ _ _ h => h) (Or.inr ⟨by rfl, rfl⟩) (by assumption) ?_
        (try simp only [Act.put, List.getElem_toArray, List.getElem_cons_succ, List.getElem_cons_zero, List.setIfInBounds_toArray, List.set_cons_zero, List.set_cons_succ])
        refine wpAnyH_take (i := 11) (v := undef) rfl (by kernel_rfl) (by kernel_rfl) (by kernel_rfl) (fun _ _ _ h => h) (Or.inr ⟨by rfl, rfl⟩) (by assumption) ?_
        (try simp only [Act.put, List.getElem_toArray, List.getElem_cons_succ, List.getElem_cons_zero, List.setIfInBounds_toArray, List.set_cons_zero, List.set_cons_succ])
        refine wpAnyH_take (i := 12) (v := undef) rfl (by kernel_rfl) (by kernel_rfl) (by kernel_rfl) (fun _ _ _ h => h) (Or.inr ⟨by rfl, rfl⟩) (by assumption) ?_
        (try simp only [Act.put, List.getElem_toArray, List.getElem_cons_succ, List.getElem_cons_zero, List.setIfInBounds_toArray, List.set_cons_zero, List.set_cons_succ])
        refine wpAnyH_take (i := 13) (v := undef) rfl (by kernel_rfl) (by kernel_rfl) (by kernel_rfl) (fun _ _ _ h => h) (Or.inr ⟨by rfl, rfl⟩) (by assumption) ?_
        (try simp only [Act.put, List.getElem_toArray, List.getElem_cons_succ, List.getElem_cons_zero, List.setIfInBounds_toArray, List.set_cons_zero, List.set_cons_succ])
        refine wpAnyH_take (i := 14) (v := undef) rfl (by kernel_rfl) (by kernel_rfl) (by kernel_rfl) (fun _ _ _ h => h) (Or.inr ⟨by rfl, rfl⟩) (by assumption) ?_
        (try simp only [Act.put, List.getElem_toArray, List.getElem_cons_succ, List.getElem_cons_zero, List.setIfInBounds_toArray, List.set_cons_zero, List.set_cons_succ])
        refine wpAnyH_take (i := 15) (v := ?_) rfl (by kernel_rfl) (by kernel_rfl) (by kernel_rfl) (fun _ _ _ h => h) (Or.inl ⟨by rfl, ?_⟩) (by assumption) ?_
        rotate_left
        · (intro w hSw; (try dsimp only at hSw); go_simp; (try with_reducible rfl))
        (try simp only [Act.put, List.getElem_toArray, List.getElem_cons_succ, List.getElem_cons_zero, List.setIfInBounds_toArray, List.set_cons_zero, List.set_cons_succ])
        refine wpAnyH_done (by kernel_rfl) ?_ _
        refine NoPanic.normal ?_
        have HC9 := Lib.hid (HCM.out.below hHeld.2)
        obtain ⟨⟨c0', c1', c2', c3', c4', c5'⟩, -⟩ := HC9.out.nx.cells
        obtain ⟨⟨r0, r1, r2, r3, r4, r5⟩, s0, s1, s2, s3, s4, s5⟩ := HC9.out.rb.cells
        clear c0 c1 c2 c3 c4 c5 d5 hHeld
        go_wp2_with fail
        have hk9 := HEQ.out
        subst hk9
        have hqt := HQ.out.symm.trans HF9.out
        simp only [Prod.mk.injEq] at hqt
        obtain ⟨rfl, rfl⟩ := hqt
        exact bodyPost_ret (v := srcV (C : Int) (.slice au ll.length capu) m (k9 : Int) (.slice ag' q.length capg') (t : Int)) (by simp [srcV, results, Tryz.results8, go_sem, r0, r1, r2, r3, r4, r5]) rfl ⟨.slice au ll.length capu, .slice ag' q.length capg', by rw [HE.out.1, HE.out.2.1], by rw [HE.out.2.2]; exact HC9.out.fin _ _ _ _ _ _⟩
end
end Go.Proofs.YtjfllfancgmalaaGreat
