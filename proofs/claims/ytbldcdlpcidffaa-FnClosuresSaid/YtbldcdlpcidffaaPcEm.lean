/- The program's allows and CheckDerivation, by contract. Conditions: as stated. -/
import Derived.Test.YtbldcdlpcidffaaPcCm
import Derived.Test.YtbldcdlpcidffaaClFm
namespace Go.Proofs.Ytbldcdlpcidffaa
open Go.RowKit

section
set_option maxRecDepth 20000
set_option maxHeartbeats 6400000
theorem allows10_any (C : Nat) (hC : C ≤ 5) (v : Value) (l : List (Int × Int)) (hd : DepsN C l) (X : Nat) (hX : X < 32) (t0 t1 t2 : Int) (w : World) (hr : ReadD w v l) (_hl : l.length ≤ 1048576) :
    Calls Try.prog 34 #[v, .agg #[.int .i64 t0, .int .i64 t1, .int .i64 t2], .int .i64 (X : Int)] w fun e w' => e = .returned (.bool (chkAt l X (t0, t1, t2))) ∧ Below w.heap.size w w' := by
  have hb1 := (Below.refl w.heap.size w).alloc (Nat.le_refl _) (.cells #[.int .i64 t0, .int .i64 t1, .int .i64 t2] 60)
  have HB1 := Lib.hid hb1
  obtain ⟨s0, s1, s2⟩ := zero3 w 60 (.int .i64 t0) (.int .i64 t1) (.int .i64 t2)
  have hrA := hr.kept hb1
  obtain ⟨a, cap, rfl, -⟩ := hr
  clear hb1
  have HE : Hid (chkAt l X (t0, t1, t2) = (decide (0 ≤ t0 ∧ t0 < (l.length : Int)) && (t1 == (X : Int)) && subN (l.getD t0.toNat (0, 0)).1.toNat X && (t2 == (orN X (l.getD t0.toNat (0, 0)).2.toNat : Int)))) := Lib.hid rfl
  obtain ⟨r, hr'⟩ : ∃ r, r = chkAt l X (t0, t1, t2) := ⟨_, rfl⟩
  rw [← hr'] at HE ⊢
  clear hr'
  by_cases h0 : 0 ≤ t0
  · by_cases h1 : t0 < (l.length : Int)
    · by_cases h2 : t1 = (X : Int)
      · subst h2
        obtain ⟨F, rfl⟩ : ∃ F : Nat, t0 = (F : Int) := ⟨t0.toNat, by omega⟩
        have hF : F < l.length := by omega
        obtain ⟨b, o, hab, h3, h4⟩ := readD_cells hrA hF
        obtain ⟨Ld, Rd, e, hLd, hRd⟩ := hd _ (memD hF)
        rw [e] at h3 h4
        simp only at h3 h4
        subst hab
        have h32 := two5 hC
        have HAP := Lib.hid (fun w' => applies10_any Ld X (Rd : Int) (by omega) hX w')
        have HAD := Lib.hid (fun w' => added10_any X Rd (Ld : Int) hX (by omega) w')
        replace HE : Hid (r = (subN Ld X && (t2 == (orN X Rd : Int)))) := Lib.hid (by
          rw [HE.out, decide_eq_true ⟨h0, h1⟩, show ((F : Int)).toNat = F from rfl, e]
          simp)
        have hba := (Below.refl (w.alloc (.cells #[.int .i64 (F : Int), .int .i64 (X : Int), .int .i64 t2] 60)).heap.size _).alloc (Nat.le_refl _) (.cells #[.int .i64 (Ld : Int), .int .i64 (Rd : Int)] 26)
        have HB2 := Lib.hid (HB1.out.trans (hba.mono HB1.out.size))
        have hd0 := zero2 (w.alloc (.cells #[.int .i64 (F : Int), .int .i64 (X : Int), .int .i64 t2] 60)) 26 (.int .i64 (Ld : Int)) (.int .i64 (Rd : Int))
        rw [World.size_alloc] at hd0
        obtain ⟨d0, d1⟩ := hd0
        have HS := Lib.hid (And.intro s0 s1)
        have k0 := keep_in s2 hba
        clear hba e hrA hd hLd hRd
        cases hs : subN Ld X with
        | false =>
          rw [hs, Bool.false_and] at HE
          have s2' := k0
          rw [hs] at HAP
          clear hs
          go_enter Try.func34, Try.ntmps34
          go_upto_region 4 with fail
          obtain ⟨W2, hW⟩ : ∃ W2, W2 = ((w.alloc (.cells #[.int .i64 (F : Int), .int .i64 (X : Int), .int .i64 t2] 60)).alloc (.cells #[.int .i64 (Ld : Int), .int .i64 (Rd : Int)] 26)) := ⟨_, rfl⟩
          rw [← hW] at d0 d1 s2' HB2 ⊢
          clear hW
          refine wp_region_noPanic ?_
          refine wp_region_held_drew (S := (fun w' => ((w'.cell? ⟨w.heap.size + 1, 0, none⟩ = some (.int .i64 (Ld : Int)) ∧ w'.cell? ⟨w.heap.size + 1, 1, none⟩ = some (.int .i64 (Rd : Int))) ∧ w'.cell? ⟨w.heap.size, 2, none⟩ = some (.int .i64 t2)) ∧ Below W2.heap.size W2 w')) (by kernel_rfl) ?_ (fun hHeld => ?_)
          · ((try dsimp only); exact ⟨⟨⟨d0, d1⟩, s2'⟩, (Below.refl _ _).drew⟩)
          refine wpAnyH_take (i := 0) (v := ?_) rfl (by kernel_rfl) (by kernel_rfl) (by kernel_rfl) (fun _ _ _ h => h) (Or.inl ⟨by rfl, ?_⟩) (by assumption) ?_
          rotate_left
          · (intro w hSw; (try dsimp only at hSw); go_simp; (try with_reducible rfl))
          (try simp only [Act.put, List.getElem_toArray, List.getElem_cons_zero, List.setIfInBounds_toArray, List.set_cons_zero, List.set_cons_succ])
          refine wpAnyH_take (i := 1) (v := ?_) rfl (by kernel_rfl) (by kernel_rfl) (by kernel_rfl) (fun _ _ _ h => h) (Or.inl ⟨by rfl, ?_⟩) (by assumption) ?_
          rotate_left
          · (intro w hSw; (try dsimp only at hSw); go_simp; (try with_reducible rfl))
          (try simp only [Act.put, List.getElem_toArray, List.getElem_cons_succ, List.getElem_cons_zero, List.setIfInBounds_toArray, List.set_cons_zero, List.set_cons_succ])
          refine wpAnyH_ready (rs := [2]) (by kernel_rfl) (by simp) (AllReadyH.cons rfl (fun K hK => ?_) AllReadyH.nil)
          (first | (go_at_call 52; refine (HAP.out _).mono ?_; rintro e w91 ⟨rfl, b91⟩) | (go_simp; go_at_call 52; refine (HAP.out _).mono ?_; rintro e w91 ⟨rfl, b91⟩))
          (try (go_wp2_with fail))
          refine hK.out _ _ ?_ (fun hHeld => ?_)
          · ((try dsimp only); exact ⟨⟨⟨keep_in hHeld.1.1.1 b91, keep_in hHeld.1.1.2 b91⟩, keep_in hHeld.1.2 b91⟩, hHeld.2.trans (b91.mono hHeld.2.size)⟩)
          clear hK K
          (try simp only [Act.put, List.getElem_toArray, List.getElem_cons_succ, List.getElem_cons_zero, List.setIfInBounds_toArray, List.set_cons_zero, List.set_cons_succ])
          refine wpAnyH_take (i := 3) (v := ?_) rfl (by kernel_rfl) (by kernel_rfl) (by kernel_rfl) (fun _ _ _ h => h) (Or.inl ⟨by rfl, ?_⟩) (by assumption) ?_
          rotate_left
          · (intro w hSw; (try dsimp only at hSw); go_simp; (try with_reducible rfl))
          (try simp only [Act.put, List.getElem_toArray, List.getElem_cons_succ, List.getElem_cons_zero, List.setIfInBounds_toArray, List.set_cons_zero, List.set_cons_succ])
          refine wpAnyH_take (i := 4) (v := undef) rfl (by kernel_rfl) (by kernel_rfl) (by kernel_rfl) (fun _ _ _ h => h) (Or.inr ⟨by rfl, rfl⟩) (by assumption) ?_
          (try simp only [Act.put, List.getElem_toArray, List.getElem_cons_succ, List.getElem_cons_zero, List.setIfInBounds_toArray, List.set_cons_zero, List.set_cons_succ])
          refine wpAnyH_take (i := 5) (v := undef) rfl (by kernel_rfl) (by kernel_rfl) (by kernel_rfl) (fun _ _ _ h => h) (Or.inr ⟨by rfl, rfl⟩) (by assumption) ?_
          (try simp only [Act.put, List.getElem_toArray, List.getElem_cons_succ, List.getElem_cons_zero, List.setIfInBounds_toArray, List.set_cons_zero, List.set_cons_succ])
          refine wpAnyH_take (i := 6) (v := undef) rfl (by kernel_rfl) (by kernel_rfl) (by kernel_rfl) (fun _ _ _ h => h) (Or.inr ⟨by rfl, rfl⟩) (by assumption) ?_
          (try simp only [Act.put, List.getElem_toArray, List.getElem_cons_succ, List.getElem_cons_zero, List.setIfInBounds_toArray, List.set_cons_zero, List.set_cons_succ])
          refine wpAnyH_take (i := 7) (v := undef) rfl (by kernel_rfl) (by kernel_rfl) (by kernel_rfl) (fun _ _ _ h => h) (Or.inr ⟨by rfl, rfl⟩) (by assumption) ?_
          (try simp only [Act.put, List.getElem_toArray, List.getElem_cons_succ, List.getElem_cons_zero, List.setIfInBounds_toArray, List.set_cons_zero, List.set_cons_succ])
          refine wpAnyH_take (i := 8) (v := undef) rfl (by kernel_rfl) (by kernel_rfl) (by kernel_rfl) (fun _ _ _ h => h) (Or.inr ⟨by rfl, rfl⟩) (by assumption) ?_
          (try simp only [Act.put, List.getElem_toArray, List.getElem_cons_succ, List.getElem_cons_zero, List.setIfInBounds_toArray, List.set_cons_zero, List.set_cons_succ])
          refine wpAnyH_take (i := 9) (v := undef) rfl (by kernel_rfl) (by kernel_rfl) (by kernel_rfl) (fun _ _ _ h => h) (Or.inr ⟨by rfl, rfl⟩) (by assumption) ?_
          (try simp only [Act.put, List.getElem_toArray, List.getElem_cons_succ, List.getElem_cons_zero, List.setIfInBounds_toArray, List.set_cons_zero, List.set_cons_succ])
          refine wpAnyH_take (i := 10) (v := ?_) rfl (by kernel_rfl) (by kernel_rfl) (by kernel_rfl) (fun _ _ _ h => h) (Or.inl ⟨by rfl, ?_⟩) (by assumption) ?_
          rotate_left
          · (intro w hSw; (try dsimp only at hSw); go_simp; (try with_reducible rfl))
          (try simp only [Act.put, List.getElem_toArray, List.getElem_cons_succ, List.getElem_cons_zero, List.setIfInBounds_toArray, List.set_cons_zero, List.set_cons_succ])
          refine wpAnyH_take (i := 11) (v := ?_) rfl (by kernel_rfl) (by kernel_rfl) (by kernel_rfl) (fun _ _ _ h => h) (Or.inl ⟨by rfl, ?_⟩) (by assumption) ?_
          rotate_left
          · (intro w hSw; (try dsimp only at hSw); go_simp; (try with_reducible rfl))
          (try simp only [Act.put, List.getElem_toArray, List.getElem_cons_succ, List.getElem_cons_zero, List.setIfInBounds_toArray, List.set_cons_zero, List.set_cons_succ])
          refine wpAnyH_done (by kernel_rfl) ?_ _
          refine NoPanic.normal ?_
          have hbE := HB2.out.trans (hHeld.2.mono HB2.out.size)
          clear hHeld d0 d1 s2'
          go_wp2_with fail
          go_ret
          exact ⟨ret_b HE.out, hbE⟩
        | true =>
          rw [hs, Bool.true_and] at HE
          have s2' := k0
          rw [hs] at HAP
          clear hs
          go_enter Try.func34, Try.ntmps34
          go_upto_region 4 with fail
          obtain ⟨W2, hW⟩ : ∃ W2, W2 = ((w.alloc (.cells #[.int .i64 (F : Int), .int .i64 (X : Int), .int .i64 t2] 60)).alloc (.cells #[.int .i64 (Ld : Int), .int .i64 (Rd : Int)] 26)) := ⟨_, rfl⟩
          rw [← hW] at d0 d1 s2' HB2 ⊢
          clear hW
          refine wp_region_noPanic ?_
          refine wp_region_held_drew (S := (fun w' => ((w'.cell? ⟨w.heap.size + 1, 0, none⟩ = some (.int .i64 (Ld : Int)) ∧ w'.cell? ⟨w.heap.size + 1, 1, none⟩ = some (.int .i64 (Rd : Int))) ∧ w'.cell? ⟨w.heap.size, 2, none⟩ = some (.int .i64 t2)) ∧ Below W2.heap.size W2 w')) (by kernel_rfl) ?_ (fun hHeld => ?_)
          · ((try dsimp only); exact ⟨⟨⟨d0, d1⟩, s2'⟩, (Below.refl _ _).drew⟩)
          refine wpAnyH_take (i := 0) (v := ?_) rfl (by kernel_rfl) (by kernel_rfl) (by kernel_rfl) (fun _ _ _ h => h) (Or.inl ⟨by rfl, ?_⟩) (by assumption) ?_
          rotate_left
          · (intro w hSw; (try dsimp only at hSw); go_simp; (try with_reducible rfl))
          (try simp only [Act.put, List.getElem_toArray, List.getElem_cons_zero, List.setIfInBounds_toArray, List.set_cons_zero, List.set_cons_succ])
          refine wpAnyH_take (i := 1) (v := ?_) rfl (by kernel_rfl) (by kernel_rfl) (by kernel_rfl) (fun _ _ _ h => h) (Or.inl ⟨by rfl, ?_⟩) (by assumption) ?_
          rotate_left
          · (intro w hSw; (try dsimp only at hSw); go_simp; (try with_reducible rfl))
          (try simp only [Act.put, List.getElem_toArray, List.getElem_cons_succ, List.getElem_cons_zero, List.setIfInBounds_toArray, List.set_cons_zero, List.set_cons_succ])
          refine wpAnyH_ready (rs := [2]) (by kernel_rfl) (by simp) (AllReadyH.cons rfl (fun K hK => ?_) AllReadyH.nil)
          (first | (go_at_call 52; refine (HAP.out _).mono ?_; rintro e w91 ⟨rfl, b91⟩) | (go_simp; go_at_call 52; refine (HAP.out _).mono ?_; rintro e w91 ⟨rfl, b91⟩))
          (try (go_wp2_with fail))
          refine hK.out _ _ ?_ (fun hHeld => ?_)
          · ((try dsimp only); exact ⟨⟨⟨keep_in hHeld.1.1.1 b91, keep_in hHeld.1.1.2 b91⟩, keep_in hHeld.1.2 b91⟩, hHeld.2.trans (b91.mono hHeld.2.size)⟩)
          clear hK K
          (try simp only [Act.put, List.getElem_toArray, List.getElem_cons_succ, List.getElem_cons_zero, List.setIfInBounds_toArray, List.set_cons_zero, List.set_cons_succ])
          refine wpAnyH_take (i := 3) (v := ?_) rfl (by kernel_rfl) (by kernel_rfl) (by kernel_rfl) (fun _ _ _ h => h) (Or.inl ⟨by rfl, ?_⟩) (by assumption) ?_
          rotate_left
          · (intro w hSw; (try dsimp only at hSw); go_simp; (try with_reducible rfl))
          (try simp only [Act.put, List.getElem_toArray, List.getElem_cons_succ, List.getElem_cons_zero, List.setIfInBounds_toArray, List.set_cons_zero, List.set_cons_succ])
          refine wpAnyH_take (i := 4) (v := ?_) rfl (by kernel_rfl) (by kernel_rfl) (by kernel_rfl) (fun _ _ _ h => h) (Or.inl ⟨by rfl, ?_⟩) (by assumption) ?_
          rotate_left
          · (intro w hSw; (try dsimp only at hSw); go_simp; (try with_reducible rfl))
          (try simp only [Act.put, List.getElem_toArray, List.getElem_cons_succ, List.getElem_cons_zero, List.setIfInBounds_toArray, List.set_cons_zero, List.set_cons_succ])
          refine wpAnyH_take (i := 5) (v := ?_) rfl (by kernel_rfl) (by kernel_rfl) (by kernel_rfl) (fun _ _ _ h => h) (Or.inl ⟨by rfl, ?_⟩) (by assumption) ?_
          rotate_left
          · (intro w hSw; (try dsimp only at hSw); go_simp; (try with_reducible rfl))
          (try simp only [Act.put, List.getElem_toArray, List.getElem_cons_succ, List.getElem_cons_zero, List.setIfInBounds_toArray, List.set_cons_zero, List.set_cons_succ])
          refine wpAnyH_take (i := 6) (v := ?_) rfl (by kernel_rfl) (by kernel_rfl) (by kernel_rfl) (fun _ _ _ h => h) (Or.inl ⟨by rfl, ?_⟩) (by assumption) ?_
          rotate_left
          · (intro w hSw; (try dsimp only at hSw); go_simp; (try with_reducible rfl))
          (try simp only [Act.put, List.getElem_toArray, List.getElem_cons_succ, List.getElem_cons_zero, List.setIfInBounds_toArray, List.set_cons_zero, List.set_cons_succ])
          refine wpAnyH_take (i := 7) (v := ?_) rfl (by kernel_rfl) (by kernel_rfl) (by kernel_rfl) (fun _ _ _ h => h) (Or.inl ⟨by rfl, ?_⟩) (by assumption) ?_
          rotate_left
          · (intro w hSw; (try dsimp only at hSw); go_simp; (try with_reducible rfl))
          (try simp only [Act.put, List.getElem_toArray, List.getElem_cons_succ, List.getElem_cons_zero, List.setIfInBounds_toArray, List.set_cons_zero, List.set_cons_succ])
          refine wpAnyH_ready (rs := [8]) (by kernel_rfl) (by simp) (AllReadyH.cons rfl (fun K hK => ?_) AllReadyH.nil)
          (first | (go_at_call 30; refine (HAD.out _).mono ?_; rintro e w92 ⟨rfl, b92⟩) | (go_simp; go_at_call 30; refine (HAD.out _).mono ?_; rintro e w92 ⟨rfl, b92⟩))
          (try (go_wp2_with fail))
          refine hK.out _ _ ?_ (fun hHeld => ?_)
          · ((try dsimp only); exact ⟨⟨⟨keep_in hHeld.1.1.1 b92, keep_in hHeld.1.1.2 b92⟩, keep_in hHeld.1.2 b92⟩, hHeld.2.trans (b92.mono hHeld.2.size)⟩)
          clear hK K
          (try simp only [Act.put, List.getElem_toArray, List.getElem_cons_succ, List.getElem_cons_zero, List.setIfInBounds_toArray, List.set_cons_zero, List.set_cons_succ])
          refine wpAnyH_take (i := 9) (v := ?_) rfl (by kernel_rfl) (by kernel_rfl) (by kernel_rfl) (fun _ _ _ h => h) (Or.inl ⟨by rfl, ?_⟩) (by assumption) ?_
          rotate_left
          · (intro w hSw; (try dsimp only at hSw); go_simp; (try with_reducible rfl))
          (try simp only [Act.put, List.getElem_toArray, List.getElem_cons_succ, List.getElem_cons_zero, List.setIfInBounds_toArray, List.set_cons_zero, List.set_cons_succ])
          refine wpAnyH_take (i := 10) (v := ?_) rfl (by kernel_rfl) (by kernel_rfl) (by kernel_rfl) (fun _ _ _ h => h) (Or.inl ⟨by rfl, ?_⟩) (by assumption) ?_
          rotate_left
          · (intro w hSw; (try dsimp only at hSw); go_simp; (try with_reducible rfl))
          (try simp only [Act.put, List.getElem_toArray, List.getElem_cons_succ, List.getElem_cons_zero, List.setIfInBounds_toArray, List.set_cons_zero, List.set_cons_succ])
          refine wpAnyH_take (i := 11) (v := ?_) rfl (by kernel_rfl) (by kernel_rfl) (by kernel_rfl) (fun _ _ _ h => h) (Or.inl ⟨by rfl, ?_⟩) (by assumption) ?_
          rotate_left
          · (intro w hSw; (try dsimp only at hSw); go_simp; (try with_reducible rfl))
          (try simp only [Act.put, List.getElem_toArray, List.getElem_cons_succ, List.getElem_cons_zero, List.setIfInBounds_toArray, List.set_cons_zero, List.set_cons_succ])
          refine wpAnyH_done (by kernel_rfl) ?_ _
          refine NoPanic.normal ?_
          have hbE := HB2.out.trans (hHeld.2.mono HB2.out.size)
          clear hHeld d0 d1 s2'
          go_wp2_with fail
          go_ret
          exact ⟨ret_b HE.out, hbE⟩
      · have hE : r = false := by rw [HE.out, decide_eq_true ⟨h0, h1⟩, show (t1 == (X : Int)) = false from by rw [beq_eq_false_iff_ne]; exact h2]; rfl
        subst hE
        have hne : (t1 != (X : Int)) = true := by rw [bne_iff_ne]; exact h2
        clear HE h2 hd hrA
        go_enter Try.func34, Try.ntmps34
        go_wp2_with fail
        go_ret
        exact ⟨rfl, HB1.out⟩
    · have hE : r = false := by rw [HE.out, decide_eq_false (fun h => h1 h.2)]; rfl
      subst hE
      clear HE hd hrA
      go_enter Try.func34, Try.ntmps34
      go_wp2_with fail
      go_ret
      exact ⟨rfl, HB1.out⟩
  · have hE : r = false := by rw [HE.out, decide_eq_false (fun h => h0 h.1)]; rfl
    subst hE
    clear HE hd hrA
    go_enter Try.func34, Try.ntmps34
    go_wp2_with fail
    go_ret
    exact ⟨rfl, HB1.out⟩
theorem implCheckDer_any (v vs : Value) (n x y : Int) (l : List (Int × Int)) (s : List (Int × Int × Int)) (_w0 : (Lit.int .i64 n).wf = true) (bd : ∀ d ∈ l, (Lit.int .i64 d.1).wf = true ∧ (Lit.int .i64 d.2).wf = true) (_wx : (Lit.int .i64 x).wf = true) (_wy : (Lit.int .i64 y).wf = true) (_bs : ∀ t ∈ s, (Lit.int .i64 t.1).wf = true ∧ (Lit.int .i64 t.2.1).wf = true ∧ (Lit.int .i64 t.2.2).wf = true) (w : World) (hr : ReadD w v l) (hl : l.length ≤ 1048576) (hrs : ReadT w vs s) (hls : s.length ≤ 1048576) :
    Calls Try.prog 10 #[.int .i64 n, v, .agg #[.int .i64 x, .int .i64 y], vs] w fun e w' => e = .returned (.bool (chkB n l (x, y) s)) ∧ Below w.heap.size w w' := by
  have hb1 := (Below.refl w.heap.size w).alloc (Nat.le_refl _) (.cells #[.int .i64 x, .int .i64 y] 26)
  have HB1 := Lib.hid hb1
  have HAD := Lib.hid (implAreDeps_any v n l _w0 bd _ (hr.kept hb1) hl)
  have HID := Lib.hid (fun w' => implIsDep_all n x y _wx w')
  have HRS := Lib.hid (fun w' (hb : Below w.heap.size w w') => hrs.kept hb)
  have hr0 := hr
  obtain ⟨c0, c1⟩ := zero2 w 26 (.int .i64 x) (.int .i64 y)
  obtain ⟨a, cap, rfl, -⟩ := hr
  obtain ⟨as', caps, rfl, -⟩ := hrs
  clear hb1 bd _bs
  cases ha : arD n l with
  | false =>
    rw [ha] at HAD
    have HE : Hid (chkB n l (x, y) s = false) := Lib.hid (by unfold chkB; rw [ha]; rfl)
    clear ha
    go_enter Try.func10, Try.ntmps10
    go_wp2_with fail
    refine HAD.out.mono ?_
    rintro e w2 ⟨rfl, b2⟩
    have HB2 := Lib.hid (HB1.out.trans (b2.mono HB1.out.size))
    clear b2
    go_wp2_with fail
    go_ret
    exact ⟨ret_b HE.out, HB2.out⟩
  | true =>
    rw [ha] at HAD
    cases hd : depB n x y with
    | false =>
      rw [hd] at HID
      have HE : Hid (chkB n l (x, y) s = false) := Lib.hid (by unfold chkB; rw [hd, ha]; rfl)
      clear ha hd
      go_enter Try.func10, Try.ntmps10
      go_wp2_with fail
      refine HAD.out.mono ?_
      rintro e w2 ⟨rfl, b2⟩
      replace c0 := keep_in c0 b2
      replace c1 := keep_in c1 b2
      have HB2 := Lib.hid (HB1.out.trans (b2.mono HB1.out.size))
      clear b2
      go_wp2_with fail
      refine (HID.out _).mono ?_
      rintro e w3 ⟨rfl, b3⟩
      have HB3 := Lib.hid (HB2.out.trans (b3.mono HB2.out.size))
      clear b3
      go_wp2_with fail
      go_ret
      exact ⟨ret_b HE.out, HB3.out⟩
    | true =>
      rw [hd] at HID
      obtain ⟨C, rfl, hC1, hC5, -, hdn⟩ := arD_n ha
      obtain ⟨-, k1, k2, k3⟩ := depB_iff.1 hd
      obtain ⟨L, rfl, hL, -⟩ := isA_lt hC5 k1
      obtain ⟨R, rfl⟩ : ∃ R : Nat, y = (R : Int) := ⟨y.toNat, by omega⟩
      have HE : Hid (chkB (C : Int) l ((L : Int), (R : Int)) s = (chkTo l L s s.length && bitB (chkX l L s s.length) R)) := Lib.hid (by unfold chkB; rw [ha, hd]; rfl)
      have HCN : Hid (∀ i, i < s.length → chkAt l (chkX l L s i) (s.getD i (0, 0, 0)) = false → chkB (C : Int) l ((L : Int), (R : Int)) s = false) := Lib.hid (fun i hi h => chk_no hi h)
      have HXL := Lib.hid (fun i h => chkX_lt hC5 hdn hL s i h)
      have HAL := Lib.hid (fun X hX t0 t1 t2 w' (hb : Below w.heap.size w w') => allows10_any C hC5 _ l hdn X hX t0 t1 t2 w' (hr0.kept hb) hl)
      have HHS := Lib.hid (fun X w' => has_any X R (by omega) w')
      clear ha hd hdn k1 k3 hr0
      go_enter Try.func10, Try.ntmps10
      go_wp2_with fail
      refine HAD.out.mono ?_
      rintro e w2 ⟨rfl, b2⟩
      replace c0 := keep_in c0 b2
      replace c1 := keep_in c1 b2
      have HB2 := Lib.hid (HB1.out.trans (b2.mono HB1.out.size))
      clear b2
      go_wp2_with fail
      refine (HID.out _).mono ?_
      rintro e w3 ⟨rfl, b3⟩
      replace c0 := keep_in c0 b3
      replace c1 := keep_in c1 b3
      have HB3 := Lib.hid (HB2.out.trans (b3.mono HB2.out.size))
      have HC3 := Lib.hid (And.intro c0 c1)
      clear b3
      go_wp2_with fail
      go_loopw [9, 26] (fun xv iv wr => ∃ i : Nat, i ≤ s.length ∧ iv = .int .i64 (i : Int) ∧ xv = .int .i64 (chkX l L s i : Int) ∧ Hid (chkTo l L s i = true) ∧ Hid (wr.cell? ⟨w.heap.size, 0, none⟩ = some (.int .i64 (L : Int)) ∧ wr.cell? ⟨w.heap.size, 1, none⟩ = some (.int .i64 (R : Int))) ∧ Hid (Below w.heap.size w wr)) (fun _ iv _ => s.length - (intOf iv).toNat)
      case atStart => exact ⟨0, by omega, rfl, rfl, Lib.hid rfl, HC3, HB3⟩
      case round =>
        obtain ⟨i, hi, rfl, rfl, HT, HC, HB⟩ := hrel
        obtain ⟨w4, hw⟩ : ∃ w', w' = wr := ⟨_, rfl⟩
        rw [← hw] at HC HB ⊢
        clear hw c0 c1
        obtain ⟨c0, c1⟩ := HC.out
        have z0 : (0 : Int) ≤ (i : Int) := by omega
        by_cases hlt : i < s.length
        · obtain ⟨bs, os, hab, s0, s1, s2⟩ := readT_cells (HRS.out w4 HB.out) hlt
          subst hab
          have z1 : (i : Int) < (s.length : Int) := by omega
          have HNO := Lib.hid (HCN.out i hlt)
          have HSU : Hid (chkAt l (chkX l L s i) (s.getD i (0, 0, 0)) = true → chkTo l L s (i + 1) = true ∧ (s.getD i (0, 0, 0)).2.2 = (chkX l L s (i + 1) : Int)) := Lib.hid (fun h => by
            refine ⟨by unfold chkTo; rw [HT.out, h]; rfl, ?_⟩
            unfold chkAt at h
            rw [Bool.and_eq_true, beq_iff_eq] at h
            exact h.2)
          have hX32 := HXL.out i HT.out
          obtain ⟨X, hX⟩ : ∃ X, X = chkX l L s i := ⟨_, rfl⟩
          obtain ⟨⟨t0, t1, t2⟩, ht⟩ : ∃ t, t = s.getD i (0, 0, 0) := ⟨_, rfl⟩
          rw [← hX] at hX32 HNO HSU ⊢
          rw [← ht] at s0 s1 s2 HNO HSU
          simp only at s0 s1 s2
          have hb5 := (Below.refl w4.heap.size w4).alloc (Nat.le_refl _) (.cells #[.int .i64 t0, .int .i64 t1, .int .i64 t2] 60)
          have HB5 := Lib.hid (HB.out.trans (hb5.mono HB.out.size))
          have HAW := Lib.hid (HAL.out X hX32 t0 t1 t2 _ HB5.out)
          obtain ⟨e0, e1, e2⟩ := zero3 w4 60 (.int .i64 t0) (.int .i64 t1) (.int .i64 t2)
          have HCE := Lib.hid (And.intro (keep_in c0 hb5) (And.intro (keep_in c1 hb5) e2))
          clear hX ht hb5 c0 c1
          cases hc : chkAt l X (t0, t1, t2) with
          | false =>
            rw [hc] at HAW
            have HF := Lib.hid (HNO.out hc)
            clear hc
            go_wp2_with fail
            refine HAW.out.mono ?_
            rintro e w6 ⟨rfl, b6⟩
            have HB6 := Lib.hid (HB5.out.trans (b6.mono HB5.out.size))
            clear b6
            go_wp2_with fail
            go_ret
            exact ⟨ret_b HF.out, HB6.out⟩
          | true =>
            rw [hc] at HAW
            have HF := Lib.hid (HSU.out hc)
            clear hc
            go_wp2_with fail
            refine HAW.out.mono ?_
            rintro e w6 ⟨rfl, b6⟩
            have HB6 := Lib.hid (HB5.out.trans (b6.mono HB5.out.size))
            have HC6 := Lib.hid (And.intro (keep_in HCE.out.1 b6) (keep_in HCE.out.2.1 b6))
            have k2 := keep_in HCE.out.2.2 b6
            clear b6 e0 e1 e2 s0 s1 s2
            go_wp2_with fail
            go_roundw
            case rel => exact ⟨i + 1, by omega, by go_num, by rw [HF.out.2], Lib.hid HF.out.1, HC6, HB6⟩
            case measure => simp [intOf]; omega
        · obtain rfl : i = s.length := by omega
          have HEE : Hid (chkB (C : Int) l ((L : Int), (R : Int)) s = bitB (chkX l L s s.length) R) := Lib.hid (by rw [HE.out, HT.out, Bool.true_and])
          obtain ⟨X, hX⟩ : ∃ X, X = chkX l L s s.length := ⟨_, rfl⟩
          rw [← hX] at HEE ⊢
          clear hX
          have HH := Lib.hid (HHS.out X w4)
          go_wp2_with fail
          refine HH.out.mono ?_
          rintro e w6 ⟨rfl, rfl⟩
          go_wp2_with fail
          go_ret
          exact ⟨ret_b HEE.out, HB.out⟩
end
end Go.Proofs.Ytbldcdlpcidffaa
