/- IsMinimalDep answers as its model at every argument; it writes into no argument; its answer owns its memory. Conditions: none beyond the row's own. -/
import Derived.Test.YtlecfkfcjhliiaaCvDm
import Derived.Test.YtlecfkfcjhliiaaWb26
namespace Go.Proofs.Ytlecfkfcjhliiaa.lawFnExactIsMinimalDep
open Go.ChangeShapes Go.WideShapes Go.ChangeAt Go.RowKit
theorem laidOut : laidOutB Try.prog = true := by kernel_rfl

theorem own : ownKnob Try.prog.godebug = none := by kernel_rfl

set_option maxRecDepth 20000 in
set_option maxHeartbeats 3200000 in
theorem walk (c : Int) (u : Value) (ll : List (List Int)) (md : Int) (l r : Int) (_w0 : (Lit.int .i64 c).wf = true) (_w1 : (Lit.int .i64 md).wf = true) (_w2 : (Lit.int .i64 l).wf = true) (_w3 : (Lit.int .i64 r).wf = true) (w : World) (hr : ReadSS w u ll) (hs : Short ll) :
    Calls Try.prog 3 #[.agg #[.int .i64 c, u], .int .i64 md, .agg #[.int .i64 l, .int .i64 r]] w fun e w' => e = .returned (.bool true) ∧ Below w.heap.size w w' := by
  have HSZ := Lib.hid (fun w' (hb : Below w.heap.size w w') => szTable_any c u ll w' (hr.kept hb) hs 1048576 (by omega) (by omega))
  have hbx0 := (Below.refl w.heap.size w).alloc (Nat.le_refl _) (.cells #[.int .i64 c, u] 24)
  have hbx := hbx0.alloc hbx0.size (.cells #[.int .i64 l, .int .i64 r] 26)
  have HBX := Lib.hid (fun w' (hb : Below ((w.alloc (.cells #[.int .i64 c, u] 24)).alloc (.cells #[.int .i64 l, .int .i64 r] 26)).heap.size ((w.alloc (.cells #[.int .i64 c, u] 24)).alloc (.cells #[.int .i64 l, .int .i64 r] 26)) w') => And.intro (hbx.trans (hb.mono hbx.size)) (boxTD hb))
  have HRF := Lib.hid (Below.refl ((w.alloc (.cells #[.int .i64 c, u] 24)).alloc (.cells #[.int .i64 l, .int .i64 r] 26)).heap.size ((w.alloc (.cells #[.int .i64 c, u] 24)).alloc (.cells #[.int .i64 l, .int .i64 r] 26)))
  clear hbx hbx0
  by_cases hsz : szOf ll ≤ 1048576
  · rw [szD_ok (by omega)] at HSZ
    obtain ⟨hl, ht⟩ := szOf_bd hsz
    have HTO := Lib.hid (fun w' (hb : Below w.heap.size w w') => toTable_any c u ll w' (hr.kept hb) hl ht)
    have HS := Lib.hid (fun v w' (hv : ReadSS w' v ll) => isMinimalDep_any c md l r v ll w' hv hl ht)
    have HI := Lib.hid (fun v w' (hv : ReadSS w' v ll) => implIsMinimalDep_any c md l r v ll _w1 _w2 _w3 w' hv hl ht)
    have HTD := Lib.hid (fun w' => toDep_any l r w')
    have HEQ := Lib.hid (fun v v' w' (hv : ReadSS w' v ll) (hv' : ReadSS w' v' ll) => eqTable_any c c v v' ll ll w' hv hv' (by omega) (fun i hi => by have := ht i hi; omega))
    rw [eqTb_self] at HEQ
    obtain ⟨d0, hd0⟩ : ∃ d : Bool, d = imB c ll md l r := ⟨_, rfl⟩
    rw [← hd0] at HS HI
    clear hd0
    have hdd0 : (d0 != d0) = false := by simp
    obtain ⟨a, cap, rfl, -⟩ := hr
    have hneg : ¬ (1048576 - (szOf ll : Int) < 0) := by omega
    clear hs ht
    obtain ⟨-, ⟨pb, qb⟩, db, eb⟩ := HBX.out _ HRF.out
    go_enter Try.func3, Try.ntmps3
    go_wp2_with fail
    refine (HSZ.out _ (HBX.out _ HRF.out).1).mono ?_
    rintro e w1 ⟨rfl, b1⟩
    have hb := HRF.out.trans (b1.mono HRF.out.size)
    clear b1 pb qb db eb
    obtain ⟨kb, ⟨pb, qb⟩, db, eb⟩ := HBX.out _ hb
    go_wp2_with fail
    refine wp_region_noPanic ?_
    refine wp_region_held_drew (S := (fun w' => ((w'.cell? ⟨w.heap.size, 0, none⟩ = some (.int .i64 c) ∧ w'.cell? ⟨w.heap.size, 1, none⟩ = some (.slice a ll.length cap)) ∧ w'.cell? ⟨w.heap.size + 1, 0, none⟩ = some (.int .i64 l) ∧ w'.cell? ⟨w.heap.size + 1, 1, none⟩ = some (.int .i64 r)) ∧ Below ((w.alloc (.cells #[.int .i64 c, .slice a ll.length cap] 24)).alloc (.cells #[.int .i64 l, .int .i64 r] 26)).heap.size ((w.alloc (.cells #[.int .i64 c, .slice a ll.length cap] 24)).alloc (.cells #[.int .i64 l, .int .i64 r] 26)) w')) (by kernel_rfl) ?_ (fun hHeld => ?_)
    · ((try dsimp only); (first | exact keepTD hHeld b93 | exact keepTD hHeld b92 | exact keepTD hHeld b91 | exact ⟨⟨⟨pb, qb⟩, db, eb⟩, hb.drew⟩))
    refine wpAnyH_take (i := 0) (v := ?_) rfl (by kernel_rfl) (by kernel_rfl) (by kernel_rfl) (fun _ _ _ h => h) (Or.inl ⟨by rfl, ?_⟩) (by assumption) ?_
    rotate_left
    · (intro w hSw; (try dsimp only at hSw); go_simp; (try with_reducible rfl))
    (try simp only [Act.put, List.getElem_toArray, List.getElem_cons_zero, List.setIfInBounds_toArray, List.set_cons_zero, List.set_cons_succ])
    refine wpAnyH_take (i := 2) (v := ?_) rfl (by kernel_rfl) (by kernel_rfl) (by kernel_rfl) (fun _ _ _ h => h) (Or.inl ⟨by rfl, ?_⟩) (by assumption) ?_
    rotate_left
    · (intro w hSw; (try dsimp only at hSw); go_simp; (try with_reducible rfl))
    (try simp only [Act.put, List.getElem_toArray, List.getElem_cons_succ, List.getElem_cons_zero, List.setIfInBounds_toArray, List.set_cons_zero, List.set_cons_succ])
    refine wpAnyH_take (i := 3) (v := ?_) rfl (by kernel_rfl) (by kernel_rfl) (by kernel_rfl) (fun _ _ _ h => h) (Or.inl ⟨by rfl, ?_⟩) (by assumption) ?_
    rotate_left
    · (intro w hSw; (try dsimp only at hSw); go_simp; (try with_reducible rfl))
    (try simp only [Act.put, List.getElem_toArray, List.getElem_cons_succ, List.getElem_cons_zero, List.setIfInBounds_toArray, List.set_cons_zero, List.set_cons_succ])
    refine wpAnyH_ready (rs := [1]) (by kernel_rfl) (by simp) (AllReadyH.cons rfl (fun K hK => ?_) AllReadyH.nil)
    (first | ((first | (go_at_call 6; refine (HTO.out _ (HBX.out _ hHeld.2).1).mono ?_; rintro e w91 ⟨v91, rfl, o91, b91⟩) | (go_at_call 7; refine (HTD.out _).mono ?_; rintro e w92 ⟨rfl, b92⟩; have r92 := o91.read.kept b92) | (go_at_call 5; refine (HS.out _ _ r92).mono ?_; rintro e w93 ⟨rfl, b93⟩))) | (go_simp; (first | (go_at_call 6; refine (HTO.out _ (HBX.out _ hHeld.2).1).mono ?_; rintro e w91 ⟨v91, rfl, o91, b91⟩) | (go_at_call 7; refine (HTD.out _).mono ?_; rintro e w92 ⟨rfl, b92⟩; have r92 := o91.read.kept b92) | (go_at_call 5; refine (HS.out _ _ r92).mono ?_; rintro e w93 ⟨rfl, b93⟩))))
    (try (go_wp2_with fail))
    refine hK.out _ _ ?_ (fun hHeld => ?_)
    · ((try dsimp only); (first | exact keepTD hHeld b93 | exact keepTD hHeld b92 | exact keepTD hHeld b91 | exact ⟨⟨⟨pb, qb⟩, db, eb⟩, hb.drew⟩))
    clear hK K
    (try simp only [Act.put, List.getElem_toArray, List.getElem_cons_succ, List.getElem_cons_zero, List.setIfInBounds_toArray, List.set_cons_zero, List.set_cons_succ])
    refine wpAnyH_ready (rs := [4]) (by kernel_rfl) (by simp) (AllReadyH.cons rfl (fun K hK => ?_) AllReadyH.nil)
    (first | ((first | (go_at_call 6; refine (HTO.out _ (HBX.out _ hHeld.2).1).mono ?_; rintro e w91 ⟨v91, rfl, o91, b91⟩) | (go_at_call 7; refine (HTD.out _).mono ?_; rintro e w92 ⟨rfl, b92⟩; have r92 := o91.read.kept b92) | (go_at_call 5; refine (HS.out _ _ r92).mono ?_; rintro e w93 ⟨rfl, b93⟩))) | (go_simp; (first | (go_at_call 6; refine (HTO.out _ (HBX.out _ hHeld.2).1).mono ?_; rintro e w91 ⟨v91, rfl, o91, b91⟩) | (go_at_call 7; refine (HTD.out _).mono ?_; rintro e w92 ⟨rfl, b92⟩; have r92 := o91.read.kept b92) | (go_at_call 5; refine (HS.out _ _ r92).mono ?_; rintro e w93 ⟨rfl, b93⟩))))
    (try (go_wp2_with fail))
    refine hK.out _ _ ?_ (fun hHeld => ?_)
    · ((try dsimp only); (first | exact keepTD hHeld b93 | exact keepTD hHeld b92 | exact keepTD hHeld b91 | exact ⟨⟨⟨pb, qb⟩, db, eb⟩, hb.drew⟩))
    clear hK K
    (try simp only [Act.put, List.getElem_toArray, List.getElem_cons_succ, List.getElem_cons_zero, List.setIfInBounds_toArray, List.set_cons_zero, List.set_cons_succ])
    refine wpAnyH_ready (rs := [5]) (by kernel_rfl) (by simp) (AllReadyH.cons rfl (fun K hK => ?_) AllReadyH.nil)
    (first | ((first | (go_at_call 6; refine (HTO.out _ (HBX.out _ hHeld.2).1).mono ?_; rintro e w91 ⟨v91, rfl, o91, b91⟩) | (go_at_call 7; refine (HTD.out _).mono ?_; rintro e w92 ⟨rfl, b92⟩; have r92 := o91.read.kept b92) | (go_at_call 5; refine (HS.out _ _ r92).mono ?_; rintro e w93 ⟨rfl, b93⟩))) | (go_simp; (first | (go_at_call 6; refine (HTO.out _ (HBX.out _ hHeld.2).1).mono ?_; rintro e w91 ⟨v91, rfl, o91, b91⟩) | (go_at_call 7; refine (HTD.out _).mono ?_; rintro e w92 ⟨rfl, b92⟩; have r92 := o91.read.kept b92) | (go_at_call 5; refine (HS.out _ _ r92).mono ?_; rintro e w93 ⟨rfl, b93⟩))))
    (try (go_wp2_with fail))
    refine hK.out _ _ ?_ (fun hHeld => ?_)
    · ((try dsimp only); (first | exact keepTD hHeld b93 | exact keepTD hHeld b92 | exact keepTD hHeld b91 | exact ⟨⟨⟨pb, qb⟩, db, eb⟩, hb.drew⟩))
    clear hK K
    (try simp only [Act.put, List.getElem_toArray, List.getElem_cons_succ, List.getElem_cons_zero, List.setIfInBounds_toArray, List.set_cons_zero, List.set_cons_succ])
    refine wpAnyH_take (i := 6) (v := ?_) rfl (by kernel_rfl) (by kernel_rfl) (by kernel_rfl) (fun _ _ _ h => h) (Or.inl ⟨by rfl, ?_⟩) (by assumption) ?_
    rotate_left
    · (intro w hSw; (try dsimp only at hSw); go_simp; (try with_reducible rfl))
    (try simp only [Act.put, List.getElem_toArray, List.getElem_cons_succ, List.getElem_cons_zero, List.setIfInBounds_toArray, List.set_cons_zero, List.set_cons_succ])
    refine wpAnyH_done (by kernel_rfl) ?_ _
    refine NoPanic.normal ?_
    obtain ⟨w2, hw2⟩ : ∃ w', w' = w93 := ⟨_, rfl⟩
    rw [← hw2] at hHeld ⊢
    replace hb := hHeld.2
    clear hHeld b91 b92 b93 r92 o91 hw2 pb qb db eb kb
    obtain ⟨kb, ⟨pb, qb⟩, db, eb⟩ := HBX.out _ hb
    go_wp2_with fail
    refine (HTO.out _ kb).mono ?_
    rintro e w4 ⟨v1, rfl, o1, b4⟩
    replace hb := hb.trans (b4.mono hb.size)
    obtain ⟨a1, cap1, rfl, -⟩ := o1.read
    have hbX := (Below.refl w4.heap.size w4).alloc (Nat.le_refl _) (.cells #[.int .i64 c, .slice a1 ll.length cap1] 29)
    obtain ⟨xbx, xby⟩ := zero2 w4 29 (.int .i64 c) (.slice a1 ll.length cap1)
    have r1 := o1.read.kept hbX
    replace hb := hb.trans (hbX.mono hb.size)
    clear b4 o1 hbX pb qb db eb kb
    obtain ⟨kb, ⟨pb, qb⟩, db, eb⟩ := HBX.out _ hb
    obtain ⟨w5, hw5⟩ : ∃ w', w' = w4.alloc (.cells #[.int .i64 c, .slice a1 ll.length cap1] 29) := ⟨_, rfl⟩
    go_wp2_with fail
    rw [← hw5] at hb kb pb qb db eb xbx xby r1 ⊢
    clear hw5
    refine wp_region_noPanic ?_
    refine wp_region_held_drew (S := (fun w' => ((w'.cell? ⟨w.heap.size, 0, none⟩ = some (.int .i64 c) ∧ w'.cell? ⟨w.heap.size, 1, none⟩ = some (.slice a ll.length cap)) ∧ w'.cell? ⟨w.heap.size + 1, 0, none⟩ = some (.int .i64 l) ∧ w'.cell? ⟨w.heap.size + 1, 1, none⟩ = some (.int .i64 r)) ∧ (w'.cell? ⟨w4.heap.size, 0, none⟩ = some (.int .i64 c) ∧ w'.cell? ⟨w4.heap.size, 1, none⟩ = some (.slice a1 ll.length cap1)) ∧ ReadSS w' (.slice a1 ll.length cap1) ll ∧ Below ((w.alloc (.cells #[.int .i64 c, .slice a ll.length cap] 24)).alloc (.cells #[.int .i64 l, .int .i64 r] 26)).heap.size ((w.alloc (.cells #[.int .i64 c, .slice a ll.length cap] 24)).alloc (.cells #[.int .i64 l, .int .i64 r] 26)) w')) (by kernel_rfl) ?_ (fun hHeld => ?_)
    · ((try dsimp only); (first | exact keepXD hHeld b93 | exact keepXD hHeld b92 | exact ⟨⟨⟨pb, qb⟩, db, eb⟩, ⟨xbx, xby⟩, r1, hb.drew⟩))
    refine wpAnyH_take (i := 0) (v := ?_) rfl (by kernel_rfl) (by kernel_rfl) (by kernel_rfl) (fun _ _ _ h => h) (Or.inl ⟨by rfl, ?_⟩) (by assumption) ?_
    rotate_left
    · (intro w hSw; (try dsimp only at hSw); go_simp; (try with_reducible rfl))
    (try simp only [Act.put, List.getElem_toArray, List.getElem_cons_zero, List.setIfInBounds_toArray, List.set_cons_zero, List.set_cons_succ])
    refine wpAnyH_take (i := 1) (v := ?_) rfl (by kernel_rfl) (by kernel_rfl) (by kernel_rfl) (fun _ _ _ h => h) (Or.inl ⟨by rfl, ?_⟩) (by assumption) ?_
    rotate_left
    · (intro w hSw; (try dsimp only at hSw); go_simp; (try with_reducible rfl))
    (try simp only [Act.put, List.getElem_toArray, List.getElem_cons_succ, List.getElem_cons_zero, List.setIfInBounds_toArray, List.set_cons_zero, List.set_cons_succ])
    refine wpAnyH_take (i := 2) (v := ?_) rfl (by kernel_rfl) (by kernel_rfl) (by kernel_rfl) (fun _ _ _ h => h) (Or.inl ⟨by rfl, ?_⟩) (by assumption) ?_
    rotate_left
    · (intro w hSw; (try dsimp only at hSw); go_simp; (try with_reducible rfl))
    (try simp only [Act.put, List.getElem_toArray, List.getElem_cons_succ, List.getElem_cons_zero, List.setIfInBounds_toArray, List.set_cons_zero, List.set_cons_succ])
    refine wpAnyH_ready (rs := [3]) (by kernel_rfl) (by simp) (AllReadyH.cons rfl (fun K hK => ?_) AllReadyH.nil)
    (first | ((first | (go_at_call 7; refine (HTD.out _).mono ?_; rintro e w92 ⟨rfl, b92⟩) | (go_at_call 8; refine (HI.out _ _ hHeld.2.2.1).mono ?_; rintro e w93 ⟨rfl, b93⟩))) | (go_simp; (first | (go_at_call 7; refine (HTD.out _).mono ?_; rintro e w92 ⟨rfl, b92⟩) | (go_at_call 8; refine (HI.out _ _ hHeld.2.2.1).mono ?_; rintro e w93 ⟨rfl, b93⟩))))
    (try (go_wp2_with fail))
    refine hK.out _ _ ?_ (fun hHeld => ?_)
    · ((try dsimp only); (first | exact keepXD hHeld b93 | exact keepXD hHeld b92 | exact ⟨⟨⟨pb, qb⟩, db, eb⟩, ⟨xbx, xby⟩, r1, hb.drew⟩))
    clear hK K
    (try simp only [Act.put, List.getElem_toArray, List.getElem_cons_succ, List.getElem_cons_zero, List.setIfInBounds_toArray, List.set_cons_zero, List.set_cons_succ])
    refine wpAnyH_ready (rs := [4]) (by kernel_rfl) (by simp) (AllReadyH.cons rfl (fun K hK => ?_) AllReadyH.nil)
    (first | ((first | (go_at_call 7; refine (HTD.out _).mono ?_; rintro e w92 ⟨rfl, b92⟩) | (go_at_call 8; refine (HI.out _ _ hHeld.2.2.1).mono ?_; rintro e w93 ⟨rfl, b93⟩))) | (go_simp; (first | (go_at_call 7; refine (HTD.out _).mono ?_; rintro e w92 ⟨rfl, b92⟩) | (go_at_call 8; refine (HI.out _ _ hHeld.2.2.1).mono ?_; rintro e w93 ⟨rfl, b93⟩))))
    (try (go_wp2_with fail))
    refine hK.out _ _ ?_ (fun hHeld => ?_)
    · ((try dsimp only); (first | exact keepXD hHeld b93 | exact keepXD hHeld b92 | exact ⟨⟨⟨pb, qb⟩, db, eb⟩, ⟨xbx, xby⟩, r1, hb.drew⟩))
    clear hK K
    (try simp only [Act.put, List.getElem_toArray, List.getElem_cons_succ, List.getElem_cons_zero, List.setIfInBounds_toArray, List.set_cons_zero, List.set_cons_succ])
    refine wpAnyH_take (i := 5) (v := ?_) rfl (by kernel_rfl) (by kernel_rfl) (by kernel_rfl) (fun _ _ _ h => h) (Or.inl ⟨by rfl, ?_⟩) (by assumption) ?_
    rotate_left
    · (intro w hSw; (try dsimp only at hSw); go_simp; (try with_reducible rfl))
    (try simp only [Act.put, List.getElem_toArray, List.getElem_cons_succ, List.getElem_cons_zero, List.setIfInBounds_toArray, List.set_cons_zero, List.set_cons_succ])
    refine wpAnyH_done (by kernel_rfl) ?_ _
    refine NoPanic.normal ?_
    obtain ⟨w6, hw6⟩ : ∃ w', w' = w93 := ⟨_, rfl⟩
    rw [← hw6] at hHeld ⊢
    obtain ⟨-, h2, r6, h4⟩ := hHeld
    clear b92 b93 hw6 pb qb db eb kb xbx xby r1 hb
    obtain ⟨xbx, xby⟩ := h2
    have hb := h4
    have r1 := r6
    clear h4 r6
    obtain ⟨kb, ⟨pb, qb⟩, db, eb⟩ := HBX.out _ hb
    go_wp2_with fail
    refine wp_region_noPanic ?_
    refine wp_region_held_drew (S := (fun w' => ((w'.cell? ⟨w.heap.size, 0, none⟩ = some (.int .i64 c) ∧ w'.cell? ⟨w.heap.size, 1, none⟩ = some (.slice a ll.length cap)) ∧ w'.cell? ⟨w.heap.size + 1, 0, none⟩ = some (.int .i64 l) ∧ w'.cell? ⟨w.heap.size + 1, 1, none⟩ = some (.int .i64 r)) ∧ (w'.cell? ⟨w4.heap.size, 0, none⟩ = some (.int .i64 c) ∧ w'.cell? ⟨w4.heap.size, 1, none⟩ = some (.slice a1 ll.length cap1)) ∧ ReadSS w' (.slice a1 ll.length cap1) ll ∧ Below ((w.alloc (.cells #[.int .i64 c, .slice a ll.length cap] 24)).alloc (.cells #[.int .i64 l, .int .i64 r] 26)).heap.size ((w.alloc (.cells #[.int .i64 c, .slice a ll.length cap] 24)).alloc (.cells #[.int .i64 l, .int .i64 r] 26)) w')) (by kernel_rfl) ?_ (fun hHeld => ?_)
    · ((try dsimp only); (first | exact keepXD hHeld b92 | exact keepXD hHeld b91 | exact ⟨⟨⟨pb, qb⟩, db, eb⟩, ⟨xbx, xby⟩, r1, hb.drew⟩))
    refine wpAnyH_take (i := 0) (v := ?_) rfl (by kernel_rfl) (by kernel_rfl) (by kernel_rfl) (fun _ _ _ h => h) (Or.inl ⟨by rfl, ?_⟩) (by assumption) ?_
    rotate_left
    · (intro w hSw; (try dsimp only at hSw); go_simp; (try with_reducible rfl))
    (try simp only [Act.put, List.getElem_toArray, List.getElem_cons_zero, List.setIfInBounds_toArray, List.set_cons_zero, List.set_cons_succ])
    refine wpAnyH_take (i := 1) (v := ?_) rfl (by kernel_rfl) (by kernel_rfl) (by kernel_rfl) (fun _ _ _ h => h) (Or.inl ⟨by rfl, ?_⟩) (by assumption) ?_
    rotate_left
    · (intro w hSw; (try dsimp only at hSw); go_simp; (try with_reducible rfl))
    (try simp only [Act.put, List.getElem_toArray, List.getElem_cons_succ, List.getElem_cons_zero, List.setIfInBounds_toArray, List.set_cons_zero, List.set_cons_succ])
    refine wpAnyH_ready (rs := [2]) (by kernel_rfl) (by simp) (AllReadyH.cons rfl (fun K hK => ?_) AllReadyH.nil)
    (first | ((first | (go_at_call 6; refine (HTO.out _ (HBX.out _ hHeld.2.2.2).1).mono ?_; rintro e w91 ⟨v91, rfl, o91, b91⟩; have r91 := o91.read) | (go_at_call 9; refine (HEQ.out _ _ _ hHeld.2.2.1 r91).mono ?_; rintro e w92 ⟨rfl, b92⟩))) | (go_simp; (first | (go_at_call 6; refine (HTO.out _ (HBX.out _ hHeld.2.2.2).1).mono ?_; rintro e w91 ⟨v91, rfl, o91, b91⟩; have r91 := o91.read) | (go_at_call 9; refine (HEQ.out _ _ _ hHeld.2.2.1 r91).mono ?_; rintro e w92 ⟨rfl, b92⟩))))
    (try (go_wp2_with fail))
    refine hK.out _ _ ?_ (fun hHeld => ?_)
    · ((try dsimp only); (first | exact keepXD hHeld b92 | exact keepXD hHeld b91 | exact ⟨⟨⟨pb, qb⟩, db, eb⟩, ⟨xbx, xby⟩, r1, hb.drew⟩))
    clear hK K
    (try simp only [Act.put, List.getElem_toArray, List.getElem_cons_succ, List.getElem_cons_zero, List.setIfInBounds_toArray, List.set_cons_zero, List.set_cons_succ])
    refine wpAnyH_ready (rs := [3]) (by kernel_rfl) (by simp) (AllReadyH.cons rfl (fun K hK => ?_) AllReadyH.nil)
    (first | ((first | (go_at_call 6; refine (HTO.out _ (HBX.out _ hHeld.2.2.2).1).mono ?_; rintro e w91 ⟨v91, rfl, o91, b91⟩; have r91 := o91.read) | (go_at_call 9; refine (HEQ.out _ _ _ hHeld.2.2.1 r91).mono ?_; rintro e w92 ⟨rfl, b92⟩))) | (go_simp; (first | (go_at_call 6; refine (HTO.out _ (HBX.out _ hHeld.2.2.2).1).mono ?_; rintro e w91 ⟨v91, rfl, o91, b91⟩; have r91 := o91.read) | (go_at_call 9; refine (HEQ.out _ _ _ hHeld.2.2.1 r91).mono ?_; rintro e w92 ⟨rfl, b92⟩))))
    (try (go_wp2_with fail))
    refine hK.out _ _ ?_ (fun hHeld => ?_)
    · ((try dsimp only); (first | exact keepXD hHeld b92 | exact keepXD hHeld b91 | exact ⟨⟨⟨pb, qb⟩, db, eb⟩, ⟨xbx, xby⟩, r1, hb.drew⟩))
    clear hK K
    (try simp only [Act.put, List.getElem_toArray, List.getElem_cons_succ, List.getElem_cons_zero, List.setIfInBounds_toArray, List.set_cons_zero, List.set_cons_succ])
    refine wpAnyH_take (i := 4) (v := ?_) rfl (by kernel_rfl) (by kernel_rfl) (by kernel_rfl) (fun _ _ _ h => h) (Or.inl ⟨by rfl, ?_⟩) (by assumption) ?_
    rotate_left
    · (intro w hSw; (try dsimp only at hSw); go_simp; (try with_reducible rfl))
    (try simp only [Act.put, List.getElem_toArray, List.getElem_cons_succ, List.getElem_cons_zero, List.setIfInBounds_toArray, List.set_cons_zero, List.set_cons_succ])
    refine wpAnyH_done (by kernel_rfl) ?_ _
    refine NoPanic.normal ?_
    have hbe := (HBX.out _ hHeld.2.2.2).1
    clear hHeld b91 b92 r91 o91
    go_wp2_with fail
    go_ret
    exact ⟨rfl, hbe⟩
  · rw [szD_no (by omega)] at HSZ
    obtain ⟨a, cap, rfl, -⟩ := hr
    obtain ⟨-, ⟨pb, qb⟩, db, eb⟩ := HBX.out _ HRF.out
    go_enter Try.func3, Try.ntmps3
    go_wp2_with fail
    refine (HSZ.out _ (HBX.out _ HRF.out).1).mono ?_
    rintro e w1 ⟨rfl, b1⟩
    go_wp2_with fail
    go_ret
    exact ⟨rfl, (HBX.out _ (HRF.out.trans (b1.mono HRF.out.size))).1⟩

set_option linter.unusedVariables false
set_option maxRecDepth 100000 in
theorem lifted (os : Os) (started : os.Started) (H : Type) (enc : TypeId × Value → H) :
    ReturnsInHanded {} Try.checked os 3 .any (Rows.fnExactIsMinimalDepSpec.pre6 enc Try.prog Try.f3 Rows.fnExactIsMinimalDepRow.domain false) (Rows.fnExactIsMinimalDepSpec.post enc Try.prog Try.f3 false true false false) := by
  refine returnsInHanded_of_change (C := Try.checked) own started (by kernel_rfl) Try.func3
    (ChangeSpec.witness6 (enc := enc) (C := Try.checked) false ⟨#[], #[.agg #[.int .i64 0, .slice none 0 0], .int .i64 0, .agg #[.int .i64 0, .int .i64 0]], []⟩ 8 (by kernel_rfl) (by kernel_rfl) (by kernel_rfl) (by kernel_rfl)) ?_
  intro W base args ds gs before hval0 hW hcnd _
  have hval : ∀ (j : Nat) t v, Try.f3.params[j]? = some t → args[j]? = some v → Value.okWide Try.prog W .any base t v := hval0
  have hW' := hW
  obtain ⟨p, q, hA0, hV, rfl, hfz, hnd⟩ := hW
  have hA : DataW.TrodAll enc Try.prog W 0 (fun _ => true) true Try.f3.params.toList args.toList ds p := hA0
  rw [Try.params3] at hA hval
  obtain ⟨v0, vs0, d0, ds0, p0, q0, hargs, rfl, rfl, h0, r0⟩ := trodAll_cons hA
  obtain ⟨v1, vs1, d1, ds1, p1, q1, rfl, rfl, rfl, h1, r1⟩ := trodAll_cons r0
  obtain ⟨v2, vs2, d2, ds2, p2, q2, rfl, rfl, rfl, h2, r2⟩ := trodAll_cons r1
  obtain ⟨rfl, rfl, rfl⟩ := trodAll_nil r2
  obtain rfl : args = #[v0, v1, v2] := by cases args; simp_all
  obtain ⟨rfl, rfl⟩ := trodVars_none hV
  have k0 := h0
  have lt0 : ∀ x ∈ p0, x.block < W.heap.size := by obtain ⟨m, hm⟩ := k0; exact DataW.trod_lt m _ _ _ hm
  obtain ⟨c0, u0, ll0, rfl, w0, r0r, s0⟩ := open_table (hval 0 24 v0 rfl rfl) k0
  obtain ⟨a1, rfl, rfl, rfl, w1⟩ := open_int Try.underlying3 (hval 1 3 v1 rfl rfl) h1
  have k2 := h2
  have lt2 : ∀ x ∈ p2, x.block < W.heap.size := by obtain ⟨m, hm⟩ := k2; exact DataW.trod_lt m _ _ _ hm
  obtain ⟨x2, y2, rfl, w2, w2b⟩ := open_dep (hval 2 26 v2 rfl rfl) k2
  clear hA0 hval0
  refine (walk c0 u0 ll0 a1 x2 y2 w0 w1 w2 w2b W r0r s0).mono fun e W' ⟨he, hg⟩ => ?_
  subst he
  exact ⟨_, rfl, ⟨_, _, _, [], _, [], hW', trodAll_cons_mk (shut_bool Try.underlying4 _) trodAll_mk0, (trodAll_cons_mk (Below.trod laidOut (by kernel_rfl) (of_decide_eq_true (by kernel_rfl)) k0 hg lt0) (trodAll_cons_mk (shut_int Try.underlying3 w1) (trodAll_cons_mk (Below.trod laidOut (by kernel_rfl) (of_decide_eq_true (by kernel_rfl)) k2 hg lt2) trodAll_mk0))), rfl, hg.frame _, fun h => by cases h⟩⟩

theorem over : Rows.fnExactIsMinimalDepRow.holds Try.pinned (OpenSpec.ofChange Rows.fnExactIsMinimalDepSpec) :=
  OpenClaim.holds_of_wide 3 Try.f3 rfl rfl rfl rfl rfl rfl rfl ⟨rfl, rfl, rfl, rfl, rfl⟩ rfl rfl rfl rfl rfl (by kernel_rfl) Try.func3 (by kernel_rfl)
    (of_decide_eq_true (by kernel_rfl)) (by unfold Func.isWrapper; first | (rw [if_pos (by decide +kernel)]; kernel_rfl) | (rw [if_neg (by decide +kernel)]; exact ⟨rfl, rfl⟩))
    (fun os started H enc _ => lifted os started H enc)

theorem proved : Rows.FnExactIsMinimalDepSaid := over
end Go.Proofs.Ytlecfkfcjhliiaa.lawFnExactIsMinimalDep
