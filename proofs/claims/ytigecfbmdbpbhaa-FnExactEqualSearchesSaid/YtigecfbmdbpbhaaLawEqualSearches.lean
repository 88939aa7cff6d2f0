/- EqualSearches answers as its model at every argument; it writes into no argument; its answer owns its memory. Conditions: none beyond the row's own. -/
import Derived.Test.YtigecfbmdbpbhaaSa22
import Derived.Test.YtigecfbmdbpbhaaSa30
import Derived.Test.YtigecfbmdbpbhaaSa23
namespace Go.Proofs.Ytigecfbmdbpbhaa.lawFnExactEqualSearches
open Go.ChangeShapes Go.WideShapes Go.ChangeAt Go.RowKit
theorem laidOut : laidOutB Try.prog = true := by kernel_rfl

theorem own : ownKnob Try.prog.godebug = none := by kernel_rfl

set_option maxRecDepth 40000 in
set_option maxHeartbeats 6400000 in
theorem walk (c : Int) (v : Value) (m at_ : Int) (f : Value) (t : Int) (ll : List (List Int)) (F : List (Int × Int)) (c' : Int) (v' : Value) (m' at' : Int) (f' : Value) (t' : Int) (ll' : List (List Int)) (F' : List (Int × Int)) (w : World) (hr : ReadSS w v ll) (hs : Short ll) (hf : ReadD w f F) (hm : F.length ≤ maxLen) (hr' : ReadSS w v' ll') (hs' : Short ll') (hf' : ReadD w f' F') (hm' : F'.length ≤ maxLen) :
    Calls Try.prog 8 #[srcV c v m at_ f t, srcV c' v' m' at' f' t'] w fun e w' => e = .returned (.bool true) ∧ Below w.heap.size w w' := by
  unfold maxLen at hm hm'
  have HZ := Lib.hid (fun w' (hb : Below w.heap.size w w') => szSearch_any c m at_ t v f ll F w' (hr.kept hb) hs (hf.kept hb) (by omega))
  have HZ2 := Lib.hid (fun L h0 h1 w' (hb : Below w.heap.size w w') => szSearchL_any L c' m' at' t' h0 h1 v' f' ll' F' w' (hr'.kept hb) hs' (hf'.kept hb) (by omega))
  have HRA := Lib.hid (And.intro hr hf)
  have HRB := Lib.hid (And.intro hr' hf')
  obtain ⟨a, cap, rfl, -⟩ := hr
  obtain ⟨af, capf, rfl, -⟩ := hf
  obtain ⟨a', cap', rfl, -⟩ := hr'
  obtain ⟨af', capf', rfl, -⟩ := hf'
  have hb1 := (Below.refl w.heap.size w).alloc (Nat.le_refl _) (.cells #[.int .i64 c, .slice a ll.length cap, .int .i64 m, .int .i64 at_, .slice af F.length capf, .int .i64 t] 40)
  have h12 := (Below.refl (w.alloc (.cells #[.int .i64 c, .slice a ll.length cap, .int .i64 m, .int .i64 at_, .slice af F.length capf, .int .i64 t] 40)).heap.size _).alloc (Nat.le_refl _) (.cells #[.int .i64 c', .slice a' ll'.length cap', .int .i64 m', .int .i64 at', .slice af' F'.length capf', .int .i64 t'] 40)
  have HB0 := Lib.hid (hb1.trans (h12.mono hb1.size))
  have HPA := Lib.hid ((SBx.mk' w 40 c (.slice a ll.length cap) m at_ (.slice af F.length capf) t).kept h12)
  have hpb := SBx.mk' (w.alloc (.cells #[.int .i64 c, .slice a ll.length cap, .int .i64 m, .int .i64 at_, .slice af F.length capf, .int .i64 t] 40)) 40 c' (.slice a' ll'.length cap') m' at' (.slice af' F'.length capf') t'
  rw [World.size_alloc] at hpb
  have HPB := Lib.hid hpb
  clear hb1 h12 hpb
  have N0 := Lib.hid (Below.refl ((w.alloc (.cells #[.int .i64 c, .slice a ll.length cap, .int .i64 m, .int .i64 at_, .slice af F.length capf, .int .i64 t] 40)).alloc (.cells #[.int .i64 c', .slice a' ll'.length cap', .int .i64 m', .int .i64 at', .slice af' F'.length capf', .int .i64 t'] 40)).heap.size ((w.alloc (.cells #[.int .i64 c, .slice a ll.length cap, .int .i64 m, .int .i64 at_, .slice af F.length capf, .int .i64 t] 40)).alloc (.cells #[.int .i64 c', .slice a' ll'.length cap', .int .i64 m', .int .i64 at', .slice af' F'.length capf', .int .i64 t'] 40)))
  by_cases hsz : ((szOf ll : Nat) : Int) + (F.length : Int) ≤ 1048576
  · rw [show szD2 (szOf ll) F.length = 1048576 - (szOf ll : Int) - (F.length : Int) by unfold szD2; rw [if_pos hsz]] at HZ
    have hneg : ¬ (1048576 - ((szOf ll : Nat) : Int) - (F.length : Int) < 0) := by omega
    obtain ⟨L, hL⟩ : ∃ L, L = 1048576 - ((szOf ll : Nat) : Int) - (F.length : Int) := ⟨_, rfl⟩
    rw [← hL] at HZ hneg
    have HZL := Lib.hid (HZ2.out L (by omega) (by omega))
    by_cases hsz2 : ((szOf ll' : Nat) : Int) + (F'.length : Int) ≤ L
    · rw [show szL2 L (szOf ll') F'.length = L - (szOf ll' : Int) - (F'.length : Int) by unfold szL2; rw [if_pos hsz2]] at HZL
      have hneg2 : ¬ (L - ((szOf ll' : Nat) : Int) - (F'.length : Int) < 0) := by omega
      have hl : ll.length ≤ 1048576 := by unfold szOf at hsz; omega
      have ht : ∀ i, i < ll.length → (ll.getD i []).length ≤ 1048576 := fun i hi => by have := tot_get hi; unfold szOf at hsz; omega
      have hF : F.length ≤ 1048576 := by omega
      have hl' : ll'.length ≤ 1048576 := by unfold szOf at hsz2; omega
      have ht' : ∀ i, i < ll'.length → (ll'.getD i []).length ≤ 1048576 := fun i hi => by have := tot_get hi; unfold szOf at hsz2; omega
      have hF' : F'.length ≤ 1048576 := by omega
      have HTA := Lib.hid (fun w' (hb : Below w.heap.size w w') => toSearch_any c m at_ t _ _ ll F w' (HRA.out.1.kept hb) hl ht (HRA.out.2.kept hb) hF)
      have HTB := Lib.hid (fun w' (hb : Below w.heap.size w w') => toSearch_any c' m' at' t' _ _ ll' F' w' (HRB.out.1.kept hb) hl' ht' (HRB.out.2.kept hb) hF')
      have HEA := Lib.hid (fun (u u' g g' : Value) w' (h1 : ReadSS w' u ll) (h2 : ReadSS w' u' ll) (h3 : ReadD w' g F) (h4 : ReadD w' g' F) => eqSearch_same c m at_ t u u' g g' ll F w' h1 h2 (by omega) (fun i hi => Nat.le_trans (ht i hi) (by decide)) h3 h4 hF)
      have HEB := Lib.hid (fun (u u' g g' : Value) w' (h1 : ReadSS w' u ll') (h2 : ReadSS w' u' ll') (h3 : ReadD w' g F') (h4 : ReadD w' g' F') => eqSearch_same c' m' at' t' u u' g g' ll' F' w' h1 h2 (by omega) (fun i hi => Nat.le_trans (ht' i hi) (by decide)) h3 h4 hF')
      have HS := Lib.hid (fun (u u' g g' : Value) w' (h1 : ReadSS w' u ll) (h2 : ReadSS w' u' ll') (h3 : ReadD w' g F) (h4 : ReadD w' g' F') => equalSearches8_any c c' m m' at_ at' t t' u u' g g' ll ll' F F' w' h1 h2 (by omega) (fun i hi => Nat.le_trans (ht i hi) (by decide)) h3 h4 hF)
      have HI := Lib.hid (fun (u u' g g' : Value) w' (h1 : ReadSS w' u ll) (h2 : ReadSS w' u' ll') (h3 : ReadD w' g F) (h4 : ReadD w' g' F') => implEqualSearches_any c c' m m' at_ at' t t' u u' g g' ll ll' F F' w' h1 h2 (by omega) (fun i hi => Nat.le_trans (ht i hi) (by decide)) h3 h4 hF hF')
      obtain ⟨bb, hbb⟩ : ∃ bb, bb = eqSea c c' ll ll' m m' at_ at' F F' t t' := ⟨_, rfl⟩
      rw [← hbb] at HS HI
      have hbn : (bb != bb) = false := bne_self_eq_false _
      unfold srcV at *
      clear hbb ht ht' hs hs' hm hm' hsz hsz2 hl hl' hF hF' hL HRA HRB
      obtain ⟨⟨p0, p1⟩, ⟨p2, p3⟩, p4, p5⟩ := HPA.out.kept N0.out
      obtain ⟨⟨q0, q1⟩, ⟨q2, q3⟩, q4, q5⟩ := HPB.out.kept N0.out
      go_enter Try.func8, Try.ntmps8
      go_wp2_with fail
      refine (HZ.out _ HB0.out).mono ?_
      rintro e w1 ⟨rfl, b1⟩
      replace N0 := Lib.hid (N0.out.trans (b1.mono N0.out.size))
      clear b1 p0 p1 p2 p3 p4 p5 q0 q1 q2 q3 q4 q5
      obtain ⟨⟨p0, p1⟩, ⟨p2, p3⟩, p4, p5⟩ := HPA.out.kept N0.out
      obtain ⟨⟨q0, q1⟩, ⟨q2, q3⟩, q4, q5⟩ := HPB.out.kept N0.out
      go_wp2_with fail
      refine (HZL.out _ (HB0.out.trans (N0.out.mono HB0.out.size))).mono ?_
      rintro e w2 ⟨rfl, b2⟩
      replace N0 := Lib.hid (N0.out.trans (b2.mono N0.out.size))
      clear b2 p0 p1 p2 p3 p4 p5 q0 q1 q2 q3 q4 q5
      obtain ⟨⟨p0, p1⟩, ⟨p2, p3⟩, p4, p5⟩ := HPA.out.kept N0.out
      obtain ⟨⟨q0, q1⟩, ⟨q2, q3⟩, q4, q5⟩ := HPB.out.kept N0.out
      go_wp2_with fail
      refine wp_region_noPanic ?_
      refine wp_region_held_drew (S := (fun w' => (((w'.cell? ⟨w.heap.size, 0, none⟩ = some (.int .i64 c) ∧ w'.cell? ⟨w.heap.size, 1, none⟩ = some (.slice a ll.length cap)) ∧ (w'.cell? ⟨w.heap.size, 2, none⟩ = some (.int .i64 m) ∧ w'.cell? ⟨w.heap.size, 3, none⟩ = some (.int .i64 at_)) ∧ w'.cell? ⟨w.heap.size, 4, none⟩ = some (.slice af F.length capf) ∧ w'.cell? ⟨w.heap.size, 5, none⟩ = some (.int .i64 t)) ∧ ((w'.cell? ⟨w.heap.size + 1, 0, none⟩ = some (.int .i64 c') ∧ w'.cell? ⟨w.heap.size + 1, 1, none⟩ = some (.slice a' ll'.length cap')) ∧ (w'.cell? ⟨w.heap.size + 1, 2, none⟩ = some (.int .i64 m') ∧ w'.cell? ⟨w.heap.size + 1, 3, none⟩ = some (.int .i64 at')) ∧ w'.cell? ⟨w.heap.size + 1, 4, none⟩ = some (.slice af' F'.length capf') ∧ w'.cell? ⟨w.heap.size + 1, 5, none⟩ = some (.int .i64 t'))) ∧ Below w2.heap.size w2 w')) (by kernel_rfl) ?_ (fun hHeld => ?_)
      · ((try dsimp only); (first | exact keepS2 hHeld b93 | exact keepS2 hHeld b92 | exact keepS2 hHeld b91 | exact ⟨⟨⟨⟨p0, p1⟩, ⟨p2, p3⟩, p4, p5⟩, ⟨q0, q1⟩, ⟨q2, q3⟩, q4, q5⟩, (Below.refl _ _).drew⟩))
      refine wpAnyH_take (i := 0) (v := ?_) rfl (by kernel_rfl) (by kernel_rfl) (by kernel_rfl) (fun _ _ _ h => h) (Or.inl ⟨by rfl, ?_⟩) (by assumption) ?_
      rotate_left
      · (intro w hSw; (try dsimp only at hSw); go_simp; (try with_reducible rfl))
      (try simp only [Act.put, List.getElem_toArray, List.getElem_cons_zero, List.setIfInBounds_toArray, List.set_cons_zero, List.set_cons_succ])
      refine wpAnyH_take (i := 2) (v := ?_) rfl (by kernel_rfl) (by kernel_rfl) (by kernel_rfl) (fun _ _ _ h => h) (Or.inl ⟨by rfl, ?_⟩) (by assumption) ?_
      rotate_left
      · (intro w hSw; (try dsimp only at hSw); go_simp; (try with_reducible rfl))
      (try simp only [Act.put, List.getElem_toArray, List.getElem_cons_succ, List.getElem_cons_zero, List.setIfInBounds_toArray, List.set_cons_zero, List.set_cons_succ])
      refine wpAnyH_ready (rs := [1]) (by kernel_rfl) (by simp) (AllReadyH.cons rfl (fun K hK => ?_) AllReadyH.nil)
      (first | ((first | (go_at_call 20; refine (HTA.out _ ((HB0.out.trans (N0.out.mono HB0.out.size)).trans (hHeld.2.mono (HB0.out.trans (N0.out.mono HB0.out.size)).size))).mono ?_; rintro e w91 ⟨u8, g8, C8, rfl, ou8, og8, -, -, b91⟩; have HR8 := Lib.hid (And.intro ou8.read og8.read); clear ou8 og8; obtain ⟨au8, cu8, rfl, -⟩ := HR8.out.1; obtain ⟨ag8, cg8, rfl, -⟩ := HR8.out.2; unfold srcV))) | (go_simp; (first | (go_at_call 20; refine (HTA.out _ ((HB0.out.trans (N0.out.mono HB0.out.size)).trans (hHeld.2.mono (HB0.out.trans (N0.out.mono HB0.out.size)).size))).mono ?_; rintro e w91 ⟨u8, g8, C8, rfl, ou8, og8, -, -, b91⟩; have HR8 := Lib.hid (And.intro ou8.read og8.read); clear ou8 og8; obtain ⟨au8, cu8, rfl, -⟩ := HR8.out.1; obtain ⟨ag8, cg8, rfl, -⟩ := HR8.out.2; unfold srcV))))
      (try (go_wp2_with fail))
      refine hK.out _ _ ?_ (fun hHeld => ?_)
      · ((try dsimp only); (first | exact keepS2 hHeld b93 | exact keepS2 hHeld b92 | exact keepS2 hHeld b91 | exact ⟨⟨⟨⟨p0, p1⟩, ⟨p2, p3⟩, p4, p5⟩, ⟨q0, q1⟩, ⟨q2, q3⟩, q4, q5⟩, (Below.refl _ _).drew⟩))
      clear hK K
      (try simp only [Act.put, List.getElem_toArray, List.getElem_cons_succ, List.getElem_cons_zero, List.setIfInBounds_toArray, List.set_cons_zero, List.set_cons_succ])
      refine wpAnyH_ready (rs := [3]) (by kernel_rfl) (by simp) (AllReadyH.cons rfl (fun K hK => ?_) AllReadyH.nil)
      (first | ((first | (go_at_call 20; refine (HTB.out _ ((HB0.out.trans (N0.out.mono HB0.out.size)).trans (hHeld.2.mono (HB0.out.trans (N0.out.mono HB0.out.size)).size))).mono ?_; rintro e w92 ⟨u9, g9, C9, rfl, ou9, og9, -, -, b92⟩; have HR9 := Lib.hid (And.intro ou9.read og9.read); have HR8' := Lib.hid (And.intro (HR8.out.1.kept b92) (HR8.out.2.kept b92)); clear ou9 og9; obtain ⟨au9, cu9, rfl, -⟩ := HR9.out.1; obtain ⟨ag9, cg9, rfl, -⟩ := HR9.out.2; unfold srcV))) | (go_simp; (first | (go_at_call 20; refine (HTB.out _ ((HB0.out.trans (N0.out.mono HB0.out.size)).trans (hHeld.2.mono (HB0.out.trans (N0.out.mono HB0.out.size)).size))).mono ?_; rintro e w92 ⟨u9, g9, C9, rfl, ou9, og9, -, -, b92⟩; have HR9 := Lib.hid (And.intro ou9.read og9.read); have HR8' := Lib.hid (And.intro (HR8.out.1.kept b92) (HR8.out.2.kept b92)); clear ou9 og9; obtain ⟨au9, cu9, rfl, -⟩ := HR9.out.1; obtain ⟨ag9, cg9, rfl, -⟩ := HR9.out.2; unfold srcV))))
      (try (go_wp2_with fail))
      refine hK.out _ _ ?_ (fun hHeld => ?_)
      · ((try dsimp only); (first | exact keepS2 hHeld b93 | exact keepS2 hHeld b92 | exact keepS2 hHeld b91 | exact ⟨⟨⟨⟨p0, p1⟩, ⟨p2, p3⟩, p4, p5⟩, ⟨q0, q1⟩, ⟨q2, q3⟩, q4, q5⟩, (Below.refl _ _).drew⟩))
      clear hK K
      (try simp only [Act.put, List.getElem_toArray, List.getElem_cons_succ, List.getElem_cons_zero, List.setIfInBounds_toArray, List.set_cons_zero, List.set_cons_succ])
      refine wpAnyH_ready (rs := [4]) (by kernel_rfl) (by simp) (AllReadyH.cons rfl (fun K hK => ?_) AllReadyH.nil)
      (first | ((go_at_call 29; refine (HS.out _ _ _ _ _ HR8'.out.1 HR9.out.1 HR8'.out.2 HR9.out.2).mono ?_; rintro e w93 ⟨rfl, b93⟩)) | (go_simp; (go_at_call 29; refine (HS.out _ _ _ _ _ HR8'.out.1 HR9.out.1 HR8'.out.2 HR9.out.2).mono ?_; rintro e w93 ⟨rfl, b93⟩)))
      (try (go_wp2_with fail))
      refine hK.out _ _ ?_ (fun hHeld => ?_)
      · ((try dsimp only); (first | exact keepS2 hHeld b93 | exact keepS2 hHeld b92 | exact keepS2 hHeld b91 | exact ⟨⟨⟨⟨p0, p1⟩, ⟨p2, p3⟩, p4, p5⟩, ⟨q0, q1⟩, ⟨q2, q3⟩, q4, q5⟩, (Below.refl _ _).drew⟩))
      clear hK K
      (try simp only [Act.put, List.getElem_toArray, List.getElem_cons_succ, List.getElem_cons_zero, List.setIfInBounds_toArray, List.set_cons_zero, List.set_cons_succ])
      refine wpAnyH_take (i := 5) (v := ?_) rfl (by kernel_rfl) (by kernel_rfl) (by kernel_rfl) (fun _ _ _ h => h) (Or.inl ⟨by rfl, ?_⟩) (by assumption) ?_
      rotate_left
      · (intro w hSw; (try dsimp only at hSw); go_simp; (try with_reducible rfl))
      (try simp only [Act.put, List.getElem_toArray, List.getElem_cons_succ, List.getElem_cons_zero, List.setIfInBounds_toArray, List.set_cons_zero, List.set_cons_succ])
      refine wpAnyH_done (by kernel_rfl) ?_ _
      refine NoPanic.normal ?_
      obtain ⟨w3, hw3⟩ : ∃ w3, w3 = w93 := ⟨_, rfl⟩
      have b3 := hHeld.2
      rw [← hw3] at b3 ⊢
      replace N0 := Lib.hid (N0.out.trans (b3.mono N0.out.size))
      clear b3 hHeld hw3 b93 p0 p1 p2 p3 p4 p5 q0 q1 q2 q3 q4 q5
      obtain ⟨⟨p0, p1⟩, ⟨p2, p3⟩, p4, p5⟩ := HPA.out.kept N0.out
      go_wp2_with fail
      refine (HTA.out _ (HB0.out.trans (N0.out.mono HB0.out.size))).mono ?_
      rintro e w4 ⟨ux, gx, Cx, rfl, ou, og, -, -, b4⟩
      obtain ⟨ax, kx, rfl, -⟩ := ou.read
      obtain ⟨ex, jx, rfl⟩ := og.shape
      have Hx := Lib.hid (Fz.laid (c := c) (m := m) (at_ := at_) (t := t) ou.read og.read)
      have hal := (Below.refl w4.heap.size w4).alloc (Nat.le_refl _) (.cells #[.int .i64 c, .slice ax ll.length kx, .int .i64 m, .int .i64 at_, .slice ex F.length jx, .int .i64 t] 29)
      replace N0 := Lib.hid (N0.out.trans (b4.mono N0.out.size))
      replace N0 := Lib.hid (N0.out.trans (hal.mono N0.out.size))
      unfold srcV
      clear b4 hal ou og p0 p1 p2 p3 p4 p5
      obtain ⟨⟨q0, q1⟩, ⟨q2, q3⟩, q4, q5⟩ := HPB.out.kept N0.out
      go_wp2_with fail
      refine (HTB.out _ (HB0.out.trans (N0.out.mono HB0.out.size))).mono ?_
      rintro e w5 ⟨uz, gz, Cz, rfl, ou, og, -, -, b5⟩
      obtain ⟨az, kz, rfl, -⟩ := ou.read
      obtain ⟨ez, jz, rfl⟩ := og.shape
      have Hz := Lib.hid (Fz.laid (c := c') (m := m') (at_ := at') (t := t') ou.read og.read)
      have hal := (Below.refl w5.heap.size w5).alloc (Nat.le_refl _) (.cells #[.int .i64 c', .slice az ll'.length kz, .int .i64 m', .int .i64 at', .slice ez F'.length jz, .int .i64 t'] 29)
      replace N0 := Lib.hid (N0.out.trans (b5.mono N0.out.size))
      replace N0 := Lib.hid (N0.out.trans (hal.mono N0.out.size))
      replace Hx := Lib.hid ((Hx.out.kept b5).kept hal)
      unfold srcV
      clear b5 hal ou og q0 q1 q2 q3 q4 q5
      obtain ⟨⟨x0, x1⟩, ⟨x2, x3⟩, x4, x5⟩ := Hx.out.bx
      obtain ⟨⟨z0, z1⟩, ⟨z2, z3⟩, z4, z5⟩ := Hz.out.bx
      go_wp2_with fail
      refine (HI.out _ _ _ _ _ Hx.out.rs Hz.out.rs Hx.out.rd Hz.out.rd).mono ?_
      rintro e w6 ⟨rfl, b6⟩
      replace N0 := Lib.hid (N0.out.trans (b6.mono N0.out.size))
      replace Hx := Lib.hid (Hx.out.kept b6)
      replace Hz := Lib.hid (Hz.out.kept b6)
      clear b6 x0 x1 x2 x3 x4 x5 z0 z1 z2 z3 z4 z5
      obtain ⟨⟨p0, p1⟩, ⟨p2, p3⟩, p4, p5⟩ := HPA.out.kept N0.out
      obtain ⟨⟨x0, x1⟩, ⟨x2, x3⟩, x4, x5⟩ := Hx.out.bx
      go_wp2_with fail
      refine wp_region_noPanic ?_
      refine wp_region_held_drew (S := (fun w' => (((w'.cell? ⟨w.heap.size, 0, none⟩ = some (.int .i64 c) ∧ w'.cell? ⟨w.heap.size, 1, none⟩ = some (.slice a ll.length cap)) ∧ (w'.cell? ⟨w.heap.size, 2, none⟩ = some (.int .i64 m) ∧ w'.cell? ⟨w.heap.size, 3, none⟩ = some (.int .i64 at_)) ∧ w'.cell? ⟨w.heap.size, 4, none⟩ = some (.slice af F.length capf) ∧ w'.cell? ⟨w.heap.size, 5, none⟩ = some (.int .i64 t)) ∧ ((w'.cell? ⟨w4.heap.size, 0, none⟩ = some (.int .i64 c) ∧ w'.cell? ⟨w4.heap.size, 1, none⟩ = some (.slice ax ll.length kx)) ∧ (w'.cell? ⟨w4.heap.size, 2, none⟩ = some (.int .i64 m) ∧ w'.cell? ⟨w4.heap.size, 3, none⟩ = some (.int .i64 at_)) ∧ w'.cell? ⟨w4.heap.size, 4, none⟩ = some (.slice ex F.length jx) ∧ w'.cell? ⟨w4.heap.size, 5, none⟩ = some (.int .i64 t))) ∧ Below w6.heap.size w6 w')) (by kernel_rfl) ?_ (fun hHeld => ?_)
      · ((try dsimp only); (first | exact keepS2 hHeld b92 | exact keepS2 hHeld b91 | exact ⟨⟨⟨⟨p0, p1⟩, ⟨p2, p3⟩, p4, p5⟩, ⟨x0, x1⟩, ⟨x2, x3⟩, x4, x5⟩, (Below.refl _ _).drew⟩))
      refine wpAnyH_take (i := 0) (v := ?_) rfl (by kernel_rfl) (by kernel_rfl) (by kernel_rfl) (fun _ _ _ h => h) (Or.inl ⟨by rfl, ?_⟩) (by assumption) ?_
      rotate_left
      · (intro w hSw; (try dsimp only at hSw); go_simp; (try with_reducible rfl))
      (try simp only [Act.put, List.getElem_toArray, List.getElem_cons_zero, List.setIfInBounds_toArray, List.set_cons_zero, List.set_cons_succ])
      refine wpAnyH_take (i := 1) (v := ?_) rfl (by kernel_rfl) (by kernel_rfl) (by kernel_rfl) (fun _ _ _ h => h) (Or.inl ⟨by rfl, ?_⟩) (by assumption) ?_
      rotate_left
      · (intro w hSw; (try dsimp only at hSw); go_simp; (try with_reducible rfl))
      (try simp only [Act.put, List.getElem_toArray, List.getElem_cons_succ, List.getElem_cons_zero, List.setIfInBounds_toArray, List.set_cons_zero, List.set_cons_succ])
      refine wpAnyH_ready (rs := [2]) (by kernel_rfl) (by simp) (AllReadyH.cons rfl (fun K hK => ?_) AllReadyH.nil)
      (first | ((first | (go_at_call 20; refine (HTA.out _ ((HB0.out.trans (N0.out.mono HB0.out.size)).trans (hHeld.2.mono (HB0.out.trans (N0.out.mono HB0.out.size)).size))).mono ?_; rintro e w91 ⟨u9, g9, C9, rfl, ou9, og9, -, -, b91⟩; have HR9 := Lib.hid (And.intro ou9.read og9.read); clear ou9 og9; obtain ⟨au9, capu9, rfl, -⟩ := HR9.out.1; obtain ⟨ag9, capg9, rfl, -⟩ := HR9.out.2; unfold srcV))) | (go_simp; (first | (go_at_call 20; refine (HTA.out _ ((HB0.out.trans (N0.out.mono HB0.out.size)).trans (hHeld.2.mono (HB0.out.trans (N0.out.mono HB0.out.size)).size))).mono ?_; rintro e w91 ⟨u9, g9, C9, rfl, ou9, og9, -, -, b91⟩; have HR9 := Lib.hid (And.intro ou9.read og9.read); clear ou9 og9; obtain ⟨au9, capu9, rfl, -⟩ := HR9.out.1; obtain ⟨ag9, capg9, rfl, -⟩ := HR9.out.2; unfold srcV))))
      (try (go_wp2_with fail))
      refine hK.out _ _ ?_ (fun hHeld => ?_)
      · ((try dsimp only); (first | exact keepS2 hHeld b92 | exact keepS2 hHeld b91 | exact ⟨⟨⟨⟨p0, p1⟩, ⟨p2, p3⟩, p4, p5⟩, ⟨x0, x1⟩, ⟨x2, x3⟩, x4, x5⟩, (Below.refl _ _).drew⟩))
      clear hK K
      (try simp only [Act.put, List.getElem_toArray, List.getElem_cons_succ, List.getElem_cons_zero, List.setIfInBounds_toArray, List.set_cons_zero, List.set_cons_succ])
      refine wpAnyH_ready (rs := [3]) (by kernel_rfl) (by simp) (AllReadyH.cons rfl (fun K hK => ?_) AllReadyH.nil)
      (first | ((go_at_call 13; refine (HEA.out _ _ _ _ _ (Hx.out.rs.kept hHeld.2) HR9.out.1 (Hx.out.rd.kept hHeld.2) HR9.out.2).mono ?_; rintro e w92 ⟨rfl, b92⟩)) | (go_simp; (go_at_call 13; refine (HEA.out _ _ _ _ _ (Hx.out.rs.kept hHeld.2) HR9.out.1 (Hx.out.rd.kept hHeld.2) HR9.out.2).mono ?_; rintro e w92 ⟨rfl, b92⟩)))
      (try (go_wp2_with fail))
      refine hK.out _ _ ?_ (fun hHeld => ?_)
      · ((try dsimp only); (first | exact keepS2 hHeld b92 | exact keepS2 hHeld b91 | exact ⟨⟨⟨⟨p0, p1⟩, ⟨p2, p3⟩, p4, p5⟩, ⟨x0, x1⟩, ⟨x2, x3⟩, x4, x5⟩, (Below.refl _ _).drew⟩))
      clear hK K
      (try simp only [Act.put, List.getElem_toArray, List.getElem_cons_succ, List.getElem_cons_zero, List.setIfInBounds_toArray, List.set_cons_zero, List.set_cons_succ])
      refine wpAnyH_take (i := 4) (v := ?_) rfl (by kernel_rfl) (by kernel_rfl) (by kernel_rfl) (fun _ _ _ h => h) (Or.inl ⟨by rfl, ?_⟩) (by assumption) ?_
      rotate_left
      · (intro w hSw; (try dsimp only at hSw); go_simp; (try with_reducible rfl))
      (try simp only [Act.put, List.getElem_toArray, List.getElem_cons_succ, List.getElem_cons_zero, List.setIfInBounds_toArray, List.set_cons_zero, List.set_cons_succ])
      refine wpAnyH_done (by kernel_rfl) ?_ _
      refine NoPanic.normal ?_
      obtain ⟨w7, hw7⟩ : ∃ w7, w7 = w92 := ⟨_, rfl⟩
      have b7 := hHeld.2
      rw [← hw7] at b7 ⊢
      replace N0 := Lib.hid (N0.out.trans (b7.mono N0.out.size))
      replace Hz := Lib.hid (Hz.out.kept b7)
      clear b7 hHeld hw7 b92 Hx p0 p1 p2 p3 p4 p5 x0 x1 x2 x3 x4 x5
      obtain ⟨⟨q0, q1⟩, ⟨q2, q3⟩, q4, q5⟩ := HPB.out.kept N0.out
      obtain ⟨⟨z0, z1⟩, ⟨z2, z3⟩, z4, z5⟩ := Hz.out.bx
      go_wp2_with fail
      refine wp_region_noPanic ?_
      refine wp_region_held_drew (S := (fun w' => (((w'.cell? ⟨w.heap.size + 1, 0, none⟩ = some (.int .i64 c') ∧ w'.cell? ⟨w.heap.size + 1, 1, none⟩ = some (.slice a' ll'.length cap')) ∧ (w'.cell? ⟨w.heap.size + 1, 2, none⟩ = some (.int .i64 m') ∧ w'.cell? ⟨w.heap.size + 1, 3, none⟩ = some (.int .i64 at')) ∧ w'.cell? ⟨w.heap.size + 1, 4, none⟩ = some (.slice af' F'.length capf') ∧ w'.cell? ⟨w.heap.size + 1, 5, none⟩ = some (.int .i64 t')) ∧ ((w'.cell? ⟨w5.heap.size, 0, none⟩ = some (.int .i64 c') ∧ w'.cell? ⟨w5.heap.size, 1, none⟩ = some (.slice az ll'.length kz)) ∧ (w'.cell? ⟨w5.heap.size, 2, none⟩ = some (.int .i64 m') ∧ w'.cell? ⟨w5.heap.size, 3, none⟩ = some (.int .i64 at')) ∧ w'.cell? ⟨w5.heap.size, 4, none⟩ = some (.slice ez F'.length jz) ∧ w'.cell? ⟨w5.heap.size, 5, none⟩ = some (.int .i64 t'))) ∧ Below w7.heap.size w7 w')) (by kernel_rfl) ?_ (fun hHeld => ?_)
      · ((try dsimp only); (first | exact keepS2 hHeld b92 | exact keepS2 hHeld b91 | exact ⟨⟨⟨⟨q0, q1⟩, ⟨q2, q3⟩, q4, q5⟩, ⟨z0, z1⟩, ⟨z2, z3⟩, z4, z5⟩, (Below.refl _ _).drew⟩))
      refine wpAnyH_take (i := 0) (v := ?_) rfl (by kernel_rfl) (by kernel_rfl) (by kernel_rfl) (fun _ _ _ h => h) (Or.inl ⟨by rfl, ?_⟩) (by assumption) ?_
      rotate_left
      · (intro w hSw; (try dsimp only at hSw); go_simp; (try with_reducible rfl))
      (try simp only [Act.put, List.getElem_toArray, List.getElem_cons_zero, List.setIfInBounds_toArray, List.set_cons_zero, List.set_cons_succ])
      refine wpAnyH_take (i := 1) (v := ?_) rfl (by kernel_rfl) (by kernel_rfl) (by kernel_rfl) (fun _ _ _ h => h) (Or.inl ⟨by rfl, ?_⟩) (by assumption) ?_
      rotate_left
      · (intro w hSw; (try dsimp only at hSw); go_simp; (try with_reducible rfl))
      (try simp only [Act.put, List.getElem_toArray, List.getElem_cons_succ, List.getElem_cons_zero, List.setIfInBounds_toArray, List.set_cons_zero, List.set_cons_succ])
      refine wpAnyH_ready (rs := [2]) (by kernel_rfl) (by simp) (AllReadyH.cons rfl (fun K hK => ?_) AllReadyH.nil)
      (first | ((first | (go_at_call 20; refine (HTB.out _ ((HB0.out.trans (N0.out.mono HB0.out.size)).trans (hHeld.2.mono (HB0.out.trans (N0.out.mono HB0.out.size)).size))).mono ?_; rintro e w91 ⟨u9, g9, C9, rfl, ou9, og9, -, -, b91⟩; have HR9 := Lib.hid (And.intro ou9.read og9.read); clear ou9 og9; obtain ⟨au9, capu9, rfl, -⟩ := HR9.out.1; obtain ⟨ag9, capg9, rfl, -⟩ := HR9.out.2; unfold srcV))) | (go_simp; (first | (go_at_call 20; refine (HTB.out _ ((HB0.out.trans (N0.out.mono HB0.out.size)).trans (hHeld.2.mono (HB0.out.trans (N0.out.mono HB0.out.size)).size))).mono ?_; rintro e w91 ⟨u9, g9, C9, rfl, ou9, og9, -, -, b91⟩; have HR9 := Lib.hid (And.intro ou9.read og9.read); clear ou9 og9; obtain ⟨au9, capu9, rfl, -⟩ := HR9.out.1; obtain ⟨ag9, capg9, rfl, -⟩ := HR9.out.2; unfold srcV))))
      (try (go_wp2_with fail))
      refine hK.out _ _ ?_ (fun hHeld => ?_)
      · ((try dsimp only); (first | exact keepS2 hHeld b92 | exact keepS2 hHeld b91 | exact ⟨⟨⟨⟨q0, q1⟩, ⟨q2, q3⟩, q4, q5⟩, ⟨z0, z1⟩, ⟨z2, z3⟩, z4, z5⟩, (Below.refl _ _).drew⟩))
      clear hK K
      (try simp only [Act.put, List.getElem_toArray, List.getElem_cons_succ, List.getElem_cons_zero, List.setIfInBounds_toArray, List.set_cons_zero, List.set_cons_succ])
      refine wpAnyH_ready (rs := [3]) (by kernel_rfl) (by simp) (AllReadyH.cons rfl (fun K hK => ?_) AllReadyH.nil)
      (first | ((go_at_call 13; refine (HEB.out _ _ _ _ _ (Hz.out.rs.kept hHeld.2) HR9.out.1 (Hz.out.rd.kept hHeld.2) HR9.out.2).mono ?_; rintro e w92 ⟨rfl, b92⟩)) | (go_simp; (go_at_call 13; refine (HEB.out _ _ _ _ _ (Hz.out.rs.kept hHeld.2) HR9.out.1 (Hz.out.rd.kept hHeld.2) HR9.out.2).mono ?_; rintro e w92 ⟨rfl, b92⟩)))
      (try (go_wp2_with fail))
      refine hK.out _ _ ?_ (fun hHeld => ?_)
      · ((try dsimp only); (first | exact keepS2 hHeld b92 | exact keepS2 hHeld b91 | exact ⟨⟨⟨⟨q0, q1⟩, ⟨q2, q3⟩, q4, q5⟩, ⟨z0, z1⟩, ⟨z2, z3⟩, z4, z5⟩, (Below.refl _ _).drew⟩))
      clear hK K
      (try simp only [Act.put, List.getElem_toArray, List.getElem_cons_succ, List.getElem_cons_zero, List.setIfInBounds_toArray, List.set_cons_zero, List.set_cons_succ])
      refine wpAnyH_take (i := 4) (v := ?_) rfl (by kernel_rfl) (by kernel_rfl) (by kernel_rfl) (fun _ _ _ h => h) (Or.inl ⟨by rfl, ?_⟩) (by assumption) ?_
      rotate_left
      · (intro w hSw; (try dsimp only at hSw); go_simp; (try with_reducible rfl))
      (try simp only [Act.put, List.getElem_toArray, List.getElem_cons_succ, List.getElem_cons_zero, List.setIfInBounds_toArray, List.set_cons_zero, List.set_cons_succ])
      refine wpAnyH_done (by kernel_rfl) ?_ _
      refine NoPanic.normal ?_
      have hb9 := (HB0.out.trans (N0.out.mono HB0.out.size)).trans (hHeld.2.mono (HB0.out.trans (N0.out.mono HB0.out.size)).size)
      go_wp2_with fail
      go_ret
      exact ⟨rfl, hb9⟩
    · rw [show szL2 L (szOf ll') F'.length = -1 by unfold szL2; rw [if_neg hsz2]] at HZL
      unfold srcV at *
      obtain ⟨⟨p0, p1⟩, ⟨p2, p3⟩, p4, p5⟩ := HPA.out.kept N0.out
      obtain ⟨⟨q0, q1⟩, ⟨q2, q3⟩, q4, q5⟩ := HPB.out.kept N0.out
      clear hL
      go_enter Try.func8, Try.ntmps8
      go_wp2_with fail
      refine (HZ.out _ HB0.out).mono ?_
      rintro e w1 ⟨rfl, b1⟩
      replace N0 := Lib.hid (N0.out.trans (b1.mono N0.out.size))
      clear b1 p0 p1 p2 p3 p4 p5 q0 q1 q2 q3 q4 q5
      obtain ⟨⟨p0, p1⟩, ⟨p2, p3⟩, p4, p5⟩ := HPA.out.kept N0.out
      obtain ⟨⟨q0, q1⟩, ⟨q2, q3⟩, q4, q5⟩ := HPB.out.kept N0.out
      go_wp2_with fail
      refine (HZL.out _ (HB0.out.trans (N0.out.mono HB0.out.size))).mono ?_
      rintro e w2 ⟨rfl, b2⟩
      have hb := (HB0.out.trans (N0.out.mono HB0.out.size)).trans (b2.mono (HB0.out.trans (N0.out.mono HB0.out.size)).size)
      go_wp2_with fail
      go_ret
      exact ⟨rfl, hb⟩
  · rw [show szD2 (szOf ll) F.length = -1 by unfold szD2; rw [if_neg hsz]] at HZ
    unfold srcV at *
    obtain ⟨⟨p0, p1⟩, ⟨p2, p3⟩, p4, p5⟩ := HPA.out.kept N0.out
    obtain ⟨⟨q0, q1⟩, ⟨q2, q3⟩, q4, q5⟩ := HPB.out.kept N0.out
    go_enter Try.func8, Try.ntmps8
    go_wp2_with fail
    refine (HZ.out _ HB0.out).mono ?_
    rintro e w1 ⟨rfl, b1⟩
    have hb := HB0.out.trans (b1.mono HB0.out.size)
    go_wp2_with fail
    go_ret
    exact ⟨rfl, hb⟩

set_option linter.unusedVariables false
set_option maxRecDepth 100000 in
theorem lifted (os : Os) (started : os.Started) (H : Type) (enc : TypeId × Value → H) :
    ReturnsInHanded {} Try.checked os 8 .any (Rows.fnExactEqualSearchesSpec.pre6 enc Try.prog Try.f8 Rows.fnExactEqualSearchesRow.domain false) (Rows.fnExactEqualSearchesSpec.post enc Try.prog Try.f8 false true false false) := by
  refine returnsInHanded_of_change (C := Try.checked) own started (by kernel_rfl) Try.func8
    (ChangeSpec.witness6 (enc := enc) (C := Try.checked) false ⟨#[], #[.agg #[.int .i64 0, .slice none 0 0, .int .i64 0, .int .i64 0, .slice none 0 0, .int .i64 0], .agg #[.int .i64 0, .slice none 0 0, .int .i64 0, .int .i64 0, .slice none 0 0, .int .i64 0]], []⟩ 8 (by kernel_rfl) (by kernel_rfl) (by kernel_rfl) (by kernel_rfl)) ?_
  intro W base args ds gs before hval0 hW hcnd _
  have hval : ∀ (j : Nat) t v, Try.f8.params[j]? = some t → args[j]? = some v → Value.okWide Try.prog W .any base t v := hval0
  have hW' := hW
  obtain ⟨p, q, hA0, hV, rfl, hfz, hnd⟩ := hW
  have hA : DataW.TrodAll enc Try.prog W 0 (fun _ => true) true Try.f8.params.toList args.toList ds p := hA0
  rw [Try.params8] at hA hval
  obtain ⟨v0, vs0, d0, ds0, p0, q0, hargs, rfl, rfl, h0, r0⟩ := trodAll_cons hA
  obtain ⟨v1, vs1, d1, ds1, p1, q1, rfl, rfl, rfl, h1, r1⟩ := trodAll_cons r0
  obtain ⟨rfl, rfl, rfl⟩ := trodAll_nil r1
  obtain rfl : args = #[v0, v1] := by cases args; simp_all
  obtain ⟨rfl, rfl⟩ := trodVars_none hV
  have k0 := h0
  have lt0 : ∀ x ∈ p0, x.block < W.heap.size := by obtain ⟨m, hm⟩ := k0; exact DataW.trod_lt m _ _ _ hm
  obtain ⟨c0, u0, m0, t0, f0, n0, ll0, F0, rfl, w0, r0r, s0, f0r, b0⟩ := open_search (hval 0 40 v0 rfl rfl) k0
  have k1 := h1
  have lt1 : ∀ x ∈ p1, x.block < W.heap.size := by obtain ⟨m, hm⟩ := k1; exact DataW.trod_lt m _ _ _ hm
  obtain ⟨c1, u1, m1, t1, f1, n1, ll1, F1, rfl, w1, r1r, s1, f1r, b1⟩ := open_search (hval 1 40 v1 rfl rfl) k1
  clear hA0 hval0
  refine (walk c0 u0 m0 t0 f0 n0 ll0 F0 c1 u1 m1 t1 f1 n1 ll1 F1  W r0r s0 f0r b0 r1r s1 f1r b1).mono fun e W' ⟨he, hg⟩ => ?_
  subst he
  exact ⟨_, rfl, ⟨_, _, _, [], _, [], hW', trodAll_cons_mk (shut_bool Try.underlying4 _) trodAll_mk0, (trodAll_cons_mk (Below.trod laidOut (by kernel_rfl) (of_decide_eq_true (by kernel_rfl)) k0 hg lt0) (trodAll_cons_mk (Below.trod laidOut (by kernel_rfl) (of_decide_eq_true (by kernel_rfl)) k1 hg lt1) trodAll_mk0)), rfl, hg.frame _, fun h => by cases h⟩⟩

theorem over : Rows.fnExactEqualSearchesRow.holds Try.pinned (OpenSpec.ofChange Rows.fnExactEqualSearchesSpec) :=
  OpenClaim.holds_of_wide 8 Try.f8 rfl rfl rfl rfl rfl rfl rfl ⟨rfl, rfl, rfl, rfl, rfl⟩ rfl rfl rfl rfl rfl (by kernel_rfl) Try.func8 (by kernel_rfl)
    (of_decide_eq_true (by kernel_rfl)) (by unfold Func.isWrapper; first | (rw [if_pos (by decide +kernel)]; kernel_rfl) | (rw [if_neg (by decide +kernel)]; exact ⟨rfl, rfl⟩))
    (fun os started H enc _ => lifted os started H enc)

theorem proved : Rows.FnExactEqualSearchesSaid := over
end Go.Proofs.Ytigecfbmdbpbhaa.lawFnExactEqualSearches
