/- Texts of this claim, merged: SrB, SrC, SrD, SrE. Conditions: as stated. -/
import Derived.Test.YtjfllfancgmalaaGreatSc22
import Derived.Deep.RegionLaw
namespace Go.Proofs.YtjfllfancgmalaaGreat
open Go.RowKit

theorem goN_all {C : Nat} {ll : List (List Int)} {m t0 b : Int} {N E : Nat} (hN : N ≤ 160) (hE : E ≤ N) (h0 : 0 ≤ t0) (hb : 160 < b) : ∀ d k, k + d = E → goN C ll m t0 (E : Int) b (N - k) k = E
  | 0, k, h => by
    obtain rfl : k = E := by omega
    exact goN_stop (fun h => by have := h.1; omega)
  | d + 1, k, h => by
    have hl := (repN_len C ll m k).2
    rw [goN_step (by omega) (by omega) (by omega)]
    exact goN_all hN hE h0 hb d (k + 1) (by omega)
/-- Where a search that is run anew up to a given number stops. -/
theorem goN_is {C : Nat} {ll : List (List Int)} {m b : Int} {N : Nat} (hN : N ≤ 160) (hb : 160 < b) (at_ : Int) : goN C ll m 0 (if (N : Int) < at_ then (N : Int) else at_) b (N - 0) 0 = (if (N : Int) < at_ then N else at_.toNat) := by
  by_cases h : (N : Int) < at_
  · rw [if_pos h, if_pos h]
    exact goN_all hN (Nat.le_refl _) (Int.le_refl _) hb N 0 (by omega)
  · rw [if_neg h, if_neg h]
    by_cases h0 : 0 ≤ at_
    · obtain ⟨E, rfl⟩ : ∃ E : Nat, at_ = (E : Int) := ⟨at_.toNat, by omega⟩
      exact goN_all hN (by omega) (Int.le_refl _) hb E 0 (by simp)
    · rw [goN_stop (fun h => by have := h.1; omega)]
      omega
theorem isS_eq {C : Nat} {ll : List (List Int)} {m at_ t : Int} {F F9 : List (Int × Int)} {n9 k9 : Nat} (hT : fineT (C : Int) ll m = true) (hk : k9 = (if ((C * 2 ^ C : Nat) : Int) < at_ then C * 2 ^ C else at_.toNat)) (h9 : repN C ll m k9 = (F9, n9)) :
    eqSea (C : Int) (C : Int) ll ll m m at_ (k9 : Int) F F9 t (n9 : Int) = isSB (C : Int) ll m at_ F t := by
  unfold eqSea isSB
  rw [eqTb_self, hT, show ((C : Int)).toNat = C from rfl, beq_self_eq_true, Bool.true_and, Bool.true_and, Bool.true_and]
  by_cases hin : 0 ≤ at_ ∧ at_ ≤ ((C * 2 ^ C : Nat) : Int)
  · rw [if_neg (by omega)] at hk
    rw [decide_eq_true hin, show (at_ == (k9 : Int)) = true from by rw [beq_iff_eq]; omega, ← hk, h9]
    congr 1
  · rw [decide_eq_false hin, show (at_ == (k9 : Int)) = false from by
      rw [beq_eq_false_iff_ne]
      intro e
      by_cases h : ((C * 2 ^ C : Nat) : Int) < at_
      · rw [if_pos h] at hk; omega
      · rw [if_neg h] at hk; omega]
    rfl
theorem keepS2 {w0 w' w'' : World} {b b2 : Nat} {c m at_ t c2 m2 at2 t2 : Int} {v f v2 f2 : Value} (h : (SBx w' b c v m at_ f t ∧ SBx w' b2 c2 v2 m2 at2 f2 t2) ∧ Below w0.heap.size w0 w') (hb : Below w'.heap.size w' w'') : (SBx w'' b c v m at_ f t ∧ SBx w'' b2 c2 v2 m2 at2 f2 t2) ∧ Below w0.heap.size w0 w'' := ⟨⟨h.1.1.kept hb, h.1.2.kept hb⟩, h.2.trans (hb.mono h.2.size)⟩
section
set_option maxRecDepth 20000
set_option maxHeartbeats 1600000
theorem implIsSearch_any (c m at_ t : Int) (v f : Value) (ll : List (List Int)) (F : List (Int × Int)) (w : World) (hr : ReadSS w v ll) (hl : ll.length ≤ 1048576) (ht : ∀ i, i < ll.length → (ll.getD i []).length ≤ 1048576) (hf : ReadD w f F) (hF : F.length ≤ 1048576) :
    Calls Tryz.prog 9 #[srcV c v m at_ f t] w fun e w' => e = .returned (.bool (isSB c ll m at_ F t)) ∧ Below w.heap.size w w' := by
  have HNS := Lib.hid (fun w' (hb : Below w.heap.size w w') => implNewSearch_any c m v ll w' (hr.kept hb) hl ht)
  have HES := Lib.hid (fun (w' : World) (hb : Below w.heap.size w w') (c' m' at' t' : Int) (v' f' : Value) (ll' : List (List Int)) (F' : List (Int × Int)) h1 h2 h3 => implEqualSearches_any c c' m m' at_ at' t t' v v' f f' ll ll' F F' w' (hr.kept hb) h1 (Nat.le_trans hl (by decide)) (fun i hi => Nat.le_trans (ht i hi) (by decide)) (hf.kept hb) h2 hF h3)
  have HB1 := Lib.hid ((Below.refl w.heap.size w).alloc (Nat.le_refl _) (.cells #[.int .i64 c, v, .int .i64 m, .int .i64 at_, f, .int .i64 t] 29))
  have HSB := Lib.hid (SBx.mk' w 29 c v m at_ f t)
  obtain ⟨a, cap, rfl, -⟩ := hr
  obtain ⟨af, capf, rfl, -⟩ := hf
  obtain ⟨⟨c0, c1⟩, ⟨c2, c3⟩, c4, c5⟩ := HSB.out
  unfold srcV at HES ⊢
  clear ht
  cases hfi : fineT c ll m with
  | false =>
    have HE : Hid (isSB c ll m at_ F t = false) := Lib.hid (by unfold isSB; rw [hfi]; rfl)
    rw [hfi] at HNS
    clear hfi HES
    go_enter Tryz.func9, Tryz.ntmps9
    go_wp2_with fail
    refine (HNS.out _ HB1.out).mono ?_
    rintro e w1 ⟨u, g, Cc, rfl, ou, og, -, -, b1⟩
    obtain ⟨au, capu, rfl, -⟩ := ou.read
    obtain ⟨ag, capg, rfl⟩ := og.shape
    have hb2 := HB1.out.trans (b1.mono HB1.out.size)
    have hb3 := hb2.alloc hb2.size (.cells #[.int .i64 (nsC c ll m), .slice au (nsL c ll m).length capu, .int .i64 (nsM c ll m), .int .i64 0, .slice ag 0 capg, .int .i64 0] 29)
    have HB3 := Lib.hid hb3
    unfold srcV
    clear b1 c0 c1 c2 c3 c4 c5 ou og hb2 hb3
    go_wp2_with fail
    go_quiet (fail)
    go_wp2_with fail
    go_ret
    exact ⟨by rw [HE.out]; rfl, below_drewN HB3.out _⟩
  | true =>
    have hT := fineT_isT hfi
    obtain ⟨hc1, hc5, h40⟩ := isT_bd hT
    obtain ⟨C, rfl⟩ : ∃ C : Nat, c = (C : Int) := ⟨c.toNat, by omega⟩
    have hC5 : C ≤ 5 := by omega
    have h32 := two5 hC5
    have hN160 : C * 2 ^ C ≤ 160 := by
      have : C * 2 ^ C ≤ 5 * 32 := Nat.mul_le_mul hC5 h32
      omega
    have e1 : nsC (C : Int) ll m = (C : Int) := by unfold nsC; rw [hfi]; rfl
    have e2 : nsM (C : Int) ll m = m := by unfold nsM; rw [hfi]; rfl
    have e3 : nsL (C : Int) ll m = ll := by unfold nsL; rw [hfi]; rfl
    rw [hfi, e1, e2, e3] at HNS
    obtain ⟨k9, hk9⟩ : ∃ k9, k9 = (if ((C * 2 ^ C : Nat) : Int) < at_ then C * 2 ^ C else at_.toNat) := ⟨_, rfl⟩
    obtain ⟨⟨F9, n9⟩, h9⟩ : ∃ z, repN C ll m k9 = z := ⟨_, rfl⟩
    have hlen9 := (repN_len C ll m k9).1
    rw [h9] at hlen9
    simp only at hlen9
    have hk9' : k9 ≤ C * 2 ^ C := by rw [hk9]; split <;> omega
    have HE := Lib.hid (isS_eq (t := t) (F := F) hfi hk9 h9)
    have HCO := Lib.hid (fun (u g : Value) w' hu hg => continued_any C 0 m at_ 9223372036854775807 u g ll [] 0 w' hu hg hfi (Nat.zero_le _) rfl k9 F9 n9 (by rw [hk9]; exact goN_is hN160 (by decide) at_) h9)
    have HEQ := Lib.hid (fun w' hb (u9 g9 : Value) h1 h2 => HES.out w' hb (C : Int) m (k9 : Int) (n9 : Int) u9 g9 ll F9 h1 h2 (by omega))
    unfold srcV at HCO
    clear HES hfi hT hc1 hc5 h40 h32 hN160 e1 e2 e3 hk9 h9 hlen9 hk9'
    go_enter Tryz.func9, Tryz.ntmps9
    go_wp2_with fail
    refine (HNS.out _ HB1.out).mono ?_
    rintro e w1 ⟨u, g, Cc, rfl, ou, og, -, -, b1⟩
    have hru := ou.read
    have hrg := og.read
    obtain ⟨au, capu, rfl, -⟩ := ou.read
    obtain ⟨ag, capg, rfl⟩ := og.shape
    have hb1 := HB1.out.trans (b1.mono HB1.out.size)
    have hal := (Below.refl w1.heap.size w1).alloc (Nat.le_refl _) (.cells #[.int .i64 (C : Int), .slice au ll.length capu, .int .i64 m, .int .i64 0, .slice ag 0 capg, .int .i64 0] 29)
    have HB2 := Lib.hid (hb1.trans (hal.mono hb1.size))
    have HS1 := Lib.hid ((HSB.out.kept b1).kept hal)
    have HS2 := Lib.hid (SBx.mk' w1 29 (C : Int) (.slice au ll.length capu) m 0 (.slice ag 0 capg) 0)
    have HRU := Lib.hid (hru.kept hal)
    have HRG := Lib.hid (hrg.kept hal)
    obtain ⟨⟨c0, c1⟩, ⟨c2, c3⟩, c4, c5⟩ := HS1.out
    obtain ⟨⟨d0, d1⟩, ⟨d2, d3⟩, d4, d5⟩ := HS2.out
    unfold srcV
    clear b1 ou og hru hrg hb1 hal
    clear c0 c1 c2 c3 c4 c5 d0 d1 d2 d3 d4 d5
    obtain ⟨⟨c0, c1⟩, ⟨c2, c3⟩, c4, c5⟩ := HS1.out
    obtain ⟨⟨d0, d1⟩, ⟨d2, d3⟩, d4, d5⟩ := HS2.out
    go_wp2_with fail
    refine wp_region_noPanic ?_
    refine wp_region_held_drew (S := (fun w' => (((w'.cell? ⟨w.heap.size, 0, none⟩ = some (.int .i64 (C : Int)) ∧ w'.cell? ⟨w.heap.size, 1, none⟩ = some (.slice a ll.length cap)) ∧ (w'.cell? ⟨w.heap.size, 2, none⟩ = some (.int .i64 m) ∧ w'.cell? ⟨w.heap.size, 3, none⟩ = some (.int .i64 at_)) ∧ w'.cell? ⟨w.heap.size, 4, none⟩ = some (.slice af F.length capf) ∧ w'.cell? ⟨w.heap.size, 5, none⟩ = some (.int .i64 t)) ∧ ((w'.cell? ⟨w1.heap.size, 0, none⟩ = some (.int .i64 (C : Int)) ∧ w'.cell? ⟨w1.heap.size, 1, none⟩ = some (.slice au ll.length capu)) ∧ (w'.cell? ⟨w1.heap.size, 2, none⟩ = some (.int .i64 m) ∧ w'.cell? ⟨w1.heap.size, 3, none⟩ = some (.int .i64 0)) ∧ w'.cell? ⟨w1.heap.size, 4, none⟩ = some (.slice ag 0 capg) ∧ w'.cell? ⟨w1.heap.size, 5, none⟩ = some (.int .i64 0))) ∧ Below (w1.alloc (.cells #[.int .i64 (C : Int), .slice au ll.length capu, .int .i64 m, .int .i64 0, .slice ag 0 capg, .int .i64 0] 29)).heap.size (w1.alloc (.cells #[.int .i64 (C : Int), .slice au ll.length capu, .int .i64 m, .int .i64 0, .slice ag 0 capg, .int .i64 0] 29)) w')) (by kernel_rfl) ?_ (fun hHeld => ?_)
    · ((try dsimp only); (first | exact keepS2 hHeld b92 | exact keepS2 hHeld b91 | exact ⟨⟨⟨⟨c0, c1⟩, ⟨c2, c3⟩, c4, c5⟩, ⟨d0, d1⟩, ⟨d2, d3⟩, d4, d5⟩, (Below.refl _ _).drew⟩))
    refine wpAnyH_take (i := 0) (v := ?_) rfl (by kernel_rfl) (by kernel_rfl) (by kernel_rfl) (fun _ _ _ h => h) (Or.inl ⟨by rfl, ?_⟩) (by assumption) ?_
    rotate_left
    · (intro w hSw; (try dsimp only at hSw); go_simp; (try with_reducible rfl))
    (try simp only [Act.put, List.getElem_toArray, List.getElem_cons_zero, List.setIfInBounds_toArray, List.set_cons_zero, List.set_cons_succ])
    refine wpAnyH_take (i := 1) (v := ?_) rfl (by kernel_rfl) (by kernel_rfl) (by kernel_rfl) (fun _ _ _ h => h) (Or.inl ⟨by rfl, ?_⟩) (by assumption) ?_
    rotate_left
    · (intro w hSw; (try dsimp only at hSw); go_simp; (try with_reducible rfl))
    (try simp only [Act.put, List.getElem_toArray, List.getElem_cons_succ, List.getElem_cons_zero, List.setIfInBounds_toArray, List.set_cons_zero, List.set_cons_succ])
    refine wpAnyH_take (i := 2) (v := ?_) rfl (by kernel_rfl) (by kernel_rfl) (by kernel_rfl) (fun _ _ _ h => h) (Or.inl ⟨by rfl, ?_⟩) (by assumption) ?_
    rotate_left
    · (intro w hSw; (try dsimp only at hSw); go_simp; (try with_reducible rfl))
    (try simp only [Act.put, List.getElem_toArray, List.getElem_cons_succ, List.getElem_cons_zero, List.setIfInBounds_toArray, List.set_cons_zero, List.set_cons_succ])
    refine wpAnyH_take (i := 3) (v := ?_) rfl (by kernel_rfl) (by kernel_rfl) (by kernel_rfl) (fun _ _ _ h => h) (Or.inl ⟨by rfl, ?_⟩) (by assumption) ?_
    rotate_left
    · (intro w hSw; (try dsimp only at hSw); go_simp; (try with_reducible rfl))
    (try simp only [Act.put, List.getElem_toArray, List.getElem_cons_succ, List.getElem_cons_zero, List.setIfInBounds_toArray, List.set_cons_zero, List.set_cons_succ])
    refine wpAnyH_take (i := 4) (v := ?_) rfl (by kernel_rfl) (by kernel_rfl) (by kernel_rfl) (fun _ _ _ h => h) (Or.inl ⟨by rfl, ?_⟩) (by assumption) ?_
    rotate_left
    · (intro w hSw; (try dsimp only at hSw); go_simp; (try with_reducible rfl))
    (try simp only [Act.put, List.getElem_toArray, List.getElem_cons_succ, List.getElem_cons_zero, List.setIfInBounds_toArray, List.set_cons_zero, List.set_cons_succ])
    refine wpAnyH_take (i := 5) (v := ?_) rfl (by kernel_rfl) (by kernel_rfl) (by kernel_rfl) (fun _ _ _ h => h) (Or.inl ⟨by rfl, ?_⟩) (by assumption) ?_
    rotate_left
    · (intro w hSw; (try dsimp only at hSw); go_simp; (try with_reducible rfl))
    (try simp only [Act.put, List.getElem_toArray, List.getElem_cons_succ, List.getElem_cons_zero, List.setIfInBounds_toArray, List.set_cons_zero, List.set_cons_succ])
    refine wpAnyH_ready (rs := [6]) (by kernel_rfl) (by simp) (AllReadyH.cons rfl (fun K hK => ?_) AllReadyH.nil)
    (first | ((first | (go_at_call 28; refine (HCO.out _ _ _ (HRU.out.kept hHeld.2) (HRG.out.kept hHeld.2)).mono ?_; rintro e w91 ⟨u9, g9, C9, rfl, ou9, og9, -, -, b91⟩; have HR9 := Lib.hid (And.intro ou9.read og9.read); clear ou9 og9; obtain ⟨au9, capu9, rfl, -⟩ := HR9.out.1; obtain ⟨ag9, capg9, rfl, -⟩ := HR9.out.2; unfold srcV) | (go_at_call 34; refine (HEQ.out _ (HB2.out.trans (hHeld.2.mono HB2.out.size)) _ _ HR9.out.1 HR9.out.2).mono ?_; rintro e w92 ⟨rfl, b92⟩))) | (go_simp; (first | (go_at_call 28; refine (HCO.out _ _ _ (HRU.out.kept hHeld.2) (HRG.out.kept hHeld.2)).mono ?_; rintro e w91 ⟨u9, g9, C9, rfl, ou9, og9, -, -, b91⟩; have HR9 := Lib.hid (And.intro ou9.read og9.read); clear ou9 og9; obtain ⟨au9, capu9, rfl, -⟩ := HR9.out.1; obtain ⟨ag9, capg9, rfl, -⟩ := HR9.out.2; unfold srcV) | (go_at_call 34; refine (HEQ.out _ (HB2.out.trans (hHeld.2.mono HB2.out.size)) _ _ HR9.out.1 HR9.out.2).mono ?_; rintro e w92 ⟨rfl, b92⟩))))
    (try (go_wp2_with fail))
    refine hK.out _ _ ?_ (fun hHeld => ?_)
    · ((try dsimp only); (first | exact keepS2 hHeld b92 | exact keepS2 hHeld b91 | exact ⟨⟨⟨⟨c0, c1⟩, ⟨c2, c3⟩, c4, c5⟩, ⟨d0, d1⟩, ⟨d2, d3⟩, d4, d5⟩, (Below.refl _ _).drew⟩))
    clear hK K
    (try simp only [Act.put, List.getElem_toArray, List.getElem_cons_succ, List.getElem_cons_zero, List.setIfInBounds_toArray, List.set_cons_zero, List.set_cons_succ])
    refine wpAnyH_ready (rs := [7]) (by kernel_rfl) (by simp) (AllReadyH.cons rfl (fun K hK => ?_) AllReadyH.nil)
    (first | ((first | (go_at_call 28; refine (HCO.out _ _ _ (HRU.out.kept hHeld.2) (HRG.out.kept hHeld.2)).mono ?_; rintro e w91 ⟨u9, g9, C9, rfl, ou9, og9, -, -, b91⟩; have HR9 := Lib.hid (And.intro ou9.read og9.read); clear ou9 og9; obtain ⟨au9, capu9, rfl, -⟩ := HR9.out.1; obtain ⟨ag9, capg9, rfl, -⟩ := HR9.out.2; unfold srcV) | (go_at_call 34; refine (HEQ.out _ (HB2.out.trans (hHeld.2.mono HB2.out.size)) _ _ HR9.out.1 HR9.out.2).mono ?_; rintro e w92 ⟨rfl, b92⟩))) | (go_simp; (first | (go_at_call 28; refine (HCO.out _ _ _ (HRU.out.kept hHeld.2) (HRG.out.kept hHeld.2)).mono ?_; rintro e w91 ⟨u9, g9, C9, rfl, ou9, og9, -, -, b91⟩; have HR9 := Lib.hid (And.intro ou9.read og9.read); clear ou9 og9; obtain ⟨au9, capu9, rfl, -⟩ := HR9.out.1; obtain ⟨ag9, capg9, rfl, -⟩ := HR9.out.2; unfold srcV) | (go_at_call 34; refine (HEQ.out _ (HB2.out.trans (hHeld.2.mono HB2.out.size)) _ _ HR9.out.1 HR9.out.2).mono ?_; rintro e w92 ⟨rfl, b92⟩))))
    (try (go_wp2_with fail))
    refine hK.out _ _ ?_ (fun hHeld => ?_)
    · ((try dsimp only); (first | exact keepS2 hHeld b92 | exact keepS2 hHeld b91 | exact ⟨⟨⟨⟨c0, c1⟩, ⟨c2, c3⟩, c4, c5⟩, ⟨d0, d1⟩, ⟨d2, d3⟩, d4, d5⟩, (Below.refl _ _).drew⟩))
    clear hK K
    (try simp only [Act.put, List.getElem_toArray, List.getElem_cons_succ, List.getElem_cons_zero, List.setIfInBounds_toArray, List.set_cons_zero, List.set_cons_succ])
    refine wpAnyH_take (i := 8) (v := ?_) rfl (by kernel_rfl) (by kernel_rfl) (by kernel_rfl) (fun _ _ _ h => h) (Or.inl ⟨by rfl, ?_⟩) (by assumption) ?_
    rotate_left
    · (intro w hSw; (try dsimp only at hSw); go_simp; (try with_reducible rfl))
    (try simp only [Act.put, List.getElem_toArray, List.getElem_cons_succ, List.getElem_cons_zero, List.setIfInBounds_toArray, List.set_cons_zero, List.set_cons_succ])
    refine wpAnyH_take (i := 9) (v := ?_) rfl (by kernel_rfl) (by kernel_rfl) (by kernel_rfl) (fun _ _ _ h => h) (Or.inl ⟨by rfl, ?_⟩) (by assumption) ?_
    rotate_left
    · (intro w hSw; (try dsimp only at hSw); go_simp; (try with_reducible rfl))
    (try simp only [Act.put, List.getElem_toArray, List.getElem_cons_succ, List.getElem_cons_zero, List.setIfInBounds_toArray, List.set_cons_zero, List.set_cons_succ])
    refine wpAnyH_done (by kernel_rfl) ?_ _
    refine NoPanic.normal ?_
    go_wp2_with fail
    go_ret
    exact ⟨ret_b HE.out.symm, HB2.out.trans (hHeld.2.mono HB2.out.size)⟩
end
end Go.Proofs.YtjfllfancgmalaaGreat
namespace Go.Proofs.YtjfllfancgmalaaGreat
open Go.RowKit

/-- Where a search stops that is run with a budget. -/
noncomputable def rnK (c : Int) (ll : List (List Int)) (m at_ t b : Int) : Nat := goN c.toNat ll m t ((c.toNat * 2 ^ c.toNat : Nat) : Int) b (c.toNat * 2 ^ c.toNat - at_.toNat) at_.toNat
noncomputable def rsA (c : Int) (ll : List (List Int)) (m at_ : Int) (F : List (Int × Int)) (t b : Int) : Int := if isSB c ll m at_ F t = true then (rnK c ll m at_ t b : Int) else at_
noncomputable def rsF (c : Int) (ll : List (List Int)) (m at_ : Int) (F : List (Int × Int)) (t b : Int) : List (Int × Int) := if isSB c ll m at_ F t = true then (repN c.toNat ll m (rnK c ll m at_ t b)).1 else F
noncomputable def rsT (c : Int) (ll : List (List Int)) (m at_ : Int) (F : List (Int × Int)) (t b : Int) : Int := if isSB c ll m at_ F t = true then ((repN c.toNat ll m (rnK c ll m at_ t b)).2 : Int) else t
theorem isSB_all {c m at_ t : Int} {ll : List (List Int)} {F : List (Int × Int)} (h : isSB c ll m at_ F t = true) : ∃ C K n : Nat, c = (C : Int) ∧ at_ = (K : Int) ∧ t = (n : Int) ∧ 1 ≤ C ∧ C ≤ 5 ∧ K ≤ C * 2 ^ C ∧ C * 2 ^ C ≤ 160 ∧ fineT c ll m = true ∧ repN C ll m K = (F, n) := by
  obtain ⟨C, K, rfl, rfl, hC1, hC5, hK, hf⟩ := isSB_fine h
  unfold isSB at h
  rw [Bool.and_eq_true, Bool.and_eq_true, decide_eq_true_iff, decide_eq_true_iff] at h
  obtain ⟨⟨-, h2⟩, h3⟩ := h
  rw [show ((C : Int)).toNat = C from rfl, show ((K : Int)).toNat = K from rfl] at h2 h3
  have h32 := two5 hC5
  have h4 : C * 2 ^ C ≤ 5 * 32 := Nat.mul_le_mul hC5 h32
  exact ⟨C, K, (repN C ll m K).2, rfl, rfl, h3, hC1, hC5, hK, by omega, hf, by rw [h2]⟩
theorem keepSet {w0 w' : World} {b : Nat} {c m at_ t : Int} {v f : Value} (h : SBx w' b c v m at_ f t ∧ Below w0.heap.size w0 w') (p : Nat) (hp : b ≠ p) (hp2 : w0.heap.size ≤ p) (x y : Value) : SBx ((w'.setCell ⟨p, 0, none⟩ x).setCell ⟨p, 1, none⟩ y) b c v m at_ f t ∧ Below w0.heap.size w0 ((w'.setCell ⟨p, 0, none⟩ x).setCell ⟨p, 1, none⟩ y) := by
  have e : ((w'.setCell ⟨p, 0, none⟩ x).setCell ⟨p, 1, none⟩ y).heap[b]? = w'.heap[b]? := (Below.heap_setCell _ _ _ _ hp).trans (Below.heap_setCell _ _ _ _ hp)
  obtain ⟨⟨h0, h1⟩, ⟨h2, h3⟩, h4, h5⟩ := h.1
  exact ⟨⟨⟨cell_eqb h0 e, cell_eqb h1 e⟩, ⟨cell_eqb h2 e, cell_eqb h3 e⟩, cell_eqb h4 e, cell_eqb h5 e⟩, (h.2.setCell (p := ⟨p, 0, none⟩) hp2 x).setCell (p := ⟨p, 1, none⟩) hp2 y⟩
section
set_option maxRecDepth 20000
set_option maxHeartbeats 1600000
theorem implIsSearched_any (c m at_ t : Int) (v f : Value) (ll : List (List Int)) (F : List (Int × Int)) (w : World) (hr : ReadSS w v ll) (hl : ll.length ≤ 1048576) (ht : ∀ i, i < ll.length → (ll.getD i []).length ≤ 1048576) (hf : ReadD w f F) (hF : F.length ≤ 1048576) :
    Calls Tryz.prog 17 #[srcV c v m at_ f t] w fun e w' => e = .returned (.bool (edB c ll m at_ F t)) ∧ Below w.heap.size w w' := by
  have HF := Lib.hid (fun w' (hb : Below w.heap.size w w') => implIsSearch_any c m at_ t v f ll F w' (hr.kept hb) hl ht (hf.kept hb) hF)
  have HB1 := Lib.hid ((Below.refl w.heap.size w).alloc (Nat.le_refl _) (.cells #[.int .i64 c, v, .int .i64 m, .int .i64 at_, f, .int .i64 t] 29))
  have HSB := Lib.hid (SBx.mk' w 29 c v m at_ f t)
  obtain ⟨a, cap, rfl, -⟩ := hr
  obtain ⟨af, capf, rfl, -⟩ := hf
  obtain ⟨⟨c0, c1⟩, ⟨c2, c3⟩, c4, c5⟩ := HSB.out
  unfold srcV at *
  clear ht
  cases hs : isSB c ll m at_ F t with
  | false =>
    have HE : Hid (edB c ll m at_ F t = false) := Lib.hid (by unfold edB; rw [hs]; rfl)
    rw [hs] at HF
    clear hs
    go_enter Tryz.func17, Tryz.ntmps17
    go_wp2_with fail
    refine (HF.out _ HB1.out).mono ?_
    rintro e w1 ⟨rfl, b1⟩
    have hb3 := HB1.out.trans (b1.mono HB1.out.size)
    go_wp2_with fail
    go_ret
    exact ⟨ret_b HE.out, hb3⟩
  | true =>
    obtain ⟨C, K, rfl, rfl, hC1, hC5, hK, -⟩ := isSB_fine hs
    have HE : Hid (edB (C : Int) ll m (K : Int) F t = decide (K = C * 2 ^ C)) := Lib.hid (by
      unfold edB
      rw [hs, Bool.true_and, show ((C : Int)).toNat = C from rfl, Bool.eq_iff_iff, decide_eq_true_iff, decide_eq_true_iff]
      omega)
    rw [HE.out]
    have HD := Lib.hid (fun w' => hasEnded_any C K hC1 hC5 m t a af ll.length F.length cap capf w')
    unfold srcV at HD
    rw [hs] at HF
    obtain ⟨bb, hbb⟩ : ∃ bb, bb = decide (K = C * 2 ^ C) := ⟨_, rfl⟩
    rw [← hbb] at HD ⊢
    clear hs hbb hK HE
    go_enter Tryz.func17, Tryz.ntmps17
    go_wp2_with fail
    refine (HF.out _ HB1.out).mono ?_
    rintro e w1 ⟨rfl, b1⟩
    have hb3 := HB1.out.trans (b1.mono HB1.out.size)
    have HS1 := Lib.hid (HSB.out.kept b1)
    clear c0 c1 c2 c3 c4 c5 b1
    obtain ⟨⟨c0, c1⟩, ⟨c2, c3⟩, c4, c5⟩ := HS1.out
    go_wp2_with fail
    refine (HD.out _).mono ?_
    rintro e w2 ⟨rfl, b2⟩
    have hb4 := hb3.trans (b2.mono hb3.size)
    go_wp2_with fail
    go_ret
    exact ⟨rfl, hb4⟩
theorem implCandidateAt_any (c m at_ t : Int) (v f : Value) (ll : List (List Int)) (F : List (Int × Int)) (w : World) (hr : ReadSS w v ll) (hl : ll.length ≤ 1048576) (ht : ∀ i, i < ll.length → (ll.getD i []).length ≤ 1048576) (hf : ReadD w f F) (hF : F.length ≤ 1048576) :
    Calls Tryz.prog 13 #[srcV c v m at_ f t] w fun e w' => e = .returned (.tuple #[.agg #[.int .i64 (nxD c ll m at_ F t).1, .int .i64 (nxD c ll m at_ F t).2], .bool (nxB c ll m at_ F t)]) ∧ Below w.heap.size w w' := by
  have HF := Lib.hid (fun w' (hb : Below w.heap.size w w') => implIsSearch_any c m at_ t v f ll F w' (hr.kept hb) hl ht (hf.kept hb) hF)
  have hb1 := (Below.refl w.heap.size w).alloc (Nat.le_refl _) (.cells #[.int .i64 c, v, .int .i64 m, .int .i64 at_, f, .int .i64 t] 29)
  have h12 := (Below.refl (w.alloc (.cells #[.int .i64 c, v, .int .i64 m, .int .i64 at_, f, .int .i64 t] 29)).heap.size (w.alloc (.cells #[.int .i64 c, v, .int .i64 m, .int .i64 at_, f, .int .i64 t] 29))).alloc (Nat.le_refl _) (.cells #[.int .i64 0, .int .i64 0] 38)
  have hb2 := hb1.trans (h12.mono hb1.size)
  have HS0 := (SBx.mk' w 29 c v m at_ f t).kept h12
  have hbx := heap_alloc_new (w.alloc (.cells #[.int .i64 c, v, .int .i64 m, .int .i64 at_, f, .int .i64 t] 29)) (.cells #[.int .i64 0, .int .i64 0] 38)
  rw [World.size_alloc] at hbx
  obtain ⟨W, hW⟩ : ∃ W, W = (w.alloc (.cells #[.int .i64 c, v, .int .i64 m, .int .i64 at_, f, .int .i64 t] 29)).alloc (.cells #[.int .i64 0, .int .i64 0] 38) := ⟨_, rfl⟩
  have hWs : w.heap.size + 1 < W.heap.size := by rw [hW]; simp
  rw [← hW] at hb2 HS0 hbx
  have HKX := Lib.hid (fun w' (hb : Below W.heap.size W w') => (hb.block (w.heap.size + 1) hWs).trans hbx)
  have HSB := Lib.hid HS0
  have HB1 := Lib.hid hb2
  obtain ⟨a, cap, rfl, -⟩ := hr
  obtain ⟨af, capf, rfl, -⟩ := hf
  clear hb1 ht h12 HS0 hb2 hWs hbx
  cases hs : isSB c ll m at_ F t with
  | false =>
    have HE : Hid (nxB c ll m at_ F t = false) := Lib.hid (by unfold nxB; rw [hs]; rfl)
    have HE2 : Hid (nxD c ll m at_ F t = (0, 0)) := Lib.hid (by unfold nxD; rw [HE.out]; rfl)
    rw [hs] at HF
    unfold srcV at *
    rw [hW] at HSB HB1 HKX
    obtain ⟨⟨c0, c1⟩, ⟨c2, c3⟩, c4, c5⟩ := HSB.out
    clear hs hW
    go_enter Tryz.func13, Tryz.ntmps13
    go_wp2_with fail
    refine (HF.out _ HB1.out).mono ?_
    rintro e w1 ⟨rfl, b1⟩
    have hb3 := HB1.out.trans (b1.mono HB1.out.size)
    have hk := HKX.out w1 b1
    have d0 : w1.cell? ⟨w.heap.size + 1, 0, none⟩ = some (.int .i64 0) := by rw [cell_of_row w1 (w.heap.size + 1) 0 _ _ _ hk]; rfl
    have d1 : w1.cell? ⟨w.heap.size + 1, 1, none⟩ = some (.int .i64 0) := by rw [cell_of_row w1 (w.heap.size + 1) 1 _ _ _ hk]; rfl
    have f0 := frozen_of_row w1 (w.heap.size + 1) 0 _ _ hk
    have f1 := frozen_of_row w1 (w.heap.size + 1) 1 _ _ hk
    clear b1 hk
    go_wp2_with fail
    exact bodyPost_ret (v := .tuple #[.agg #[.int .i64 0, .int .i64 0], .bool false]) (by simp [results, Tryz.results13, go_sem, d0, d1]) rfl ⟨by rw [HE.out, HE2.out], (hb3.setCell (p := ⟨w.heap.size + 1, 0, none⟩) (Nat.le_succ _) _).setCell (p := ⟨w.heap.size + 1, 1, none⟩) (Nat.le_succ _) _⟩
  | true =>
    obtain ⟨C, K, rfl, rfl, hC1, hC5, hK, -⟩ := isSB_fine hs
    have HD := Lib.hid (fun w' => hasEnded_any C K hC1 hC5 m t a af ll.length F.length cap capf w')
    have hed : edB (C : Int) ll m (K : Int) F t = decide (K = C * 2 ^ C) := by
      unfold edB
      rw [hs, Bool.true_and, show ((C : Int)).toNat = C from rfl, Bool.eq_iff_iff, decide_eq_true_iff, decide_eq_true_iff]
      omega
    by_cases hlt : K = C * 2 ^ C
    · have HE : Hid (nxB (C : Int) ll m (K : Int) F t = false) := Lib.hid (by unfold nxB; rw [hed, decide_eq_true hlt]; simp)
      have HE2 : Hid (nxD (C : Int) ll m (K : Int) F t = (0, 0)) := Lib.hid (by unfold nxD; rw [HE.out]; rfl)
      rw [hs] at HF
      rw [decide_eq_true hlt] at HD
      unfold srcV at *
      rw [hW] at HSB HB1 HKX
      obtain ⟨⟨c0, c1⟩, ⟨c2, c3⟩, c4, c5⟩ := HSB.out
      clear hs hed hW hK hlt
      go_enter Tryz.func13, Tryz.ntmps13
      go_wp2_with fail
      refine (HF.out _ HB1.out).mono ?_
      rintro e w1 ⟨rfl, b1⟩
      have hb3 := HB1.out.trans (b1.mono HB1.out.size)
      have HS1 := Lib.hid (HSB.out.kept b1)
      clear c0 c1 c2 c3 c4 c5
      obtain ⟨⟨c0, c1⟩, ⟨c2, c3⟩, c4, c5⟩ := HS1.out
      go_wp2_with fail
      refine (HD.out _).mono ?_
      rintro e w2 ⟨rfl, b2⟩
      have hb4 := hb3.trans (b2.mono hb3.size)
      have hk := HKX.out w2 (b1.trans (b2.mono b1.size))
      have d0 : w2.cell? ⟨w.heap.size + 1, 0, none⟩ = some (.int .i64 0) := by rw [cell_of_row w2 (w.heap.size + 1) 0 _ _ _ hk]; rfl
      have d1 : w2.cell? ⟨w.heap.size + 1, 1, none⟩ = some (.int .i64 0) := by rw [cell_of_row w2 (w.heap.size + 1) 1 _ _ _ hk]; rfl
      have f0 := frozen_of_row w2 (w.heap.size + 1) 0 _ _ hk
      have f1 := frozen_of_row w2 (w.heap.size + 1) 1 _ _ hk
      clear b1 b2 hk c0 c1 c2 c3 c4 c5
      go_wp2_with fail
      exact bodyPost_ret (v := .tuple #[.agg #[.int .i64 0, .int .i64 0], .bool false]) (by simp [results, Tryz.results13, go_sem, d0, d1]) rfl ⟨by rw [HE.out, HE2.out], (hb4.setCell (p := ⟨w.heap.size + 1, 0, none⟩) (Nat.le_succ _) _).setCell (p := ⟨w.heap.size + 1, 1, none⟩) (Nat.le_succ _) _⟩
    · have hlt2 : K < C * 2 ^ C := by omega
      obtain ⟨x, r, e, hx, hr5⟩ := cdt_ok hC1 hC5 hlt2
      have HE : Hid (nxB (C : Int) ll m (K : Int) F t = true) := Lib.hid (by unfold nxB; rw [hs, hed, decide_eq_false hlt]; rfl)
      have HE2 : Hid (nxD (C : Int) ll m (K : Int) F t = ((x : Int), (r : Int))) := Lib.hid (by unfold nxD; rw [if_pos HE.out]; exact e)
      have HCD := Lib.hid (fun w' => cands_any C hC1 hC5 m (K : Int) t a af ll.length F.length cap capf w')
      have HGE := Lib.hid ((cdL_get C _ _ hlt2).trans e)
      have HLL := Lib.hid (cdL_len C (C * 2 ^ C))
      rw [hs] at HF
      rw [decide_eq_false hlt] at HD
      obtain ⟨N, hN⟩ : ∃ N, N = C * 2 ^ C := ⟨_, rfl⟩
      rw [← hN] at HCD HGE HLL hlt2
      have HOA : Hid (∀ (w3 : World) (cpd B : Nat) (ad : Option Addr), OwnD w3 B (.slice ad N cpd) (cdL C N) → ∃ b o, ad = some ⟨b, o, none⟩ ∧ w3.cell? ⟨b, o + K * 2, none⟩ = some (.int .i64 (x : Int)) ∧ w3.cell? ⟨b, o + K * 2 + 1, none⟩ = some (.int .i64 (r : Int))) := Lib.hid (fun w3 cpd B ad oo => by
        have h := ord_at oo (k := K) (by rw [HLL.out]; exact hlt2)
        rw [HGE.out] at h
        exact h)
      unfold srcV at *
      rw [hW] at HSB HB1 HKX
      obtain ⟨⟨c0, c1⟩, ⟨c2, c3⟩, c4, c5⟩ := HSB.out
      clear hs hed hW hK e hlt hN
      go_enter Tryz.func13, Tryz.ntmps13
      go_wp2_with fail
      refine (HF.out _ HB1.out).mono ?_
      rintro e w1 ⟨rfl, b1⟩
      have hb3 := HB1.out.trans (b1.mono HB1.out.size)
      have HS1 := Lib.hid (HSB.out.kept b1)
      clear c0 c1 c2 c3 c4 c5
      obtain ⟨⟨c0, c1⟩, ⟨c2, c3⟩, c4, c5⟩ := HS1.out
      go_wp2_with fail
      refine (HD.out _).mono ?_
      rintro e w2 ⟨rfl, b2⟩
      have HB4 := Lib.hid (hb3.trans (b2.mono hb3.size))
      have HS2 := Lib.hid (HS1.out.kept b2)
      have HK2 := Lib.hid (b1.trans (b2.mono b1.size))
      clear c0 c1 c2 c3 c4 c5 b1 b2 hb3
      obtain ⟨⟨c0, c1⟩, ⟨c2, c3⟩, c4, c5⟩ := HS2.out
      have z0 : (0 : Int) ≤ (K : Int) := by omega
      have z1 : (K : Int) < (N : Int) := by omega
      go_wp2_with fail
      refine wp_region_noPanic ?_
      refine wp_region_held_drew (S := (fun w' => ((w'.cell? ⟨w.heap.size, 0, none⟩ = some (.int .i64 (C : Int)) ∧ w'.cell? ⟨w.heap.size, 1, none⟩ = some (.slice a ll.length cap)) ∧ (w'.cell? ⟨w.heap.size, 2, none⟩ = some (.int .i64 m) ∧ w'.cell? ⟨w.heap.size, 3, none⟩ = some (.int .i64 (K : Int))) ∧ w'.cell? ⟨w.heap.size, 4, none⟩ = some (.slice af F.length capf) ∧ w'.cell? ⟨w.heap.size, 5, none⟩ = some (.int .i64 t)) ∧ Below w.heap.size w w')) (by kernel_rfl) ?_ (fun hHeld => ?_)
      · ((try dsimp only); (first | exact keepSet hHeld (w.heap.size + 1) (by omega) (by omega) _ _ | exact hHeld | exact keepS hHeld b3 | exact ⟨⟨⟨c0, c1⟩, ⟨c2, c3⟩, c4, c5⟩, HB4.out.drew⟩))
      refine wpAnyH_take (i := 0) (v := ?_) rfl (by kernel_rfl) (by kernel_rfl) (by kernel_rfl) (fun _ _ _ h => h) (Or.inl ⟨by rfl, ?_⟩) (by assumption) ?_
      rotate_left
      · (intro w hSw; (try dsimp only at hSw); go_simp; (try with_reducible rfl))
      (try simp only [Act.put, List.getElem_toArray, List.getElem_cons_zero, List.setIfInBounds_toArray, List.set_cons_zero, List.set_cons_succ])
      refine wpAnyH_take (i := 2) (v := ?_) rfl (by kernel_rfl) (by kernel_rfl) (by kernel_rfl) (fun _ _ _ h => h) (Or.inl ⟨by rfl, ?_⟩) (by assumption) ?_
      rotate_left
      · (intro w hSw; (try dsimp only at hSw); go_simp; (try with_reducible rfl))
      (try simp only [Act.put, List.getElem_toArray, List.getElem_cons_succ, List.getElem_cons_zero, List.setIfInBounds_toArray, List.set_cons_zero, List.set_cons_succ])
      refine wpAnyH_take (i := 3) (v := ?_) rfl (by kernel_rfl) (by kernel_rfl) (by kernel_rfl) (fun _ _ _ h => h) (Or.inl ⟨by rfl, ?_⟩) (by assumption) ?_
      rotate_left
      · (intro w hSw; (try dsimp only at hSw); go_simp; (try with_reducible rfl))
      (try simp only [Act.put, List.getElem_toArray, List.getElem_cons_succ, List.getElem_cons_zero, List.setIfInBounds_toArray, List.set_cons_zero, List.set_cons_succ])
      refine wpAnyH_ready (rs := [1]) (by kernel_rfl) (by simp) (AllReadyH.cons rfl (fun K hK => ?_) AllReadyH.nil)
      (first | ((go_at_call 39; refine (HCD.out _).mono ?_; rintro e w3 ⟨vo, rfl, oo, b3⟩; obtain ⟨ad, cpd, hov⟩ := oo.shape; rw [HLL.out] at hov; subst hov; obtain ⟨ob, of, had, y0, y1⟩ := HOA.out _ _ _ _ oo; subst had; have hk := HKX.out w3 (HK2.out.drew.trans (b3.mono HK2.out.drew.size)); have d0 : w3.cell? ⟨w.heap.size + 1, 0, none⟩ = some (.int .i64 0) := (by rw [cell_of_row w3 (w.heap.size + 1) 0 _ _ _ hk]; rfl); have d1 : w3.cell? ⟨w.heap.size + 1, 1, none⟩ = some (.int .i64 0) := (by rw [cell_of_row w3 (w.heap.size + 1) 1 _ _ _ hk]; rfl); have f0 := frozen_of_row w3 (w.heap.size + 1) 0 _ _ hk; have f1 := frozen_of_row w3 (w.heap.size + 1) 1 _ _ hk; clear oo hk)) | (go_simp; (go_at_call 39; refine (HCD.out _).mono ?_; rintro e w3 ⟨vo, rfl, oo, b3⟩; obtain ⟨ad, cpd, hov⟩ := oo.shape; rw [HLL.out] at hov; subst hov; obtain ⟨ob, of, had, y0, y1⟩ := HOA.out _ _ _ _ oo; subst had; have hk := HKX.out w3 (HK2.out.drew.trans (b3.mono HK2.out.drew.size)); have d0 : w3.cell? ⟨w.heap.size + 1, 0, none⟩ = some (.int .i64 0) := (by rw [cell_of_row w3 (w.heap.size + 1) 0 _ _ _ hk]; rfl); have d1 : w3.cell? ⟨w.heap.size + 1, 1, none⟩ = some (.int .i64 0) := (by rw [cell_of_row w3 (w.heap.size + 1) 1 _ _ _ hk]; rfl); have f0 := frozen_of_row w3 (w.heap.size + 1) 0 _ _ hk; have f1 := frozen_of_row w3 (w.heap.size + 1) 1 _ _ hk; clear oo hk)))
      (try (go_wp2_with fail))
      refine hK.out _ _ ?_ (fun hHeld => ?_)
      · ((try dsimp only); (first | exact keepSet hHeld (w.heap.size + 1) (by omega) (by omega) _ _ | exact hHeld | exact keepS hHeld b3 | exact ⟨⟨⟨c0, c1⟩, ⟨c2, c3⟩, c4, c5⟩, HB4.out.drew⟩))
      clear hK K
      (try simp only [Act.put, List.getElem_toArray, List.getElem_cons_succ, List.getElem_cons_zero, List.setIfInBounds_toArray, List.set_cons_zero, List.set_cons_succ])
      refine wpAnyH_take (i := 4) (v := ?_) rfl (by kernel_rfl) (by kernel_rfl) (by kernel_rfl) (fun _ _ _ h => h) (Or.inl ⟨by rfl, ?_⟩) (by assumption) ?_
      rotate_left
      · (intro w hSw; (try dsimp only at hSw); go_simp; (try with_reducible rfl))
      (try simp only [Act.put, List.getElem_toArray, List.getElem_cons_succ, List.getElem_cons_zero, List.setIfInBounds_toArray, List.set_cons_zero, List.set_cons_succ])
      refine wpAnyH_ready (rs := [5]) (by kernel_rfl) (by simp) (AllReadyH.cons rfl (fun K hK => ?_) AllReadyH.nil)
      go_simp
      refine hK.out _ _ ?_ (fun hHeld => ?_)
      · ((try dsimp only); (first | exact keepSet hHeld (w.heap.size + 1) (by omega) (by omega) _ _ | exact hHeld | exact keepS hHeld b3 | exact ⟨⟨⟨c0, c1⟩, ⟨c2, c3⟩, c4, c5⟩, HB4.out.drew⟩))
      clear hK K
      (try simp only [Act.put, List.getElem_toArray, List.getElem_cons_succ, List.getElem_cons_zero, List.setIfInBounds_toArray, List.set_cons_zero, List.set_cons_succ])
      refine wpAnyH_ready (rs := [6]) (by kernel_rfl) (by simp) (AllReadyH.cons rfl (fun K hK => ?_) AllReadyH.nil)
      go_simp
      refine hK.out _ _ ?_ (fun hHeld => ?_)
      · ((try dsimp only); (first | exact keepSet hHeld (w.heap.size + 1) (by omega) (by omega) _ _ | exact hHeld | exact keepS hHeld b3 | exact ⟨⟨⟨c0, c1⟩, ⟨c2, c3⟩, c4, c5⟩, HB4.out.drew⟩))
      clear hK K
      (try simp only [Act.put, List.getElem_toArray, List.getElem_cons_succ, List.getElem_cons_zero, List.setIfInBounds_toArray, List.set_cons_zero, List.set_cons_succ])
      refine wpAnyH_take (i := 7) (v := ?_) rfl (by kernel_rfl) (by kernel_rfl) (by kernel_rfl) (fun _ _ _ h => h) (Or.inl ⟨by rfl, ?_⟩) (by assumption) ?_
      rotate_left
      · (intro w hSw; (try dsimp only at hSw); go_simp; (try with_reducible rfl))
      (try simp only [Act.put, List.getElem_toArray, List.getElem_cons_succ, List.getElem_cons_zero, List.setIfInBounds_toArray, List.set_cons_zero, List.set_cons_succ])
      refine wpAnyH_done (by kernel_rfl) ?_ _
      refine NoPanic.normal ?_
      clear c0 c1 c2 c3 c4 c5
      go_wp2_with fail
      exact bodyPost_ret (v := .tuple #[.agg #[.int .i64 (x : Int), .int .i64 (r : Int)], .bool true]) (by simp [results, Tryz.results13, go_sem, d0, d1]) rfl ⟨by rw [HE.out, HE2.out], hHeld.2⟩
end
end Go.Proofs.YtjfllfancgmalaaGreat
namespace Go.Proofs.YtjfllfancgmalaaGreat
open Go.RowKit

/-- What a callee's search becomes when it is laid into the result's box. -/
theorem sea_fin {w w' : World} {B C : Nat} {u g : Value} {ll : List (List Int)} {F : List (Int × Int)} (ho : OwnSS w' B C u ll) (hd : OwnD w' C g F) (hB : w.heap.size + 1 < B) (hBC : B ≤ C) (hC : C ≤ w'.heap.size) (hb : Below w.heap.size w w') (b0 b1 b2 b3 b4 b5 : Value) :
    OwnSS ((((((w'.setCell ⟨w.heap.size + 1, 0, none⟩ b0).setCell ⟨w.heap.size + 1, 1, none⟩ b1).setCell ⟨w.heap.size + 1, 2, none⟩ b2).setCell ⟨w.heap.size + 1, 3, none⟩ b3).setCell ⟨w.heap.size + 1, 4, none⟩ b4).setCell ⟨w.heap.size + 1, 5, none⟩ b5) w.heap.size C u ll ∧
    OwnD ((((((w'.setCell ⟨w.heap.size + 1, 0, none⟩ b0).setCell ⟨w.heap.size + 1, 1, none⟩ b1).setCell ⟨w.heap.size + 1, 2, none⟩ b2).setCell ⟨w.heap.size + 1, 3, none⟩ b3).setCell ⟨w.heap.size + 1, 4, none⟩ b4).setCell ⟨w.heap.size + 1, 5, none⟩ b5) C g F ∧ w.heap.size ≤ C ∧
    C ≤ ((((((w'.setCell ⟨w.heap.size + 1, 0, none⟩ b0).setCell ⟨w.heap.size + 1, 1, none⟩ b1).setCell ⟨w.heap.size + 1, 2, none⟩ b2).setCell ⟨w.heap.size + 1, 3, none⟩ b3).setCell ⟨w.heap.size + 1, 4, none⟩ b4).setCell ⟨w.heap.size + 1, 5, none⟩ b5).heap.size ∧
    Below w.heap.size w ((((((w'.setCell ⟨w.heap.size + 1, 0, none⟩ b0).setCell ⟨w.heap.size + 1, 1, none⟩ b1).setCell ⟨w.heap.size + 1, 2, none⟩ b2).setCell ⟨w.heap.size + 1, 3, none⟩ b3).setCell ⟨w.heap.size + 1, 4, none⟩ b4).setCell ⟨w.heap.size + 1, 5, none⟩ b5) := by
  have hs := fun (X Y : Nat) (hX : w.heap.size + 1 < X) => six_same (B := X) (C := Y) w' (p := w.heap.size + 1) b0 b1 b2 b3 b4 b5 (.inl hX)
  exact ⟨(ho.same (hs B C hB)).base (by omega) (Nat.le_refl _), (hd.range.same (hs C w'.heap.size (by omega))).1, by omega, by simp; omega, six_below _ _ _ _ _ _ hb (by omega)⟩
theorem rsF_len (c : Int) (ll : List (List Int)) (m at_ : Int) (F : List (Int × Int)) (t b : Int) (hF : F.length ≤ 1048576) : (rsF c ll m at_ F t b).length ≤ 1048576 := by
  unfold rsF
  split
  · next h =>
    obtain ⟨C, K, n, rfl, rfl, rfl, hC1, hC5, hK, hN, -, -⟩ := isSB_all h
    have h1 := (repN_len C ll m (rnK (C : Int) ll m (K : Int) (n : Int) b)).1
    have h2 := (goN_le (C := C) (ll := ll) (m := m) (t0 := (n : Int)) (E := ((C * 2 ^ C : Nat) : Int)) (b := b) (C * 2 ^ C - K) K).2
    have h3 : rnK (C : Int) ll m (K : Int) (n : Int) b = goN C ll m (n : Int) ((C * 2 ^ C : Nat) : Int) b (C * 2 ^ C - K) K := rfl
    rw [show ((C : Int)).toNat = C from rfl]
    omega
  · exact hF
section
set_option maxRecDepth 20000
set_option maxHeartbeats 1600000
theorem implRunSearch_any (c m at_ t b : Int) (v f : Value) (ll : List (List Int)) (F : List (Int × Int)) (w : World) (hr : ReadSS w v ll) (hl : ll.length ≤ 1048576) (ht : ∀ i, i < ll.length → (ll.getD i []).length ≤ 1048576) (hf : ReadD w f F) (hF : F.length ≤ 1048576) :
    Calls Tryz.prog 6 #[srcV c v m at_ f t, .int .i64 b] w (RetSea c m (rsA c ll m at_ F t b) (rsT c ll m at_ F t b) ll (rsF c ll m at_ F t b) w) := by
  have HF := Lib.hid (fun w' (hb : Below w.heap.size w w') => implIsSearch_any c m at_ t v f ll F w' (hr.kept hb) hl ht (hf.kept hb) hF)
  have HCP := Lib.hid (fun w' (hb : Below w.heap.size w w') => seaCopied_any c m at_ t v f ll F w' (hr.kept hb) hl ht (hf.kept hb) hF)
  have HRR := Lib.hid (fun w' (hb : Below w.heap.size w w') => hr.kept hb)
  have HRF := Lib.hid (fun w' (hb : Below w.heap.size w w') => hf.kept hb)
  obtain ⟨a, cap, rfl, -⟩ := hr
  obtain ⟨af, capf, rfl, -⟩ := hf
  obtain ⟨hx, hy, hb⟩ := SBI.pair w (.int .i64 c) (.slice a ll.length cap) (.int .i64 m) (.int .i64 at_) (.slice af F.length capf) (.int .i64 t) (.int .i64 0) (.slice none 0 0) (.int .i64 0) (.int .i64 0) (.slice none 0 0) (.int .i64 0)
  have HX := Lib.hid hx
  have HY := Lib.hid hy
  have HB := Lib.hid hb
  obtain ⟨⟨c0, c1, c2, c3, c4, c5⟩, -⟩ := HX.out.cells
  clear hx hy hb ht
  cases hs : isSB c ll m at_ F t with
  | false =>
    have e1 : rsA c ll m at_ F t b = at_ := by unfold rsA; rw [hs]; rfl
    have e2 : rsT c ll m at_ F t b = t := by unfold rsT; rw [hs]; rfl
    have e3 : rsF c ll m at_ F t b = F := by unfold rsF; rw [hs]; rfl
    rw [hs] at HF
    rw [e1, e2, e3]
    unfold srcV at HF HCP ⊢
    clear hs e1 e2 e3
    go_enter Tryz.func6, Tryz.ntmps6
    go_wp2_with fail
    refine (HF.out _ HB.out).mono ?_
    rintro e w1 ⟨rfl, b1⟩
    have HB1 := Lib.hid (HB.out.trans (b1.mono HB.out.size))
    have HY1 := Lib.hid (HY.out.kept b1)
    have HX1 := Lib.hid (HX.out.kept b1)
    clear c0 c1 c2 c3 c4 c5 b1
    obtain ⟨⟨c0, c1, c2, c3, c4, c5⟩, -⟩ := HX1.out.cells
    go_wp2_with fail
    refine (HCP.out _ HB1.out).mono ?_
    rintro e w2 ⟨u, g, Cc, rfl, ou, og, hc1, hc2, b2⟩
    obtain ⟨au, capu, rfl, -⟩ := ou.read
    obtain ⟨ag, capg, rfl⟩ := og.shape
    have HFN := Lib.hid (sea_fin ou og HY1.out.lt hc1 hc2 (HB1.out.trans (b2.mono HB1.out.size)) (.int .i64 c) (.slice au ll.length capu) (.int .i64 m) (.int .i64 at_) (.slice ag F.length capg) (.int .i64 t))
    obtain ⟨⟨d0, d1, d2, d3, d4, d5⟩, g0, g1, g2, g3, g4, g5⟩ := (HY1.out.kept b2).cells
    unfold srcV
    clear c0 c1 c2 c3 c4 c5 ou og b2 hc1 hc2
    go_wp2_with fail
    exact bodyPost_ret (v := srcV c (.slice au ll.length capu) m at_ (.slice ag F.length capg) t) (by simp [srcV, results, Tryz.results6, go_sem, d0, d1, d2, d3, d4, d5]) rfl ⟨_, _, Cc, rfl, HFN.out⟩
  | true =>
    obtain ⟨C, K, n, rfl, rfl, rfl, hC1, hC5, hK, hN160, hfi, hrep⟩ := isSB_all hs
    obtain ⟨k9, hk9⟩ : ∃ k9, k9 = rnK (C : Int) ll m (K : Int) (n : Int) b := ⟨_, rfl⟩
    obtain ⟨⟨F9, n9⟩, h9⟩ : ∃ z, repN C ll m k9 = z := ⟨_, rfl⟩
    have e1 : rsA (C : Int) ll m (K : Int) F (n : Int) b = (k9 : Int) := by unfold rsA; rw [hs, ← hk9]; rfl
    have e2 : rsT (C : Int) ll m (K : Int) F (n : Int) b = (n9 : Int) := by unfold rsT; rw [hs, ← hk9, show ((C : Int)).toNat = C from rfl, h9]; rfl
    have e3 : rsF (C : Int) ll m (K : Int) F (n : Int) b = F9 := by unfold rsF; rw [hs, ← hk9, show ((C : Int)).toNat = C from rfl, h9]; rfl
    have HCO := Lib.hid (fun w' (hb : Below w.heap.size w w') => continued_any C K m 9223372036854775807 b _ _ ll F n w' (HRR.out w' hb) (HRF.out w' hb) hfi hK hrep k9 F9 n9 (by rw [if_pos (by omega)]; exact hk9.symm) h9)
    rw [hs] at HF
    rw [e1, e2, e3]
    unfold srcV at HF HCO ⊢
    clear hs e1 e2 e3 hk9 h9 hrep hfi hK hN160 HCP
    go_enter Tryz.func6, Tryz.ntmps6
    go_wp2_with fail
    refine (HF.out _ HB.out).mono ?_
    rintro e w1 ⟨rfl, b1⟩
    have HB1 := Lib.hid (HB.out.trans (b1.mono HB.out.size))
    have HY1 := Lib.hid (HY.out.kept b1)
    have HX1 := Lib.hid (HX.out.kept b1)
    clear c0 c1 c2 c3 c4 c5 b1
    obtain ⟨⟨c0, c1, c2, c3, c4, c5⟩, -⟩ := HX1.out.cells
    go_wp2_with fail
    refine (HCO.out _ HB1.out).mono ?_
    rintro e w2 ⟨u, g, Cc, rfl, ou, og, hc1, hc2, b2⟩
    obtain ⟨au, capu, rfl, -⟩ := ou.read
    obtain ⟨ag, capg, rfl⟩ := og.shape
    have HFN := Lib.hid (sea_fin ou og HY1.out.lt hc1 hc2 (HB1.out.trans (b2.mono HB1.out.size)) (.int .i64 (C : Int)) (.slice au ll.length capu) (.int .i64 m) (.int .i64 (k9 : Int)) (.slice ag F9.length capg) (.int .i64 (n9 : Int)))
    obtain ⟨⟨d0, d1, d2, d3, d4, d5⟩, g0, g1, g2, g3, g4, g5⟩ := (HY1.out.kept b2).cells
    unfold srcV
    clear c0 c1 c2 c3 c4 c5 ou og b2 hc1 hc2
    go_wp2_with fail
    exact bodyPost_ret (v := srcV (C : Int) (.slice au ll.length capu) m (k9 : Int) (.slice ag F9.length capg) (n9 : Int)) (by simp [srcV, results, Tryz.results6, go_sem, d0, d1, d2, d3, d4, d5]) rfl ⟨_, _, Cc, rfl, HFN.out⟩
end
end Go.Proofs.YtjfllfancgmalaaGreat
namespace Go.Proofs.YtjfllfancgmalaaGreat
open Go.RowKit

noncomputable def ssA (c : Int) (ll : List (List Int)) (m at_ : Int) (F : List (Int × Int)) (t : Int) : Int := if nxB c ll m at_ F t = true then at_ + 1 else at_
noncomputable def ssF (c : Int) (ll : List (List Int)) (m at_ : Int) (F : List (Int × Int)) (t : Int) : List (Int × Int) := if nxB c ll m at_ F t = true then (repN c.toNat ll m (at_.toNat + 1)).1 else F
noncomputable def ssT (c : Int) (ll : List (List Int)) (m at_ : Int) (F : List (Int × Int)) (t : Int) : Int := if nxB c ll m at_ F t = true then ((repN c.toNat ll m (at_.toNat + 1)).2 : Int) else t
theorem nxB_all {c m at_ t : Int} {ll : List (List Int)} {F : List (Int × Int)} (h : nxB c ll m at_ F t = true) : ∃ C K n : Nat, c = (C : Int) ∧ at_ = (K : Int) ∧ t = (n : Int) ∧ 1 ≤ C ∧ C ≤ 5 ∧ K < C * 2 ^ C ∧ C * 2 ^ C ≤ 160 ∧ fineT c ll m = true ∧ repN C ll m K = (F, n) := by
  unfold nxB at h
  rw [Bool.and_eq_true, Bool.not_eq_true'] at h
  obtain ⟨h1, h2⟩ := h
  obtain ⟨C, K, n, rfl, rfl, rfl, a1, a2, a3, a4, a5, a6⟩ := isSB_all h1
  refine ⟨C, K, n, rfl, rfl, rfl, a1, a2, ?_, a4, a5, a6⟩
  refine Nat.lt_of_le_of_ne a3 fun e => ?_
  unfold edB at h2
  rw [h1, Bool.true_and, decide_eq_false_iff_not, show ((C : Int)).toNat = C from rfl] at h2
  exact h2 (by rw [e])
theorem ssF_len (c : Int) (ll : List (List Int)) (m at_ : Int) (F : List (Int × Int)) (t : Int) (hF : F.length ≤ 1048576) : (ssF c ll m at_ F t).length ≤ 1048576 := by
  unfold ssF
  split
  · next h =>
    obtain ⟨C, K, n, rfl, rfl, rfl, hC1, hC5, hK, hN, -, -⟩ := nxB_all h
    have h1 := (repN_len C ll m (K + 1)).1
    rw [show ((C : Int)).toNat = C from rfl, show ((K : Int)).toNat = K from rfl]
    omega
  · exact hF
theorem goN_one {C : Nat} {ll : List (List Int)} {m : Int} {N K n : Nat} {F : List (Int × Int)} (hK : K < N) (h : repN C ll m K = (F, n)) : goN C ll m (n : Int) (if (N : Int) < (K : Int) + 1 then (N : Int) else (K : Int) + 1) 1 (N - K) K = K + 1 := by
  rw [if_neg (by omega), goN_step hK (by omega) (by rw [h]; show (n : Int) - (n : Int) < 1; omega)]
  exact goN_stop (fun h => by have := h.1; omega)
section
set_option maxRecDepth 20000
set_option maxHeartbeats 1600000
theorem implStepSearch_any (c m at_ t : Int) (v f : Value) (ll : List (List Int)) (F : List (Int × Int)) (w : World) (hr : ReadSS w v ll) (hl : ll.length ≤ 1048576) (ht : ∀ i, i < ll.length → (ll.getD i []).length ≤ 1048576) (hf : ReadD w f F) (hF : F.length ≤ 1048576) :
    Calls Tryz.prog 11 #[srcV c v m at_ f t] w (RetSeaB c m (ssA c ll m at_ F t) (ssT c ll m at_ F t) ll (ssF c ll m at_ F t) (nxB c ll m at_ F t) w) := by
  have HF := Lib.hid (fun w' (hb : Below w.heap.size w w') => implCandidateAt_any c m at_ t v f ll F w' (hr.kept hb) hl ht (hf.kept hb) hF)
  have HCP := Lib.hid (fun w' (hb : Below w.heap.size w w') => seaCopied_any c m at_ t v f ll F w' (hr.kept hb) hl ht (hf.kept hb) hF)
  have HRR := Lib.hid (fun w' (hb : Below w.heap.size w w') => hr.kept hb)
  have HRF := Lib.hid (fun w' (hb : Below w.heap.size w w') => hf.kept hb)
  obtain ⟨a, cap, rfl, -⟩ := hr
  obtain ⟨af, capf, rfl, -⟩ := hf
  obtain ⟨hx, hy, hb⟩ := SBI.pair w (.int .i64 c) (.slice a ll.length cap) (.int .i64 m) (.int .i64 at_) (.slice af F.length capf) (.int .i64 t) (.int .i64 0) (.slice none 0 0) (.int .i64 0) (.int .i64 0) (.slice none 0 0) (.int .i64 0)
  have HX := Lib.hid hx
  have HY := Lib.hid hy
  have HB := Lib.hid hb
  obtain ⟨⟨c0, c1, c2, c3, c4, c5⟩, -⟩ := HX.out.cells
  obtain ⟨⟨q0, q1⟩, hq⟩ : ∃ q, q = nxD c ll m at_ F t := ⟨_, rfl⟩
  rw [← hq] at HF
  clear hx hy hb ht hq
  cases hs : nxB c ll m at_ F t with
  | false =>
    have e1 : ssA c ll m at_ F t = at_ := by unfold ssA; rw [hs]; rfl
    have e2 : ssT c ll m at_ F t = t := by unfold ssT; rw [hs]; rfl
    have e3 : ssF c ll m at_ F t = F := by unfold ssF; rw [hs]; rfl
    rw [hs] at HF
    rw [e1, e2, e3]
    unfold srcV at HF HCP ⊢
    clear hs e1 e2 e3
    go_enter Tryz.func11, Tryz.ntmps11
    go_wp2_with fail
    refine (HF.out _ HB.out).mono ?_
    rintro e w1 ⟨rfl, b1⟩
    have hal := (Below.refl w1.heap.size w1).alloc (Nat.le_refl _) (.cells #[.int .i64 q0, .int .i64 q1] 38)
    have hb1 := HB.out.trans (b1.mono HB.out.size)
    have HB1 := Lib.hid (hb1.trans (hal.mono hb1.size))
    have HY1 := Lib.hid ((HY.out.kept b1).kept hal)
    have HX1 := Lib.hid ((HX.out.kept b1).kept hal)
    clear c0 c1 c2 c3 c4 c5 b1 hal hb1
    obtain ⟨⟨c0, c1, c2, c3, c4, c5⟩, -⟩ := HX1.out.cells
    go_wp2_with fail
    refine (HCP.out _ HB1.out).mono ?_
    rintro e w2 ⟨u, g, Cc, rfl, ou, og, hc1, hc2, b2⟩
    obtain ⟨au, capu, rfl, -⟩ := ou.read
    obtain ⟨ag, capg, rfl⟩ := og.shape
    have HFN := Lib.hid (sea_fin ou og HY1.out.lt hc1 hc2 (HB1.out.trans (b2.mono HB1.out.size)) (.int .i64 c) (.slice au ll.length capu) (.int .i64 m) (.int .i64 at_) (.slice ag F.length capg) (.int .i64 t))
    obtain ⟨⟨d0, d1, d2, d3, d4, d5⟩, g0, g1, g2, g3, g4, g5⟩ := (HY1.out.kept b2).cells
    unfold srcV
    clear c0 c1 c2 c3 c4 c5 ou og b2 hc1 hc2
    go_wp2_with fail
    exact bodyPost_ret (v := .tuple #[srcV c (.slice au ll.length capu) m at_ (.slice ag F.length capg) t, .bool false]) (by simp [srcV, results, Tryz.results11, go_sem, d0, d1, d2, d3, d4, d5]) rfl ⟨_, _, Cc, rfl, HFN.out⟩
  | true =>
    obtain ⟨C, K, n, rfl, rfl, rfl, hC1, hC5, hK, hN160, hfi, hrep⟩ := nxB_all hs
    obtain ⟨⟨F9, n9⟩, h9⟩ : ∃ z, repN C ll m (K + 1) = z := ⟨_, rfl⟩
    have e1 : ssA (C : Int) ll m (K : Int) F (n : Int) = ((K + 1 : Nat) : Int) := by unfold ssA; rw [hs]; simp
    have e2 : ssT (C : Int) ll m (K : Int) F (n : Int) = (n9 : Int) := by unfold ssT; rw [hs, show ((C : Int)).toNat = C from rfl, show ((K : Int)).toNat = K from rfl, h9]; rfl
    have e3 : ssF (C : Int) ll m (K : Int) F (n : Int) = F9 := by unfold ssF; rw [hs, show ((C : Int)).toNat = C from rfl, show ((K : Int)).toNat = K from rfl, h9]; rfl
    have HCO := Lib.hid (fun w' (hb : Below w.heap.size w w') => continued_any C K m ((K : Int) + 1) 1 _ _ ll F n w' (HRR.out w' hb) (HRF.out w' hb) hfi (Nat.le_of_lt hK) hrep (K + 1) F9 n9 (goN_one hK hrep) h9)
    have hk1 : IntKind.i64.wrap ((K : Int) + 1) = (K : Int) + 1 := IntWalk.i64_in _ (by omega)
    obtain ⟨k9, hk9⟩ : ∃ k9, k9 = ((K + 1 : Nat) : Int) := ⟨_, rfl⟩
    rw [← hk9] at e1 HCO
    rw [hs] at HF
    rw [e1, e2, e3]
    unfold srcV at HF HCO ⊢
    clear hs e1 e2 e3 h9 hrep hfi hK hN160 HCP hk9
    go_enter Tryz.func11, Tryz.ntmps11
    go_wp2_with fail
    refine (HF.out _ HB.out).mono ?_
    rintro e w1 ⟨rfl, b1⟩
    have hal := (Below.refl w1.heap.size w1).alloc (Nat.le_refl _) (.cells #[.int .i64 q0, .int .i64 q1] 38)
    have hb1 := HB.out.trans (b1.mono HB.out.size)
    have HB1 := Lib.hid (hb1.trans (hal.mono hb1.size))
    have HY1 := Lib.hid ((HY.out.kept b1).kept hal)
    have HX1 := Lib.hid ((HX.out.kept b1).kept hal)
    clear c0 c1 c2 c3 c4 c5 b1 hal hb1
    obtain ⟨⟨c0, c1, c2, c3, c4, c5⟩, -⟩ := HX1.out.cells
    go_wp2_with fail
    refine (HCO.out _ HB1.out).mono ?_
    rintro e w2 ⟨u, g, Cc, rfl, ou, og, hc1, hc2, b2⟩
    obtain ⟨au, capu, rfl, -⟩ := ou.read
    obtain ⟨ag, capg, rfl⟩ := og.shape
    have HFN := Lib.hid (sea_fin ou og HY1.out.lt hc1 hc2 (HB1.out.trans (b2.mono HB1.out.size)) (.int .i64 (C : Int)) (.slice au ll.length capu) (.int .i64 m) (.int .i64 k9) (.slice ag F9.length capg) (.int .i64 (n9 : Int)))
    obtain ⟨⟨d0, d1, d2, d3, d4, d5⟩, g0, g1, g2, g3, g4, g5⟩ := (HY1.out.kept b2).cells
    unfold srcV
    clear c0 c1 c2 c3 c4 c5 ou og b2 hc1 hc2
    go_wp2_with fail
    exact bodyPost_ret (v := .tuple #[srcV (C : Int) (.slice au ll.length capu) m k9 (.slice ag F9.length capg) (n9 : Int), .bool true]) (by simp [srcV, results, Tryz.results11, go_sem, d0, d1, d2, d3, d4, d5]) rfl ⟨_, _, Cc, rfl, HFN.out⟩
end
end Go.Proofs.YtjfllfancgmalaaGreat
