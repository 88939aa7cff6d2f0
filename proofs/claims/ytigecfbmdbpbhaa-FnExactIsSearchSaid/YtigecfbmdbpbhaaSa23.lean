/- Texts of this claim, merged: SrB, SeaJ, DepO, SeaO. Conditions: as stated. -/
import Derived.Test.YtigecfbmdbpbhaaSa22
import Derived.Test.YtigecfbmdbpbhaaSa14
import Derived.Test.YtigecfbmdbpbhaaSa13
import Derived.Test.YtigecfbmdbpbhaaSa11
import Derived.Lib.SmallJoins
import Derived.Deep.SlicePairs
import Derived.Test.YtigecfbmdbpbhaaSa12
namespace Go.Proofs.Ytigecfbmdbpbhaa
open Go.RowKit

theorem goN_all {C : Nat} {ll : List (List Int)} {m t0 b : Int} {N E : Nat} (hN : N ≤ 160) (hE : E ≤ N) (h0 : 0 ≤ t0) (hb : 160 < b) : ∀ d k, k + d = E → goN C ll m t0 (E : Int) b (N - k) k = E
  | 0, k, h => by
    obtain rfl : k = E := by omega
    exact goN_stop (fun h => by have := h.1; omega)
  | d + 1, k, h => by
    have hl := (repN_len C ll m k).2
    rw [goN_step (by omega) (by omega) (by omega)]
    exact goN_all hN hE h0 hb d (k + 1) (by omega)
/-- Where a search that is run anew up to a given number stops. -/
theorem goN_is {C : Nat} {ll : List (List Int)} {m b : Int} {N : Nat} (hN : N ≤ 160) (hb : 160 < b) (at_ : Int) : goN C ll m 0 (if (N : Int) < at_ then (N : Int) else at_) b (N - 0) 0 = (if (N : Int) < at_ then N else at_.toNat) := by
  by_cases h : (N : Int) < at_
  · rw [if_pos h, if_pos h]
    exact goN_all hN (Nat.le_refl _) (Int.le_refl _) hb N 0 (by omega)
  · rw [if_neg h, if_neg h]
    by_cases h0 : 0 ≤ at_
    · obtain ⟨E, rfl⟩ : ∃ E : Nat, at_ = (E : Int) := ⟨at_.toNat, by omega⟩
      exact goN_all hN (by omega) (Int.le_refl _) hb E 0 (by simp)
    · rw [goN_stop (fun h => by have := h.1; omega)]
      omega
theorem isS_eq {C : Nat} {ll : List (List Int)} {m at_ t : Int} {F F9 : List (Int × Int)} {n9 k9 : Nat} (hT : fineT (C : Int) ll m = true) (hk : k9 = (if ((C * 2 ^ C : Nat) : Int) < at_ then C * 2 ^ C else at_.toNat)) (h9 : repN C ll m k9 = (F9, n9)) :
    eqSea (C : Int) (C : Int) ll ll m m at_ (k9 : Int) F F9 t (n9 : Int) = isSB (C : Int) ll m at_ F t := by
  unfold eqSea isSB
  rw [eqTb_self, hT, show ((C : Int)).toNat = C from rfl, beq_self_eq_true, Bool.true_and, Bool.true_and, Bool.true_and]
  by_cases hin : 0 ≤ at_ ∧ at_ ≤ ((C * 2 ^ C : Nat) : Int)
  · rw [if_neg (by omega)] at hk
    rw [decide_eq_true hin, show (at_ == (k9 : Int)) = true from by rw [beq_iff_eq]; omega, ← hk, h9]
    congr 1
  · rw [decide_eq_false hin, show (at_ == (k9 : Int)) = false from by
      rw [beq_eq_false_iff_ne]
      intro e
      by_cases h : ((C * 2 ^ C : Nat) : Int) < at_
      · rw [if_pos h] at hk; omega
      · rw [if_neg h] at hk; omega]
    rfl
theorem keepS2 {w0 w' w'' : World} {b b2 : Nat} {c m at_ t c2 m2 at2 t2 : Int} {v f v2 f2 : Value} (h : (SBx w' b c v m at_ f t ∧ SBx w' b2 c2 v2 m2 at2 f2 t2) ∧ Below w0.heap.size w0 w') (hb : Below w'.heap.size w' w'') : (SBx w'' b c v m at_ f t ∧ SBx w'' b2 c2 v2 m2 at2 f2 t2) ∧ Below w0.heap.size w0 w'' := ⟨⟨h.1.1.kept hb, h.1.2.kept hb⟩, h.2.trans (hb.mono h.2.size)⟩
section
set_option maxRecDepth 20000
set_option maxHeartbeats 1600000
theorem implIsSearch_any (c m at_ t : Int) (v f : Value) (ll : List (List Int)) (F : List (Int × Int)) (w : World) (hr : ReadSS w v ll) (hl : ll.length ≤ 1048576) (ht : ∀ i, i < ll.length → (ll.getD i []).length ≤ 1048576) (hf : ReadD w f F) (hF : F.length ≤ 1048576) :
    Calls Try.prog 21 #[srcV c v m at_ f t] w fun e w' => e = .returned (.bool (isSB c ll m at_ F t)) ∧ Below w.heap.size w w' := by
  have HNS := Lib.hid (fun w' (hb : Below w.heap.size w w') => implNewSearch_any c m v ll w' (hr.kept hb) hl ht)
  have HES := Lib.hid (fun (w' : World) (hb : Below w.heap.size w w') (c' m' at' t' : Int) (v' f' : Value) (ll' : List (List Int)) (F' : List (Int × Int)) h1 h2 h3 => implEqualSearches_any c c' m m' at_ at' t t' v v' f f' ll ll' F F' w' (hr.kept hb) h1 (Nat.le_trans hl (by decide)) (fun i hi => Nat.le_trans (ht i hi) (by decide)) (hf.kept hb) h2 hF h3)
  have HB1 := Lib.hid ((Below.refl w.heap.size w).alloc (Nat.le_refl _) (.cells #[.int .i64 c, v, .int .i64 m, .int .i64 at_, f, .int .i64 t] 29))
  have HSB := Lib.hid (SBx.mk' w 29 c v m at_ f t)
  obtain ⟨a, cap, rfl, -⟩ := hr
  obtain ⟨af, capf, rfl, -⟩ := hf
  obtain ⟨⟨c0, c1⟩, ⟨c2, c3⟩, c4, c5⟩ := HSB.out
  unfold srcV at HES ⊢
  clear ht
  cases hfi : fineT c ll m with
  | false =>
    have HE : Hid (isSB c ll m at_ F t = false) := Lib.hid (by unfold isSB; rw [hfi]; rfl)
    rw [hfi] at HNS
    clear hfi HES
    go_enter Try.func21, Try.ntmps21
    go_wp2_with fail
    refine (HNS.out _ HB1.out).mono ?_
    rintro e w1 ⟨u, g, Cc, rfl, ou, og, -, -, b1⟩
    obtain ⟨au, capu, rfl, -⟩ := ou.read
    obtain ⟨ag, capg, rfl⟩ := og.shape
    have hb2 := HB1.out.trans (b1.mono HB1.out.size)
    have hb3 := hb2.alloc hb2.size (.cells #[.int .i64 (nsC c ll m), .slice au (nsL c ll m).length capu, .int .i64 (nsM c ll m), .int .i64 0, .slice ag 0 capg, .int .i64 0] 29)
    have HB3 := Lib.hid hb3
    unfold srcV
    clear b1 c0 c1 c2 c3 c4 c5 ou og hb2 hb3
    go_wp2_with fail
    go_quiet (fail)
    go_wp2_with fail
    go_ret
    exact ⟨by rw [HE.out]; rfl, below_drewN HB3.out _⟩
  | true =>
    have hT := fineT_isT hfi
    obtain ⟨hc1, hc5, h40⟩ := isT_bd hT
    obtain ⟨C, rfl⟩ : ∃ C : Nat, c = (C : Int) := ⟨c.toNat, by omega⟩
    have hC5 : C ≤ 5 := by omega
    have h32 := two5 hC5
    have hN160 : C * 2 ^ C ≤ 160 := by
      have : C * 2 ^ C ≤ 5 * 32 := Nat.mul_le_mul hC5 h32
      omega
    have e1 : nsC (C : Int) ll m = (C : Int) := by unfold nsC; rw [hfi]; rfl
    have e2 : nsM (C : Int) ll m = m := by unfold nsM; rw [hfi]; rfl
    have e3 : nsL (C : Int) ll m = ll := by unfold nsL; rw [hfi]; rfl
    rw [hfi, e1, e2, e3] at HNS
    obtain ⟨k9, hk9⟩ : ∃ k9, k9 = (if ((C * 2 ^ C : Nat) : Int) < at_ then C * 2 ^ C else at_.toNat) := ⟨_, rfl⟩
    obtain ⟨⟨F9, n9⟩, h9⟩ : ∃ z, repN C ll m k9 = z := ⟨_, rfl⟩
    have hlen9 := (repN_len C ll m k9).1
    rw [h9] at hlen9
    simp only at hlen9
    have hk9' : k9 ≤ C * 2 ^ C := by rw [hk9]; split <;> omega
    have HE := Lib.hid (isS_eq (t := t) (F := F) hfi hk9 h9)
    have HCO := Lib.hid (fun (u g : Value) w' hu hg => continued_any C 0 m at_ 9223372036854775807 u g ll [] 0 w' hu hg hfi (Nat.zero_le _) rfl k9 F9 n9 (by rw [hk9]; exact goN_is hN160 (by decide) at_) h9)
    have HEQ := Lib.hid (fun w' hb (u9 g9 : Value) h1 h2 => HES.out w' hb (C : Int) m (k9 : Int) (n9 : Int) u9 g9 ll F9 h1 h2 (by omega))
    unfold srcV at HCO
    clear HES hfi hT hc1 hc5 h40 h32 hN160 e1 e2 e3 hk9 h9 hlen9 hk9'
    go_enter Try.func21, Try.ntmps21
    go_wp2_with fail
    refine (HNS.out _ HB1.out).mono ?_
    rintro e w1 ⟨u, g, Cc, rfl, ou, og, -, -, b1⟩
    have hru := ou.read
    have hrg := og.read
    obtain ⟨au, capu, rfl, -⟩ := ou.read
    obtain ⟨ag, capg, rfl⟩ := og.shape
    have hb1 := HB1.out.trans (b1.mono HB1.out.size)
    have hal := (Below.refl w1.heap.size w1).alloc (Nat.le_refl _) (.cells #[.int .i64 (C : Int), .slice au ll.length capu, .int .i64 m, .int .i64 0, .slice ag 0 capg, .int .i64 0] 29)
    have HB2 := Lib.hid (hb1.trans (hal.mono hb1.size))
    have HS1 := Lib.hid ((HSB.out.kept b1).kept hal)
    have HS2 := Lib.hid (SBx.mk' w1 29 (C : Int) (.slice au ll.length capu) m 0 (.slice ag 0 capg) 0)
    have HRU := Lib.hid (hru.kept hal)
    have HRG := Lib.hid (hrg.kept hal)
    obtain ⟨⟨c0, c1⟩, ⟨c2, c3⟩, c4, c5⟩ := HS1.out
    obtain ⟨⟨d0, d1⟩, ⟨d2, d3⟩, d4, d5⟩ := HS2.out
    unfold srcV
    clear b1 ou og hru hrg hb1 hal
    clear c0 c1 c2 c3 c4 c5 d0 d1 d2 d3 d4 d5
    obtain ⟨⟨c0, c1⟩, ⟨c2, c3⟩, c4, c5⟩ := HS1.out
    obtain ⟨⟨d0, d1⟩, ⟨d2, d3⟩, d4, d5⟩ := HS2.out
    go_wp2_with fail
    refine wp_region_noPanic ?_
    refine wp_region_held_drew (S := (fun w' => (((w'.cell? ⟨w.heap.size, 0, none⟩ = some (.int .i64 (C : Int)) ∧ w'.cell? ⟨w.heap.size, 1, none⟩ = some (.slice a ll.length cap)) ∧ (w'.cell? ⟨w.heap.size, 2, none⟩ = some (.int .i64 m) ∧ w'.cell? ⟨w.heap.size, 3, none⟩ = some (.int .i64 at_)) ∧ w'.cell? ⟨w.heap.size, 4, none⟩ = some (.slice af F.length capf) ∧ w'.cell? ⟨w.heap.size, 5, none⟩ = some (.int .i64 t)) ∧ ((w'.cell? ⟨w1.heap.size, 0, none⟩ = some (.int .i64 (C : Int)) ∧ w'.cell? ⟨w1.heap.size, 1, none⟩ = some (.slice au ll.length capu)) ∧ (w'.cell? ⟨w1.heap.size, 2, none⟩ = some (.int .i64 m) ∧ w'.cell? ⟨w1.heap.size, 3, none⟩ = some (.int .i64 0)) ∧ w'.cell? ⟨w1.heap.size, 4, none⟩ = some (.slice ag 0 capg) ∧ w'.cell? ⟨w1.heap.size, 5, none⟩ = some (.int .i64 0))) ∧ Below (w1.alloc (.cells #[.int .i64 (C : Int), .slice au ll.length capu, .int .i64 m, .int .i64 0, .slice ag 0 capg, .int .i64 0] 29)).heap.size (w1.alloc (.cells #[.int .i64 (C : Int), .slice au ll.length capu, .int .i64 m, .int .i64 0, .slice ag 0 capg, .int .i64 0] 29)) w')) (by kernel_rfl) ?_ (fun hHeld => ?_)
    · ((try dsimp only); (first | exact keepS2 hHeld b92 | exact keepS2 hHeld b91 | exact ⟨⟨⟨⟨c0, c1⟩, ⟨c2, c3⟩, c4, c5⟩, ⟨d0, d1⟩, ⟨d2, d3⟩, d4, d5⟩, (Below.refl _ _).drew⟩))
    refine wpAnyH_take (i := 0) (v := ?_) rfl (by kernel_rfl) (by kernel_rfl) (by kernel_rfl) (fun _ _ _ h => h) (Or.inl ⟨by rfl, ?_⟩) (by assumption) ?_
    rotate_left
    · (intro w hSw; (try dsimp only at hSw); go_simp; (try with_reducible rfl))
    (try simp only [Act.put, List.getElem_toArray, List.getElem_cons_zero, List.setIfInBounds_toArray, List.set_cons_zero, List.set_cons_succ])
    refine wpAnyH_take (i := 1) (v := ?_) rfl (by kernel_rfl) (by kernel_rfl) (by kernel_rfl) (fun _ _ _ h => h) (Or.inl ⟨by rfl, ?_⟩) (by assumption) ?_
    rotate_left
    · (intro w hSw; (try dsimp only at hSw); go_simp; (try with_reducible rfl))
    (try simp only [Act.put, List.getElem_toArray, List.getElem_cons_succ, List.getElem_cons_zero, List.setIfInBounds_toArray, List.set_cons_zero, List.set_cons_succ])
    refine wpAnyH_take (i := 2) (v := ?_) rfl (by kernel_rfl) (by kernel_rfl) (by kernel_rfl) (fun _ _ _ h => h) (Or.inl ⟨by rfl, ?_⟩) (by assumption) ?_
    rotate_left
    · (intro w hSw; (try dsimp only at hSw); go_simp; (try with_reducible rfl))
    (try simp only [Act.put, List.getElem_toArray, List.getElem_cons_succ, List.getElem_cons_zero, List.setIfInBounds_toArray, List.set_cons_zero, List.set_cons_succ])
    refine wpAnyH_take (i := 3) (v := ?_) rfl (by kernel_rfl) (by kernel_rfl) (by kernel_rfl) (fun _ _ _ h => h) (Or.inl ⟨by rfl, ?_⟩) (by assumption) ?_
    rotate_left
    · (intro w hSw; (try dsimp only at hSw); go_simp; (try with_reducible rfl))
    (try simp only [Act.put, List.getElem_toArray, List.getElem_cons_succ, List.getElem_cons_zero, List.setIfInBounds_toArray, List.set_cons_zero, List.set_cons_succ])
    refine wpAnyH_take (i := 4) (v := ?_) rfl (by kernel_rfl) (by kernel_rfl) (by kernel_rfl) (fun _ _ _ h => h) (Or.inl ⟨by rfl, ?_⟩) (by assumption) ?_
    rotate_left
    · (intro w hSw; (try dsimp only at hSw); go_simp; (try with_reducible rfl))
    (try simp only [Act.put, List.getElem_toArray, List.getElem_cons_succ, List.getElem_cons_zero, List.setIfInBounds_toArray, List.set_cons_zero, List.set_cons_succ])
    refine wpAnyH_take (i := 5) (v := ?_) rfl (by kernel_rfl) (by kernel_rfl) (by kernel_rfl) (fun _ _ _ h => h) (Or.inl ⟨by rfl, ?_⟩) (by assumption) ?_
    rotate_left
    · (intro w hSw; (try dsimp only at hSw); go_simp; (try with_reducible rfl))
    (try simp only [Act.put, List.getElem_toArray, List.getElem_cons_succ, List.getElem_cons_zero, List.setIfInBounds_toArray, List.set_cons_zero, List.set_cons_succ])
    refine wpAnyH_ready (rs := [6]) (by kernel_rfl) (by simp) (AllReadyH.cons rfl (fun K hK => ?_) AllReadyH.nil)
    (first | ((first | (go_at_call 49; refine (HCO.out _ _ _ (HRU.out.kept hHeld.2) (HRG.out.kept hHeld.2)).mono ?_; rintro e w91 ⟨u9, g9, C9, rfl, ou9, og9, -, -, b91⟩; have HR9 := Lib.hid (And.intro ou9.read og9.read); clear ou9 og9; obtain ⟨au9, capu9, rfl, -⟩ := HR9.out.1; obtain ⟨ag9, capg9, rfl, -⟩ := HR9.out.2; unfold srcV) | (go_at_call 30; refine (HEQ.out _ (HB2.out.trans (hHeld.2.mono HB2.out.size)) _ _ HR9.out.1 HR9.out.2).mono ?_; rintro e w92 ⟨rfl, b92⟩))) | (go_simp; (first | (go_at_call 49; refine (HCO.out _ _ _ (HRU.out.kept hHeld.2) (HRG.out.kept hHeld.2)).mono ?_; rintro e w91 ⟨u9, g9, C9, rfl, ou9, og9, -, -, b91⟩; have HR9 := Lib.hid (And.intro ou9.read og9.read); clear ou9 og9; obtain ⟨au9, capu9, rfl, -⟩ := HR9.out.1; obtain ⟨ag9, capg9, rfl, -⟩ := HR9.out.2; unfold srcV) | (go_at_call 30; refine (HEQ.out _ (HB2.out.trans (hHeld.2.mono HB2.out.size)) _ _ HR9.out.1 HR9.out.2).mono ?_; rintro e w92 ⟨rfl, b92⟩))))
    (try (go_wp2_with fail))
    refine hK.out _ _ ?_ (fun hHeld => ?_)
    · ((try dsimp only); (first | exact keepS2 hHeld b92 | exact keepS2 hHeld b91 | exact ⟨⟨⟨⟨c0, c1⟩, ⟨c2, c3⟩, c4, c5⟩, ⟨d0, d1⟩, ⟨d2, d3⟩, d4, d5⟩, (Below.refl _ _).drew⟩))
    clear hK K
    (try simp only [Act.put, List.getElem_toArray, List.getElem_cons_succ, List.getElem_cons_zero, List.setIfInBounds_toArray, List.set_cons_zero, List.set_cons_succ])
    refine wpAnyH_ready (rs := [7]) (by kernel_rfl) (by simp) (AllReadyH.cons rfl (fun K hK => ?_) AllReadyH.nil)
    (first | ((first | (go_at_call 49; refine (HCO.out _ _ _ (HRU.out.kept hHeld.2) (HRG.out.kept hHeld.2)).mono ?_; rintro e w91 ⟨u9, g9, C9, rfl, ou9, og9, -, -, b91⟩; have HR9 := Lib.hid (And.intro ou9.read og9.read); clear ou9 og9; obtain ⟨au9, capu9, rfl, -⟩ := HR9.out.1; obtain ⟨ag9, capg9, rfl, -⟩ := HR9.out.2; unfold srcV) | (go_at_call 30; refine (HEQ.out _ (HB2.out.trans (hHeld.2.mono HB2.out.size)) _ _ HR9.out.1 HR9.out.2).mono ?_; rintro e w92 ⟨rfl, b92⟩))) | (go_simp; (first | (go_at_call 49; refine (HCO.out _ _ _ (HRU.out.kept hHeld.2) (HRG.out.kept hHeld.2)).mono ?_; rintro e w91 ⟨u9, g9, C9, rfl, ou9, og9, -, -, b91⟩; have HR9 := Lib.hid (And.intro ou9.read og9.read); clear ou9 og9; obtain ⟨au9, capu9, rfl, -⟩ := HR9.out.1; obtain ⟨ag9, capg9, rfl, -⟩ := HR9.out.2; unfold srcV) | (go_at_call 30; refine (HEQ.out _ (HB2.out.trans (hHeld.2.mono HB2.out.size)) _ _ HR9.out.1 HR9.out.2).mono ?_; rintro e w92 ⟨rfl, b92⟩))))
    (try (go_wp2_with fail))
    refine hK.out _ _ ?_ (fun hHeld => ?_)
    · ((try dsimp only); (first | exact keepS2 hHeld b92 | exact keepS2 hHeld b91 | exact ⟨⟨⟨⟨c0, c1⟩, ⟨c2, c3⟩, c4, c5⟩, ⟨d0, d1⟩, ⟨d2, d3⟩, d4, d5⟩, (Below.refl _ _).drew⟩))
    clear hK K
    (try simp only [Act.put, List.getElem_toArray, List.getElem_cons_succ, List.getElem_cons_zero, List.setIfInBounds_toArray, List.set_cons_zero, List.set_cons_succ])
    refine wpAnyH_take (i := 8) (v := ?_) rfl (by kernel_rfl) (by kernel_rfl) (by kernel_rfl) (fun _ _ _ h => h) (Or.inl ⟨by rfl, ?_⟩) (by assumption) ?_
    rotate_left
    · (intro w hSw; (try dsimp only at hSw); go_simp; (try with_reducible rfl))
    (try simp only [Act.put, List.getElem_toArray, List.getElem_cons_succ, List.getElem_cons_zero, List.setIfInBounds_toArray, List.set_cons_zero, List.set_cons_succ])
    refine wpAnyH_take (i := 9) (v := ?_) rfl (by kernel_rfl) (by kernel_rfl) (by kernel_rfl) (fun _ _ _ h => h) (Or.inl ⟨by rfl, ?_⟩) (by assumption) ?_
    rotate_left
    · (intro w hSw; (try dsimp only at hSw); go_simp; (try with_reducible rfl))
    (try simp only [Act.put, List.getElem_toArray, List.getElem_cons_succ, List.getElem_cons_zero, List.setIfInBounds_toArray, List.set_cons_zero, List.set_cons_succ])
    refine wpAnyH_done (by kernel_rfl) ?_ _
    refine NoPanic.normal ?_
    go_wp2_with fail
    go_ret
    exact ⟨ret_b HE.out.symm, HB2.out.trans (hHeld.2.mono HB2.out.size)⟩
end
end Go.Proofs.Ytigecfbmdbpbhaa
namespace Go.Proofs.Ytigecfbmdbpbhaa
open Go.RowKit

def MarkSea (k : Int) (ll : List (List Int)) (F : List (Int × Int)) (B C D : Nat) (v f : Value) (w : World) (e : Ending) (w' : World) : Prop :=
  e = .returned (.int .i64 (k + (tot ll : Int) + 2 * (F.length : Int))) ∧ OwnSS w' B C v (upRows k ll) ∧ OwnDR w' C D f (upD (k + (tot ll : Int)) F.length) ∧ Mid B D w w'
section
set_option maxRecDepth 20000
set_option maxHeartbeats 800000
theorem markSearch_any (c m at_ t : Int) (v f : Value) (ll : List (List Int)) (F : List (Int × Int)) (k : Int) (B C D : Nat) (w : World) (ho : OwnSS w B C v ll) (hf : OwnDR w C D f F) (hBC : B ≤ C) (hCD : C ≤ D) (hD : D ≤ w.heap.size)
    (hl : ll.length ≤ 1048576) (ht : tot ll ≤ 1048576) (hF : F.length ≤ 1048576) (hk0 : 0 ≤ k) (hk1 : k ≤ 1048576) :
    Calls Try.prog 16 #[srcV c v m at_ f t, .int .i64 k] w (MarkSea k ll F B C D v f w) := by
  have HK := Lib.hid (fun (w' : World) (ho : OwnSS w' B C v ll) (hC : C ≤ w'.heap.size) => markTable_any c v ll k B C w' ho hC hl ht hk0 hk1)
  have HD := Lib.hid (fun (w' : World) (hf : OwnDR w' C D f F) => markDepR_any f F (k + (tot ll : Int)) C D w' hf hF (by omega) (by omega))
  obtain ⟨a, cap, rfl, -⟩ := ho.read
  obtain ⟨af, capf, rfl, -⟩ := hf.read
  have ho2 := ho.same (w' := w.alloc (.cells #[.int .i64 c, .slice a ll.length cap, .int .i64 m, .int .i64 at_, .slice af F.length capf, .int .i64 t] 29)) (fun q _ hq => Below.heap_alloc _ _ _ (by omega))
  have hf2 := hf.same (w' := w.alloc (.cells #[.int .i64 c, .slice a ll.length cap, .int .i64 m, .int .i64 at_, .slice af F.length capf, .int .i64 t] 29)) (fun q _ hq => Below.heap_alloc _ _ _ (by omega))
  have HF2 := Lib.hid hf2
  have HM := Lib.hid ((Mid.ofBelow ((Below.refl w.heap.size w).alloc (Nat.le_refl _) (.cells #[.int .i64 c, .slice a ll.length cap, .int .i64 m, .int .i64 at_, .slice af F.length capf, .int .i64 t] 29))) : Mid B D w _)
  have HS := Lib.hid (SBx.mk' w 29 c (.slice a ll.length cap) m at_ (.slice af F.length capf) t)
  obtain ⟨⟨c0, c1⟩, ⟨c2, c3⟩, c4, c5⟩ := HS.out
  unfold srcV
  clear ho hf hf2
  go_enter Try.func16, Try.ntmps16
  go_wp2_with fail
  refine (HK.out _ ho2 (by simp; omega)).mono ?_
  rintro e w1 ⟨rfl, ho3, hm⟩
  have hf3 := HF2.out.same (hm.same (B' := C) (C' := D) (by simp; omega) (.inr (Nat.le_refl _)))
  have c4' := cell_eqb c4 (hm.block w.heap.size (by simp) (.inr (by omega)))
  have HO3 := Lib.hid ho3
  have HM1 := Lib.hid hm
  clear c0 c1 c2 c3 c4 c5 ho3 hm
  go_wp2_with fail
  refine (HD.out _ hf3).mono ?_
  rintro e w2 ⟨rfl, hf4, hm2⟩
  have ho4 := HO3.out.same (hm2.same (B' := B) (C' := C) (by have := HM1.out.size; simp at this; omega) (.inl (Nat.le_refl _)))
  go_wp2_with fail
  go_ret
  exact ⟨rfl, ho4, hf4, HM.out.trans ((HM1.out.sub (Nat.le_refl _) hCD).trans (hm2.sub hBC (Nat.le_refl _)))⟩
theorem heldSearch_any (c m at_ t : Int) (v f : Value) (ll : List (List Int)) (n : Nat) (k : Int) (w : World) (hr : ReadSS w v (upRows k ll)) (hf : ReadD w f (upD (k + (tot ll : Int)) n))
    (hl : ll.length ≤ 1048576) (ht : tot ll ≤ 1048576) (hF : n ≤ 1048576) (hk0 : 0 ≤ k) (hk1 : k ≤ 1048576) :
    Calls Try.prog 17 #[srcV c v m at_ f t, .int .i64 k] w fun e w' => e = .returned (.int .i64 (k + (tot ll : Int) + 2 * (n : Int))) ∧ Below w.heap.size w w' := by
  have HK := Lib.hid (fun (w' : World) (hb : Below w.heap.size w w') => heldTable_any c v ll k w' (hr.kept hb) hl ht hk0 hk1)
  have HD := Lib.hid (fun (w' : World) (hb : Below w.heap.size w w') => heldDepR_any f n (k + (tot ll : Int)) w' (hf.kept hb) hF (by omega) (by omega))
  obtain ⟨a, cap, rfl, -⟩ := hr
  obtain ⟨af, capf, rfl, -⟩ := hf
  rw [upRows_len] at *
  rw [upD_length] at *
  have hb1 := (Below.refl w.heap.size w).alloc (Nat.le_refl _) (.cells #[.int .i64 c, .slice a ll.length cap, .int .i64 m, .int .i64 at_, .slice af n capf, .int .i64 t] 29)
  have HS := Lib.hid (SBx.mk' w 29 c (.slice a ll.length cap) m at_ (.slice af n capf) t)
  have HB := Lib.hid hb1
  obtain ⟨⟨c0, c1⟩, ⟨c2, c3⟩, c4, c5⟩ := HS.out
  have g0 : decide (k + (tot ll : Int) < 0) = false := decide_eq_false (by omega)
  have g1 : decide (k + (tot ll : Int) + 2 * (n : Int) < 0) = false := decide_eq_false (by omega)
  unfold srcV
  clear hb1
  go_enter Try.func17, Try.ntmps17
  go_wp2_with fail
  refine (HK.out _ HB.out).mono ?_
  rintro e w1 ⟨rfl, b1⟩
  have hb2 := HB.out.trans (b1.mono HB.out.size)
  have HS1 := Lib.hid (HS.out.kept b1)
  clear c0 c1 c2 c3 c4 c5 b1
  obtain ⟨⟨c0, c1⟩, ⟨c2, c3⟩, c4, c5⟩ := HS1.out
  go_wp2_with fail
  refine (HD.out _ hb2).mono ?_
  rintro e w2 ⟨rfl, hw2⟩
  go_wp2_with fail
  go_ret
  exact ⟨rfl, hb2.trans (hw2.mono hb2.size)⟩
end
end Go.Proofs.Ytigecfbmdbpbhaa
namespace Go.Proofs.Ytigecfbmdbpbhaa
open Go.ChangeShapes Go.WideShapes Go.Joins Go.RowKit Go.Deep

theorem cellsDep : Try.prog.cellsOf 88 = 2 := by kernel_rfl
section
variable {H : Type} {enc : TypeId × Value → H} {w : World} {base : Nat} {held : Bool}
set_option maxRecDepth 20000 in
theorem open_dep {r : Reach} {b0 : Nat} {v : Value} {d : DataW H} {p : List MemPlace} (hv : Value.okWide Try.prog w r b0 88 v) (h : DataW.Trod enc Try.prog w base (fun _ => true) held 88 v d p) :
    ∃ x y : Int, v = .agg #[.int .i64 x, .int .i64 y] ∧ (Lit.int .i64 x).wf = true ∧ (Lit.int .i64 y).wf = true := by
  obtain ⟨c0, c1, y0, y1, m, rfl, -, -, hy0, hy1⟩ := open_agg2 Try.underlying88 (by kernel_rfl) cellsDep hv h
  obtain ⟨n, hn, -, hwf⟩ := DataW.trod_int Try.underlying3 hy0
  obtain ⟨n', hn', -, hwf'⟩ := DataW.trod_int Try.underlying3 hy1
  simp at hn hn'
  subst hn hn'
  exact ⟨n, n', rfl, hwf, hwf'⟩
set_option maxRecDepth 20000 in
theorem open_deps {fuel : Nat} {v : Value} {x : DataW H × List MemPlace} (h : DataW.trod enc Try.prog w base (fun _ => true) held fuel 38 [v] = some x) : ∃ ds, ReadD w v ds ∧ ds.length ≤ maxLen ∧ ∀ d ∈ ds, (Lit.int .i64 d.1).wf = true ∧ (Lit.int .i64 d.2).wf = true := by
  rcases open_slice_pairs Try.underlying38 Try.underlying88 cellsDep rfl rfl (by kernel_rfl) (by kernel_rfl) h with ⟨hcs, -⟩ | ⟨a, len, cap, m, n, V0, V1, D0, D1, P0, P1, hcs, -, hl, hm, hmm, -, hr⟩
  · simp at hcs
    subst hcs
    exact ⟨[], ⟨none, 0, rfl, fun i hi => absurd hi (Nat.not_lt_zero _)⟩, Nat.zero_le _, fun d hd => by cases hd⟩
  · simp at hcs
    subst hcs
    simp at hmm
    subst hmm
    have hx : ∀ i, i < m → ∃ p : Int × Int, V0 i = .int .i64 p.1 ∧ V1 i = .int .i64 p.2 ∧ (Lit.int .i64 p.1).wf = true ∧ (Lit.int .i64 p.2).wf = true := fun i hi => by
      obtain ⟨-, -, h0, h1⟩ := hr i hi
      obtain ⟨n0, e0, -, w0⟩ := DataW.trod_int Try.underlying3 h0
      obtain ⟨n1, e1, -, w1⟩ := DataW.trod_int Try.underlying3 h1
      simp at e0 e1
      exact ⟨(n0, n1), e0, e1, w0, w1⟩
    let f : Nat → Int × Int := fun i => if h : i < m then Classical.choose (hx i h) else (0, 0)
    have hf : ∀ i, i < m → V0 i = .int .i64 (f i).1 ∧ V1 i = .int .i64 (f i).2 ∧ (Lit.int .i64 (f i).1).wf = true ∧ (Lit.int .i64 (f i).2).wf = true := fun i hi => by
      have := Classical.choose_spec (hx i hi)
      simp only [f, dif_pos hi]
      exact this
    have hlen : ((List.range len).map f).length = len := by simp
    refine ⟨(List.range len).map f, ⟨some a, m, by rw [hlen], fun i hi => ?_⟩, by rw [hlen]; omega, fun d hd => ?_⟩
    · rw [hlen] at hi
      obtain ⟨c0, c1, -, -⟩ := hr i (by omega)
      obtain ⟨e0, e1, -, -⟩ := hf i (by omega)
      obtain ⟨b, o, s⟩ := a
      have hs : s = none := by
        obtain ⟨g0, -, -, -⟩ := hr 0 (by omega)
        rw [Nat.zero_mul, Addr.add_zero'] at g0
        unfold World.cell? at g0
        cases s with
        | none => rfl
        | some z =>
          simp only at g0
          split at g0 <;> simp at g0
      subst hs
      have hg : ((List.range len).map f).getD i (0, 0) = f i := by rw [List.getD_eq_getElem?_getD, List.getElem?_eq_getElem (by rw [hlen]; exact hi)]; simp
      rw [hg]
      refine ⟨b, o, rfl, ?_, ?_⟩
      · rw [← e0, ← c0]
        unfold Addr.add
        split
        · next h => rw [h, Nat.add_zero]
        · rfl
      · rw [← e1, ← c1]
        unfold Addr.add
        rw [if_neg (by omega)]
        rfl
    · obtain ⟨i, hi, rfl⟩ := List.mem_map.1 hd
      have := List.mem_range.1 hi
      exact (hf i (by omega)).2.2
end
end Go.Proofs.Ytigecfbmdbpbhaa
namespace Go.Proofs.Ytigecfbmdbpbhaa
open Go.ChangeShapes Go.WideShapes Go.Joins Go.RowKit Go.Deep

theorem cellsSea : Try.prog.cellsOf 40 = 6 := by kernel_rfl
theorem cellsInt : Try.prog.cellsOf 3 = 1 := by kernel_rfl
theorem cellsDS : Try.prog.cellsOf 38 = 1 := by kernel_rfl
theorem cellsSS : Try.prog.cellsOf 22 = 1 := by kernel_rfl
theorem array6 {α : Type} {cs : Array α} (h : cs.size = 6) : ∃ c0 c1 c2 c3 c4 c5, cs = #[c0, c1, c2, c3, c4, c5] := by
  obtain ⟨l⟩ := cs
  match l, h with
  | [c0, c1, c2, c3, c4, c5], _ => exact ⟨c0, c1, c2, c3, c4, c5, rfl⟩
section
variable {H : Type} {enc : TypeId × Value → H} {P : Program} {w : World} {base : Nat} {spare : Nat → Bool} {held : Bool}
theorem trod_struct5 {t : TypeId} {f0 f1 f2 f3 f4 : Field} {fuel : Nat} {cs : List Value} {x : DataW H × List MemPlace} (ht : P.underlying t = some (.struct #[f0, f1, f2, f3, f4])) (h : DataW.trod enc P w base spare held fuel t cs = some x) :
    ∃ y0 y1 y2 y3 y4 n, DataW.trod enc P w base spare held n f0.type ((cs.drop f0.offset).take (P.cellsOf f0.type)) = some y0 ∧
      DataW.trod enc P w base spare held n f1.type ((cs.drop f1.offset).take (P.cellsOf f1.type)) = some y1 ∧ DataW.trod enc P w base spare held n f2.type ((cs.drop f2.offset).take (P.cellsOf f2.type)) = some y2 ∧
      DataW.trod enc P w base spare held n f3.type ((cs.drop f3.offset).take (P.cellsOf f3.type)) = some y3 ∧ DataW.trod enc P w base spare held n f4.type ((cs.drop f4.offset).take (P.cellsOf f4.type)) = some y4 := by
  obtain ⟨xs, n, _, rfl, hl, hlen, hf⟩ := DataW.trod_struct ht h
  match xs, hlen with
  | [y0, y1, y2, y3, y4], _ => exact ⟨y0, y1, y2, y3, y4, n, by simpa using hf 0 f0 rfl, by simpa using hf 1 f1 rfl, by simpa using hf 2 f2 rfl, by simpa using hf 3 f3 rfl, by simpa using hf 4 f4 rfl⟩
end
section
variable {H : Type} {enc : TypeId × Value → H} {w : World} {base : Nat} {held : Bool}
set_option maxRecDepth 20000 in
theorem open_search {r : Reach} {b0 : Nat} {v : Value} {d : DataW H} {p : List MemPlace} (hv : Value.okWide Try.prog w r b0 40 v) (h : DataW.Trod enc Try.prog w base (fun _ => true) held 40 v d p) :
    ∃ (c : Int) (u : Value) (m at_ : Int) (f : Value) (t : Int) (ll : List (List Int)) (F : List (Int × Int)), v = srcV c u m at_ f t ∧ (Lit.int .i64 m).wf = true ∧ ReadSS w u ll ∧ Short ll ∧ ReadD w f F ∧ F.length ≤ maxLen := by
  obtain ⟨cs, rfl, hsz⟩ := okWide_struct Try.underlying40 hv
  obtain ⟨c0, c1, c2, c3, c4, c5, rfl⟩ := array6 (hsz.trans cellsSea)
  obtain ⟨fuel, hf⟩ := h
  obtain ⟨y0, y1, y2, y3, y4, n, h0, h1, h2, h3, h4⟩ := trod_struct5 Try.underlying40 hf
  simp only [cellsInt, cellsTab, cellsDS, Value.cells] at h0 h1 h2 h3 h4
  simp at h0 h1 h2 h3 h4
  obtain ⟨z0, z1, n2, -, -, k0, k1⟩ := trod_struct2 Try.underlying24 h0
  simp only [cellsInt, cellsSS] at k0 k1
  simp at k0 k1
  obtain ⟨c, e0, -, -⟩ := DataW.trod_int Try.underlying3 k0
  obtain ⟨m, e2, -, wm⟩ := DataW.trod_int Try.underlying3 h1
  obtain ⟨a, e3, -, -⟩ := DataW.trod_int Try.underlying3 h2
  obtain ⟨t, e5, -, -⟩ := DataW.trod_int Try.underlying3 h4
  simp at e0 e2 e3 e5
  subst e0 e2 e3 e5
  obtain ⟨ll, r1, r2⟩ := open_rows k1
  obtain ⟨F, r3, r4, -⟩ := open_deps h3
  exact ⟨c, c1, m, a, c4, t, ll, F, rfl, wm, r1, r2, r3, r4⟩
end
end Go.Proofs.Ytigecfbmdbpbhaa
