/- The program's chapter 13: IsThird, DecomposeBoyce, by contract. Conditions: as stated. -/
import Derived.Test.YtcgkfbjdlhapkaaPnHm
namespace Go.Proofs.Ytcgkfbjdlhapkaa
open Go.RowKit

theorem i64_of {l : List Int} (h : ∀ y ∈ l, ∃ S : Nat, y = (S : Int) ∧ S < 32) : I64s l := fun y hy => by
  obtain ⟨S, rfl, hS⟩ := h y hy
  omega
theorem dv_all (b C : Nat) (v : Value) (l : List (Int × Int)) (ok : MnOk C l) : ∀ k, k ≤ 6 → DvOk b C v l k
  | 0, hk => dv_step b C v l ok 0 hk (fun j h => by omega)
  | k + 1, hk => dv_step b C v l ok (k + 1) hk (fun j h => by
    obtain rfl : j = k := by omega
    exact dv_all b C v l ok j (by omega))
theorem divided_any (b C : Nat) (v : Value) (l : List (Int × Int)) (ok : MnOk C l) (T : Nat) (hT : T < 32) (hTC : T < 2 ^ C) (w : World) (he : MnE w b C v l) :
    Calls Try.prog 66 #[.agg #[.int .i64 (T : Int), .func (.func 99) #[] #[.pointer (some ⟨b + 1, 0, none⟩)], .func (.func 100) #[] #[.pointer (some ⟨b, 0, none⟩), .pointer (some ⟨b + 1, 0, none⟩)], .func (.func 102) #[] #[.pointer (some ⟨b, 0, none⟩), .pointer (some ⟨b + 1, 0, none⟩)]]] w (RetI (dvN (C : Int) l 6 T) w) := dv_all b C v l ok 6 (Nat.le_refl _) T hT hTC (Nat.le_trans (popN_le _) (by decide)) w he
section
set_option maxRecDepth 20000
set_option maxHeartbeats 3200000
theorem implIsThird_any (v : Value) (n s : Int) (l : List (Int × Int)) (_w0 : (Lit.int .i64 n).wf = true) (bdl : ∀ d ∈ l, (Lit.int .i64 d.1).wf = true ∧ (Lit.int .i64 d.2).wf = true) (_w2 : (Lit.int .i64 s).wf = true) (w : World) (hr : ReadD w v l) (hl : l.length ≤ 1048576) :
    Calls Try.prog 29 #[.int .i64 n, v, .int .i64 s] w fun e w' => e = .returned (.bool (thB n l s)) ∧ Below w.heap.size w w' := by
  cases hf : fineN n l s with
  | false =>
    have HS := Lib.hid (schema_no v n s l _w0 bdl _w2 hf w hr hl)
    have HE : Hid (thB n l s = false) := Lib.hid (by unfold thB; rw [hf]; rfl)
    rw [HE.out]
    obtain ⟨a, cap, rfl, -⟩ := hr
    clear hf bdl
    go_enter Try.func29, Try.ntmps29
    go_wp2_with fail
    refine HS.out.mono ?_
    rintro e w2 ⟨rfl, b2⟩
    have HB2 := Lib.hid (b2.alloc b2.size (.cells #[.int .i64 0, .nilFunc, .nilFunc, .nilFunc] 69))
    clear b2
    go_upto_region 11 with fail
    have HB9 := HB2.out
    obtain ⟨W2, hW⟩ : ∃ W2, W2 = (w2.alloc (.cells #[.int .i64 0, .nilFunc, .nilFunc, .nilFunc] 69)) := ⟨_, rfl⟩
    rw [← hW] at HB9 ⊢
    clear hW
    refine wp_region_noPanic ?_
    refine wp_region_held_drew (S := (fun w' => Below w.heap.size w w')) (by kernel_rfl) ?_ (fun hHeld => ?_)
    · ((try dsimp only); exact HB9.drew)
    refine wpAnyH_take (i := 0) (v := ?_) rfl (by kernel_rfl) (by kernel_rfl) (by kernel_rfl) (fun _ _ _ h => h) (Or.inl ⟨by rfl, ?_⟩) (by assumption) ?_
    rotate_left
    · (intro w hSw; (try dsimp only at hSw); go_simp; (try with_reducible rfl))
    (try simp only [Act.put, List.getElem_toArray, List.getElem_cons_zero, List.setIfInBounds_toArray, List.set_cons_zero, List.set_cons_succ])
    refine wpAnyH_take (i := 1) (v := ?_) rfl (by kernel_rfl) (by kernel_rfl) (by kernel_rfl) (fun _ _ _ h => h) (Or.inl ⟨by rfl, ?_⟩) (by assumption) ?_
    rotate_left
    · (intro w hSw; (try dsimp only at hSw); go_simp; (try with_reducible rfl))
    (try simp only [Act.put, List.getElem_toArray, List.getElem_cons_succ, List.getElem_cons_zero, List.setIfInBounds_toArray, List.set_cons_zero, List.set_cons_succ])
    refine wpAnyH_take (i := 2) (v := undef) rfl (by kernel_rfl) (by kernel_rfl) (by kernel_rfl) (fun _ _ _ h => h) (Or.inr ⟨by rfl, rfl⟩) (by assumption) ?_
    (try simp only [Act.put, List.getElem_toArray, List.getElem_cons_succ, List.getElem_cons_zero, List.setIfInBounds_toArray, List.set_cons_zero, List.set_cons_succ])
    refine wpAnyH_take (i := 3) (v := undef) rfl (by kernel_rfl) (by kernel_rfl) (by kernel_rfl) (fun _ _ _ h => h) (Or.inr ⟨by rfl, rfl⟩) (by assumption) ?_
    (try simp only [Act.put, List.getElem_toArray, List.getElem_cons_succ, List.getElem_cons_zero, List.setIfInBounds_toArray, List.set_cons_zero, List.set_cons_succ])
    refine wpAnyH_take (i := 4) (v := undef) rfl (by kernel_rfl) (by kernel_rfl) (by kernel_rfl) (fun _ _ _ h => h) (Or.inr ⟨by rfl, rfl⟩) (by assumption) ?_
    (try simp only [Act.put, List.getElem_toArray, List.getElem_cons_succ, List.getElem_cons_zero, List.setIfInBounds_toArray, List.set_cons_zero, List.set_cons_succ])
    refine wpAnyH_take (i := 5) (v := undef) rfl (by kernel_rfl) (by kernel_rfl) (by kernel_rfl) (fun _ _ _ h => h) (Or.inr ⟨by rfl, rfl⟩) (by assumption) ?_
    (try simp only [Act.put, List.getElem_toArray, List.getElem_cons_succ, List.getElem_cons_zero, List.setIfInBounds_toArray, List.set_cons_zero, List.set_cons_succ])
    refine wpAnyH_take (i := 6) (v := undef) rfl (by kernel_rfl) (by kernel_rfl) (by kernel_rfl) (fun _ _ _ h => h) (Or.inr ⟨by rfl, rfl⟩) (by assumption) ?_
    (try simp only [Act.put, List.getElem_toArray, List.getElem_cons_succ, List.getElem_cons_zero, List.setIfInBounds_toArray, List.set_cons_zero, List.set_cons_succ])
    refine wpAnyH_take (i := 7) (v := undef) rfl (by kernel_rfl) (by kernel_rfl) (by kernel_rfl) (fun _ _ _ h => h) (Or.inr ⟨by rfl, rfl⟩) (by assumption) ?_
    (try simp only [Act.put, List.getElem_toArray, List.getElem_cons_succ, List.getElem_cons_zero, List.setIfInBounds_toArray, List.set_cons_zero, List.set_cons_succ])
    refine wpAnyH_take (i := 8) (v := undef) rfl (by kernel_rfl) (by kernel_rfl) (by kernel_rfl) (fun _ _ _ h => h) (Or.inr ⟨by rfl, rfl⟩) (by assumption) ?_
    (try simp only [Act.put, List.getElem_toArray, List.getElem_cons_succ, List.getElem_cons_zero, List.setIfInBounds_toArray, List.set_cons_zero, List.set_cons_succ])
    refine wpAnyH_take (i := 9) (v := undef) rfl (by kernel_rfl) (by kernel_rfl) (by kernel_rfl) (fun _ _ _ h => h) (Or.inr ⟨by rfl, rfl⟩) (by assumption) ?_
    (try simp only [Act.put, List.getElem_toArray, List.getElem_cons_succ, List.getElem_cons_zero, List.setIfInBounds_toArray, List.set_cons_zero, List.set_cons_succ])
    refine wpAnyH_take (i := 10) (v := undef) rfl (by kernel_rfl) (by kernel_rfl) (by kernel_rfl) (fun _ _ _ h => h) (Or.inr ⟨by rfl, rfl⟩) (by assumption) ?_
    (try simp only [Act.put, List.getElem_toArray, List.getElem_cons_succ, List.getElem_cons_zero, List.setIfInBounds_toArray, List.set_cons_zero, List.set_cons_succ])
    refine wpAnyH_take (i := 11) (v := undef) rfl (by kernel_rfl) (by kernel_rfl) (by kernel_rfl) (fun _ _ _ h => h) (Or.inr ⟨by rfl, rfl⟩) (by assumption) ?_
    (try simp only [Act.put, List.getElem_toArray, List.getElem_cons_succ, List.getElem_cons_zero, List.setIfInBounds_toArray, List.set_cons_zero, List.set_cons_succ])
    refine wpAnyH_take (i := 12) (v := undef) rfl (by kernel_rfl) (by kernel_rfl) (by kernel_rfl) (fun _ _ _ h => h) (Or.inr ⟨by rfl, rfl⟩) (by assumption) ?_
    (try simp only [Act.put, List.getElem_toArray, List.getElem_cons_succ, List.getElem_cons_zero, List.setIfInBounds_toArray, List.set_cons_zero, List.set_cons_succ])
    refine wpAnyH_take (i := 13) (v := ?_) rfl (by kernel_rfl) (by kernel_rfl) (by kernel_rfl) (fun _ _ _ h => h) (Or.inl ⟨by rfl, ?_⟩) (by assumption) ?_
    rotate_left
    · (intro w hSw; (try dsimp only at hSw); go_simp; (try with_reducible rfl))
    (try simp only [Act.put, List.getElem_toArray, List.getElem_cons_succ, List.getElem_cons_zero, List.setIfInBounds_toArray, List.set_cons_zero, List.set_cons_succ])
    refine wpAnyH_take (i := 14) (v := ?_) rfl (by kernel_rfl) (by kernel_rfl) (by kernel_rfl) (fun _ _ _ h => h) (Or.inl ⟨by rfl, ?_⟩) (by assumption) ?_
    rotate_left
    · (intro w hSw; (try dsimp only at hSw); go_simp; (try with_reducible rfl))
    (try simp only [Act.put, List.getElem_toArray, List.getElem_cons_succ, List.getElem_cons_zero, List.setIfInBounds_toArray, List.set_cons_zero, List.set_cons_succ])
    refine wpAnyH_done (by kernel_rfl) ?_ _
    refine NoPanic.normal ?_
    clear HB9
    go_wp2_with fail
    go_ret
    exact ⟨rfl, hHeld⟩
  | true =>
    obtain ⟨C, T, rfl, rfl, ok, hsT, hT, hTC⟩ := fine_nat hf _w0 bdl hl
    obtain ⟨P, hP, hP32⟩ := kwL_or (W := T) ok.h5 l
    have HS := Lib.hid (schema_yes C T v l ok hsT w hr)
    have HOF := Lib.hid (fun b w' (he : MnE w' b C v l) => offenders_any b C v l ok T P hT w' he)
    have HKY := Lib.hid (fun b w' (he : MnE w' b C v l) => mnKey_any b C v l ok T hT w' he)
    have hkl : (kwL l C T).length ≤ 32 := minS_len _
    have HUN := Lib.hid (fun v' w' (h : ReadI w' v' (kwL l C T)) => union_any v' (kwL l C T) w' h (by omega))
    rw [hP] at HUN
    have HE : Hid (thB (C : Int) l (T : Int) = decide ((ofL (C : Int) l T P).length = 0)) := Lib.hid (by rw [th_ofL ok.h5 hTC l hP, hf, Bool.true_and])
    rw [HE.out]
    obtain ⟨F, hF⟩ : ∃ F, F = ofL (C : Int) l T P := ⟨_, rfl⟩
    rw [← hF] at HOF ⊢
    obtain ⟨KS, hKS⟩ : ∃ F, F = kwL l C T := ⟨_, rfl⟩
    rw [← hKS] at HKY HUN
    obtain ⟨a, cap, rfl, -⟩ := hr
    clear hf bdl ok hsT hF hT hTC HE hP hP32 hKS hkl
    go_enter Try.func29, Try.ntmps29
    go_wp2_with fail
    refine HS.out.mono ?_
    rintro e w2 ⟨b, rfl, he, b2⟩
    have hb3 := (Below.refl w2.heap.size w2).alloc (Nat.le_refl _) (.cells #[.int .i64 (T : Int), .func (.func 99) #[] #[.pointer (some ⟨b + 1, 0, none⟩)], .func (.func 100) #[] #[.pointer (some ⟨b, 0, none⟩), .pointer (some ⟨b + 1, 0, none⟩)], .func (.func 102) #[] #[.pointer (some ⟨b, 0, none⟩), .pointer (some ⟨b + 1, 0, none⟩)]] 69)
    have HB2 := Lib.hid (b2.alloc b2.size (.cells #[.int .i64 (T : Int), .func (.func 99) #[] #[.pointer (some ⟨b + 1, 0, none⟩)], .func (.func 100) #[] #[.pointer (some ⟨b, 0, none⟩), .pointer (some ⟨b + 1, 0, none⟩)], .func (.func 102) #[] #[.pointer (some ⟨b, 0, none⟩), .pointer (some ⟨b + 1, 0, none⟩)]] 69))
    have HEN := Lib.hid (he.kept hb3)
    have HX2 := Lib.hid (SBk.new w2 T b)
    have c0 := HX2.out.c0
    have c1 := HX2.out.c1
    have c2 := HX2.out.c2
    have c3 := HX2.out.c3
    clear b2 hb3 he
    go_upto_region 11 with fail
    obtain ⟨W2, hW⟩ : ∃ W2, W2 = (w2.alloc (.cells #[.int .i64 (T : Int), .func (.func 99) #[] #[.pointer (some ⟨b + 1, 0, none⟩)], .func (.func 100) #[] #[.pointer (some ⟨b, 0, none⟩), .pointer (some ⟨b + 1, 0, none⟩)], .func (.func 102) #[] #[.pointer (some ⟨b, 0, none⟩), .pointer (some ⟨b + 1, 0, none⟩)]] 69)) := ⟨_, rfl⟩
    rw [← hW] at c0 c1 c2 c3 HB2 HEN ⊢
    clear hW
    refine wp_region_noPanic ?_
    refine wp_region_held_drew (S := (fun w' => (w'.cell? ⟨w2.heap.size, 0, none⟩ = some (.int .i64 (T : Int)) ∧ w'.cell? ⟨w2.heap.size, 1, none⟩ = some (.func (.func 99) #[] #[.pointer (some ⟨b + 1, 0, none⟩)]) ∧ w'.cell? ⟨w2.heap.size, 2, none⟩ = some (.func (.func 100) #[] #[.pointer (some ⟨b, 0, none⟩), .pointer (some ⟨b + 1, 0, none⟩)]) ∧ w'.cell? ⟨w2.heap.size, 3, none⟩ = some (.func (.func 102) #[] #[.pointer (some ⟨b, 0, none⟩), .pointer (some ⟨b + 1, 0, none⟩)])) ∧ Below W2.heap.size W2 w')) (by kernel_rfl) ?_ (fun hHeld => ?_)
    · ((try dsimp only); exact ⟨⟨c0, c1, c2, c3⟩, (Below.refl _ _).drew⟩)
    refine wpAnyH_take (i := 0) (v := ?_) rfl (by kernel_rfl) (by kernel_rfl) (by kernel_rfl) (fun _ _ _ h => h) (Or.inl ⟨by rfl, ?_⟩) (by assumption) ?_
    rotate_left
    · (intro w hSw; (try dsimp only at hSw); go_simp; (try with_reducible rfl))
    (try simp only [Act.put, List.getElem_toArray, List.getElem_cons_zero, List.setIfInBounds_toArray, List.set_cons_zero, List.set_cons_succ])
    refine wpAnyH_take (i := 1) (v := ?_) rfl (by kernel_rfl) (by kernel_rfl) (by kernel_rfl) (fun _ _ _ h => h) (Or.inl ⟨by rfl, ?_⟩) (by assumption) ?_
    rotate_left
    · (intro w hSw; (try dsimp only at hSw); go_simp; (try with_reducible rfl))
    (try simp only [Act.put, List.getElem_toArray, List.getElem_cons_succ, List.getElem_cons_zero, List.setIfInBounds_toArray, List.set_cons_zero, List.set_cons_succ])
    refine wpAnyH_take (i := 2) (v := ?_) rfl (by kernel_rfl) (by kernel_rfl) (by kernel_rfl) (fun _ _ _ h => h) (Or.inl ⟨by rfl, ?_⟩) (by assumption) ?_
    rotate_left
    · (intro w hSw; (try dsimp only at hSw); go_simp; (try with_reducible rfl))
    (try simp only [Act.put, List.getElem_toArray, List.getElem_cons_succ, List.getElem_cons_zero, List.setIfInBounds_toArray, List.set_cons_zero, List.set_cons_succ])
    refine wpAnyH_take (i := 3) (v := ?_) rfl (by kernel_rfl) (by kernel_rfl) (by kernel_rfl) (fun _ _ _ h => h) (Or.inl ⟨by rfl, ?_⟩) (by assumption) ?_
    rotate_left
    · (intro w hSw; (try dsimp only at hSw); go_simp; (try with_reducible rfl))
    (try simp only [Act.put, List.getElem_toArray, List.getElem_cons_succ, List.getElem_cons_zero, List.setIfInBounds_toArray, List.set_cons_zero, List.set_cons_succ])
    refine wpAnyH_take (i := 4) (v := ?_) rfl (by kernel_rfl) (by kernel_rfl) (by kernel_rfl) (fun _ _ _ h => h) (Or.inl ⟨by rfl, ?_⟩) (by assumption) ?_
    rotate_left
    · (intro w hSw; (try dsimp only at hSw); go_simp; (try with_reducible rfl))
    (try simp only [Act.put, List.getElem_toArray, List.getElem_cons_succ, List.getElem_cons_zero, List.setIfInBounds_toArray, List.set_cons_zero, List.set_cons_succ])
    refine wpAnyH_take (i := 5) (v := ?_) rfl (by kernel_rfl) (by kernel_rfl) (by kernel_rfl) (fun _ _ _ h => h) (Or.inl ⟨by rfl, ?_⟩) (by assumption) ?_
    rotate_left
    · (intro w hSw; (try dsimp only at hSw); go_simp; (try with_reducible rfl))
    (try simp only [Act.put, List.getElem_toArray, List.getElem_cons_succ, List.getElem_cons_zero, List.setIfInBounds_toArray, List.set_cons_zero, List.set_cons_succ])
    refine wpAnyH_take (i := 6) (v := ?_) rfl (by kernel_rfl) (by kernel_rfl) (by kernel_rfl) (fun _ _ _ h => h) (Or.inl ⟨by rfl, ?_⟩) (by assumption) ?_
    rotate_left
    · (intro w hSw; (try dsimp only at hSw); go_simp; (try with_reducible rfl))
    (try simp only [Act.put, List.getElem_toArray, List.getElem_cons_succ, List.getElem_cons_zero, List.setIfInBounds_toArray, List.set_cons_zero, List.set_cons_succ])
    refine wpAnyH_take (i := 7) (v := ?_) rfl (by kernel_rfl) (by kernel_rfl) (by kernel_rfl) (fun _ _ _ h => h) (Or.inl ⟨by rfl, ?_⟩) (by assumption) ?_
    rotate_left
    · (intro w hSw; (try dsimp only at hSw); go_simp; (try with_reducible rfl))
    (try simp only [Act.put, List.getElem_toArray, List.getElem_cons_succ, List.getElem_cons_zero, List.setIfInBounds_toArray, List.set_cons_zero, List.set_cons_succ])
    refine wpAnyH_ready (rs := [8]) (by kernel_rfl) (by simp) (AllReadyH.cons rfl (fun K hK => ?_) AllReadyH.nil)
    (first | (go_at_call 102; refine (HKY.out b _ (HEN.out.kept hHeld.2)).mono ?_; rintro e w91 ⟨v91, rfl, o91, b91⟩) | (go_simp; go_at_call 102; refine (HKY.out b _ (HEN.out.kept hHeld.2)).mono ?_; rintro e w91 ⟨v91, rfl, o91, b91⟩))
    (try (go_wp2_with fail))
    refine hK.out _ _ ?_ (fun hHeld => ?_)
    · ((try dsimp only); exact ⟨⟨keep_in hHeld.1.1 b91, keep_in hHeld.1.2.1 b91, keep_in hHeld.1.2.2.1 b91, keep_in hHeld.1.2.2.2 b91⟩, hHeld.2.trans (b91.mono hHeld.2.size)⟩)
    clear hK K
    (try simp only [Act.put, List.getElem_toArray, List.getElem_cons_succ, List.getElem_cons_zero, List.setIfInBounds_toArray, List.set_cons_zero, List.set_cons_succ])
    refine wpAnyH_ready (rs := [9]) (by kernel_rfl) (by simp) (AllReadyH.cons rfl (fun K hK => ?_) AllReadyH.nil)
    (first | (go_at_call 45; refine (HUN.out v91 _ o91.read).mono ?_; rintro e w92 ⟨rfl, b92⟩) | (go_simp; go_at_call 45; refine (HUN.out v91 _ o91.read).mono ?_; rintro e w92 ⟨rfl, b92⟩))
    (try (go_wp2_with fail))
    refine hK.out _ _ ?_ (fun hHeld => ?_)
    · ((try dsimp only); exact ⟨⟨keep_in hHeld.1.1 b92, keep_in hHeld.1.2.1 b92, keep_in hHeld.1.2.2.1 b92, keep_in hHeld.1.2.2.2 b92⟩, hHeld.2.trans (b92.mono hHeld.2.size)⟩)
    clear hK K
    (try simp only [Act.put, List.getElem_toArray, List.getElem_cons_succ, List.getElem_cons_zero, List.setIfInBounds_toArray, List.set_cons_zero, List.set_cons_succ])
    refine wpAnyH_ready (rs := [10]) (by kernel_rfl) (by simp) (AllReadyH.cons rfl (fun K hK => ?_) AllReadyH.nil)
    (first | (go_at_call 59; refine (HOF.out b _ (HEN.out.kept hHeld.2)).mono ?_; rintro e w93 ⟨v93, rfl, o93, b93⟩; obtain ⟨a93, k93, rfl⟩ := o93.shape) | (go_simp; go_at_call 59; refine (HOF.out b _ (HEN.out.kept hHeld.2)).mono ?_; rintro e w93 ⟨v93, rfl, o93, b93⟩; obtain ⟨a93, k93, rfl⟩ := o93.shape))
    (try (go_wp2_with fail))
    refine hK.out _ _ ?_ (fun hHeld => ?_)
    · ((try dsimp only); exact ⟨⟨keep_in hHeld.1.1 b93, keep_in hHeld.1.2.1 b93, keep_in hHeld.1.2.2.1 b93, keep_in hHeld.1.2.2.2 b93⟩, hHeld.2.trans (b93.mono hHeld.2.size)⟩)
    clear hK K
    (try simp only [Act.put, List.getElem_toArray, List.getElem_cons_succ, List.getElem_cons_zero, List.setIfInBounds_toArray, List.set_cons_zero, List.set_cons_succ])
    refine wpAnyH_take (i := 11) (v := ?_) rfl (by kernel_rfl) (by kernel_rfl) (by kernel_rfl) (fun _ _ _ h => h) (Or.inl ⟨by rfl, ?_⟩) (by assumption) ?_
    rotate_left
    · (intro w hSw; (try dsimp only at hSw); go_simp; (try with_reducible rfl))
    (try simp only [Act.put, List.getElem_toArray, List.getElem_cons_succ, List.getElem_cons_zero, List.setIfInBounds_toArray, List.set_cons_zero, List.set_cons_succ])
    refine wpAnyH_take (i := 12) (v := ?_) rfl (by kernel_rfl) (by kernel_rfl) (by kernel_rfl) (fun _ _ _ h => h) (Or.inl ⟨by rfl, ?_⟩) (by assumption) ?_
    rotate_left
    · (intro w hSw; (try dsimp only at hSw); go_simp; (try with_reducible rfl))
    (try simp only [Act.put, List.getElem_toArray, List.getElem_cons_succ, List.getElem_cons_zero, List.setIfInBounds_toArray, List.set_cons_zero, List.set_cons_succ])
    refine wpAnyH_take (i := 13) (v := ?_) rfl (by kernel_rfl) (by kernel_rfl) (by kernel_rfl) (fun _ _ _ h => h) (Or.inl ⟨by rfl, ?_⟩) (by assumption) ?_
    rotate_left
    · (intro w hSw; (try dsimp only at hSw); go_simp; (try with_reducible rfl))
    (try simp only [Act.put, List.getElem_toArray, List.getElem_cons_succ, List.getElem_cons_zero, List.setIfInBounds_toArray, List.set_cons_zero, List.set_cons_succ])
    refine wpAnyH_take (i := 14) (v := ?_) rfl (by kernel_rfl) (by kernel_rfl) (by kernel_rfl) (fun _ _ _ h => h) (Or.inl ⟨by rfl, ?_⟩) (by assumption) ?_
    rotate_left
    · (intro w hSw; (try dsimp only at hSw); go_simp; (try with_reducible rfl))
    (try simp only [Act.put, List.getElem_toArray, List.getElem_cons_succ, List.getElem_cons_zero, List.setIfInBounds_toArray, List.set_cons_zero, List.set_cons_succ])
    refine wpAnyH_done (by kernel_rfl) ?_ _
    refine NoPanic.normal ?_
    have HB3 := Lib.hid (HB2.out.trans (hHeld.2.mono HB2.out.size))
    clear hHeld c0 c1 c2 c3
    have HDE : Hid (decide (F.length = 0) = ((F.length : Int) == 0)) := Lib.hid (by rw [Bool.eq_iff_iff, decide_eq_true_iff, beq_iff_eq]; omega)
    go_wp2_with fail
    go_ret
    exact ⟨ret_b HDE.out, HB3.out⟩
theorem implDecomposeBoyce_any (v : Value) (n : Int) (l : List (Int × Int)) (_w0 : (Lit.int .i64 n).wf = true) (bd : ∀ d ∈ l, (Lit.int .i64 d.1).wf = true ∧ (Lit.int .i64 d.2).wf = true) (w : World) (hr : ReadD w v l) (hl : l.length ≤ 1048576) :
    Calls Try.prog 31 #[.int .i64 n, v] w (RetI (dcL n l) w) := by
  cases ha : arD n l with
  | false =>
    have HE : Hid (dcL n l = []) := Lib.hid (by unfold dcL; rw [ha]; rfl)
    rw [HE.out]
    have HM := Lib.hid (meaning_no v n l _w0 bd ha w hr hl)
    obtain ⟨a, cap, rfl, -⟩ := hr
    clear ha bd
    go_enter Try.func31, Try.ntmps31
    go_wp2_with fail
    refine HM.out.mono ?_
    rintro e w2 ⟨rfl, b2⟩
    have HB2 := Lib.hid (b2.alloc b2.size (.cells #[.nilFunc, .nilFunc, .nilFunc] 67))
    clear b2
    go_wp2_with fail
    go_ret
    exact ⟨_, rfl, OwnI.none _ _, HB2.out⟩
  | true =>
    obtain ⟨C, rfl, ok⟩ := MnOk.of ha _w0 bd hl
    have h32 := two5 ok.h5
    have hp := Nat.pow_pos (n := C) (show 0 < 2 by decide)
    have HM := Lib.hid (meaning_yes C v l ok w hr)
    have HFC := Lib.hid (fun w' => full_any11 C ok.h5 w')
    have HDV := Lib.hid (fun b w' (he : MnE w' b C v l) => divided_any b C v l ok (2 ^ C - 1) (by omega) (by omega) w' he)
    have hdl : (dvN (C : Int) l 6 (2 ^ C - 1)).length ≤ 64 := Nat.le_trans (dvN_len _ _ _ _) (by decide)
    have hdb := dv_bd (l := l) ok.h5 (f := 6) (T := 2 ^ C - 1) (by omega) (by omega) (Nat.le_trans (popN_le _) (by decide))
    have HMX := Lib.hid (fun v' w' (h : ReadI w' v' (dvN (C : Int) l 6 (2 ^ C - 1))) => implMaximalM_any v' _ w' h (by omega) (i64_of hdb))
    rw [dv_max ha] at HMX
    obtain ⟨F, hF⟩ : ∃ F, F = 2 ^ C - 1 := ⟨_, rfl⟩
    rw [← hF] at HFC HDV HMX
    obtain ⟨a, cap, rfl, -⟩ := hr
    clear ha bd ok h32 hp hdl hdb hF
    go_enter Try.func31, Try.ntmps31
    go_wp2_with fail
    refine HM.out.mono ?_
    rintro e w2 ⟨b, rfl, he, b2, -⟩
    have hb3 := (Below.refl w2.heap.size w2).alloc (Nat.le_refl _) (.cells #[.func (.func 99) #[] #[.pointer (some ⟨b + 1, 0, none⟩)], .func (.func 100) #[] #[.pointer (some ⟨b, 0, none⟩), .pointer (some ⟨b + 1, 0, none⟩)], .func (.func 102) #[] #[.pointer (some ⟨b, 0, none⟩), .pointer (some ⟨b + 1, 0, none⟩)]] 67)
    have HB2 := Lib.hid (b2.alloc b2.size (.cells #[.func (.func 99) #[] #[.pointer (some ⟨b + 1, 0, none⟩)], .func (.func 100) #[] #[.pointer (some ⟨b, 0, none⟩), .pointer (some ⟨b + 1, 0, none⟩)], .func (.func 102) #[] #[.pointer (some ⟨b, 0, none⟩), .pointer (some ⟨b + 1, 0, none⟩)]] 67))
    have HEN := Lib.hid (he.kept hb3)
    obtain ⟨m0, m1, m2⟩ := three_at w2 67 (.func (.func 99) #[] #[.pointer (some ⟨b + 1, 0, none⟩)]) (.func (.func 100) #[] #[.pointer (some ⟨b, 0, none⟩), .pointer (some ⟨b + 1, 0, none⟩)]) (.func (.func 102) #[] #[.pointer (some ⟨b, 0, none⟩), .pointer (some ⟨b + 1, 0, none⟩)])
    clear b2 hb3 he
    go_upto_region 11 with fail
    obtain ⟨W2, hW⟩ : ∃ W2, W2 = (w2.alloc (.cells #[.func (.func 99) #[] #[.pointer (some ⟨b + 1, 0, none⟩)], .func (.func 100) #[] #[.pointer (some ⟨b, 0, none⟩), .pointer (some ⟨b + 1, 0, none⟩)], .func (.func 102) #[] #[.pointer (some ⟨b, 0, none⟩), .pointer (some ⟨b + 1, 0, none⟩)]] 67)) := ⟨_, rfl⟩
    rw [← hW] at m0 m1 m2 HB2 HEN ⊢
    clear hW
    refine wp_region_noPanic ?_
    refine wp_region_held_drew (S := (fun w' => (w'.cell? ⟨w2.heap.size, 0, none⟩ = some (.func (.func 99) #[] #[.pointer (some ⟨b + 1, 0, none⟩)]) ∧ w'.cell? ⟨w2.heap.size, 1, none⟩ = some (.func (.func 100) #[] #[.pointer (some ⟨b, 0, none⟩), .pointer (some ⟨b + 1, 0, none⟩)]) ∧ w'.cell? ⟨w2.heap.size, 2, none⟩ = some (.func (.func 102) #[] #[.pointer (some ⟨b, 0, none⟩), .pointer (some ⟨b + 1, 0, none⟩)])) ∧ Below W2.heap.size W2 w')) (by kernel_rfl) ?_ (fun hHeld => ?_)
    · ((try dsimp only); exact ⟨⟨m0, m1, m2⟩, (Below.refl _ _).drew⟩)
    refine wpAnyH_take (i := 0) (v := ?_) rfl (by kernel_rfl) (by kernel_rfl) (by kernel_rfl) (fun _ _ _ h => h) (Or.inl ⟨by rfl, ?_⟩) (by assumption) ?_
    rotate_left
    · (intro w hSw; (try dsimp only at hSw); go_simp; (try with_reducible rfl))
    (try simp only [Act.put, List.getElem_toArray, List.getElem_cons_zero, List.setIfInBounds_toArray, List.set_cons_zero, List.set_cons_succ])
    refine wpAnyH_take (i := 2) (v := ?_) rfl (by kernel_rfl) (by kernel_rfl) (by kernel_rfl) (fun _ _ _ h => h) (Or.inl ⟨by rfl, ?_⟩) (by assumption) ?_
    rotate_left
    · (intro w hSw; (try dsimp only at hSw); go_simp; (try with_reducible rfl))
    (try simp only [Act.put, List.getElem_toArray, List.getElem_cons_succ, List.getElem_cons_zero, List.setIfInBounds_toArray, List.set_cons_zero, List.set_cons_succ])
    refine wpAnyH_ready (rs := [1]) (by kernel_rfl) (by simp) (AllReadyH.cons rfl (fun K hK => ?_) AllReadyH.nil)
    (first | (go_at_call 43; refine (HFC.out _).mono ?_; rintro e w91 ⟨rfl, b91⟩) | (go_simp; go_at_call 43; refine (HFC.out _).mono ?_; rintro e w91 ⟨rfl, b91⟩))
    (try (go_wp2_with fail))
    refine hK.out _ _ ?_ (fun hHeld => ?_)
    · ((try dsimp only); exact ⟨⟨keep_in hHeld.1.1 b91, keep_in hHeld.1.2.1 b91, keep_in hHeld.1.2.2 b91⟩, hHeld.2.trans (b91.mono hHeld.2.size)⟩)
    clear hK K
    (try simp only [Act.put, List.getElem_toArray, List.getElem_cons_succ, List.getElem_cons_zero, List.setIfInBounds_toArray, List.set_cons_zero, List.set_cons_succ])
    refine wpAnyH_take (i := 3) (v := ?_) rfl (by kernel_rfl) (by kernel_rfl) (by kernel_rfl) (fun _ _ _ h => h) (Or.inl ⟨by rfl, ?_⟩) (by assumption) ?_
    rotate_left
    · (intro w hSw; (try dsimp only at hSw); go_simp; (try with_reducible rfl))
    (try simp only [Act.put, List.getElem_toArray, List.getElem_cons_succ, List.getElem_cons_zero, List.setIfInBounds_toArray, List.set_cons_zero, List.set_cons_succ])
    refine wpAnyH_ready (rs := [4]) (by kernel_rfl) (by simp) (AllReadyH.cons rfl (fun K hK => ?_) AllReadyH.nil)
    (first | (go_at_call 66; refine (HDV.out b _ (HEN.out.kept hHeld.2)).mono ?_; rintro e w92 ⟨v92, rfl, o92, b92⟩) | (go_simp; go_at_call 66; refine (HDV.out b _ (HEN.out.kept hHeld.2)).mono ?_; rintro e w92 ⟨v92, rfl, o92, b92⟩))
    (try (go_wp2_with fail))
    refine hK.out _ _ ?_ (fun hHeld => ?_)
    · ((try dsimp only); exact ⟨⟨keep_in hHeld.1.1 b92, keep_in hHeld.1.2.1 b92, keep_in hHeld.1.2.2 b92⟩, hHeld.2.trans (b92.mono hHeld.2.size)⟩)
    clear hK K
    (try simp only [Act.put, List.getElem_toArray, List.getElem_cons_succ, List.getElem_cons_zero, List.setIfInBounds_toArray, List.set_cons_zero, List.set_cons_succ])
    refine wpAnyH_ready (rs := [5]) (by kernel_rfl) (by simp) (AllReadyH.cons rfl (fun K hK => ?_) AllReadyH.nil)
    (first | (go_at_call 65; refine (HMX.out v92 _ o92.read).mono ?_; rintro e w93 ⟨v93, rfl, o93, b93⟩) | (go_simp; go_at_call 65; refine (HMX.out v92 _ o92.read).mono ?_; rintro e w93 ⟨v93, rfl, o93, b93⟩))
    (try (go_wp2_with fail))
    refine hK.out _ _ ?_ (fun hHeld => ?_)
    · ((try dsimp only); exact ⟨⟨keep_in hHeld.1.1 b93, keep_in hHeld.1.2.1 b93, keep_in hHeld.1.2.2 b93⟩, hHeld.2.trans (b93.mono hHeld.2.size)⟩)
    clear hK K
    (try simp only [Act.put, List.getElem_toArray, List.getElem_cons_succ, List.getElem_cons_zero, List.setIfInBounds_toArray, List.set_cons_zero, List.set_cons_succ])
    refine wpAnyH_take (i := 6) (v := ?_) rfl (by kernel_rfl) (by kernel_rfl) (by kernel_rfl) (fun _ _ _ h => h) (Or.inl ⟨by rfl, ?_⟩) (by assumption) ?_
    rotate_left
    · (intro w hSw; (try dsimp only at hSw); go_simp; (try with_reducible rfl))
    (try simp only [Act.put, List.getElem_toArray, List.getElem_cons_succ, List.getElem_cons_zero, List.setIfInBounds_toArray, List.set_cons_zero, List.set_cons_succ])
    refine wpAnyH_done (by kernel_rfl) ?_ _
    refine NoPanic.normal ?_
    have HB3 := Lib.hid (HB2.out.trans (hHeld.2.mono HB2.out.size))
    have HO3 := Lib.hid (o93.base (show w.heap.size ≤ _ from Nat.le_trans HB2.out.size (Nat.le_trans (Below.drew (Below.refl W2.heap.size W2)).size (Nat.le_trans b91.size b92.size))))
    clear hHeld m0 m1 m2 o92 o93 b91 b92 b93
    go_wp2_with fail
    go_ret
    exact ⟨_, rfl, HO3.out, HB3.out⟩
end
end Go.Proofs.Ytcgkfbjdlhapkaa
