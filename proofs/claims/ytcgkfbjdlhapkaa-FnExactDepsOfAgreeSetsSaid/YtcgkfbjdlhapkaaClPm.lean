/- The model's chapter 11: CoverOf, by contract. Conditions: as stated. -/
import Derived.Test.YtcgkfbjdlhapkaaClNm
namespace Go.Proofs.Ytcgkfbjdlhapkaa
open Go.RowKit

def memTo (q : List (Int × Int)) (d : Int × Int) : Nat → Bool
  | 0 => false
  | k + 1 => memTo q d k || decide (q.getD k (0, 0) = d)
def dedTo (n : Int) (l : List (Int × Int)) : Nat → List (Int × Int)
  | 0 => []
  | i + 1 => if memTo (dedTo n l i) (redD n l (l.getD i (0, 0))) (dedTo n l i).length = true then dedTo n l i else dedTo n l i ++ [redD n l (l.getD i (0, 0))]
def rmL (n : Int) : Nat → List (Int × Int) → Nat → List (Int × Int)
  | 0, q, _ => q
  | k + 1, q, i => if impB n (q.eraseIdx i) (q.getD i (0, 0)) = true then rmL n k (q.eraseIdx i) i else rmL n k q (i + 1)
def coL11 (n : Int) (l : List (Int × Int)) : List (Int × Int) := if arD n l = true then rmL n (dedTo n l l.length).length (dedTo n l l.length) 0 else []
def lenOf11 (v : Value) : Nat := match v with | .slice _ n _ => n | _ => 0
theorem dedTo_len (n : Int) (l : List (Int × Int)) : ∀ i, (dedTo n l i).length ≤ i
  | 0 => Nat.le_refl _
  | i + 1 => by
    have ih := dedTo_len n l i
    unfold dedTo
    split
    · omega
    · rw [List.length_append, List.length_singleton]; omega
theorem erase_len {q : List (Int × Int)} {i : Nat} (h : i < q.length) : (q.eraseIdx i).length + 1 = q.length := by rw [List.length_eraseIdx, if_pos h]; omega
theorem rm_step {n : Int} {r : List (Int × Int)} {i : Nat} (h : i < r.length) : rmL n (r.length - i) r i = if impB n (r.eraseIdx i) (r.getD i (0, 0)) = true then rmL n ((r.eraseIdx i).length - i) (r.eraseIdx i) i else rmL n (r.length - (i + 1)) r (i + 1) := by
  have e1 := erase_len h
  obtain ⟨k, hk⟩ : ∃ k, r.length - i = k + 1 := ⟨r.length - i - 1, by omega⟩
  rw [hk, show (r.eraseIdx i).length - i = k by omega, show r.length - (i + 1) = k by omega]
  rfl
theorem rm_end {n : Int} {r : List (Int × Int)} {i : Nat} (h : ¬ i < r.length) : rmL n (r.length - i) r i = r := by
  rw [show r.length - i = 0 by omega]
  rfl
section
set_option maxRecDepth 20000
set_option maxHeartbeats 1600000
theorem coverOf11_any (v : Value) (n : Int) (l : List (Int × Int)) (w : World) (hr : ReadD w v l) (hl : l.length ≤ 1048576) :
    Calls Try.prog 67 #[.int .i64 n, v] w (RetD (coL11 n l) w) := by
  obtain ⟨i0, hi, hz0, hz1, hz2⟩ := info_parts infoDp
  have HI : Hid (_ ∧ _ ∧ _ ∧ _) := Lib.hid ⟨hi, hz0, hz1, hz2⟩
  clear hi hz0 hz1 hz2
  have HR := Lib.hid (fun w' (hb : Below w.heap.size w w') => hr.kept hb)
  have HAD := Lib.hid (fun w' (hb : Below w.heap.size w w') => areDeps10_any v n l w' (hr.kept hb) hl)
  have HR0 := Lib.hid (fun d0 d1 w' (hb : Below w.heap.size w w') => reduceLeft11_any v n d0 d1 l w' (hr.kept hb) hl)
  have HB1 := Lib.hid ((Below.refl w.heap.size w).alloc (Nat.le_refl _) (.cells #[] 44))
  have HO1 : Hid (OwnD (w.alloc (.cells #[] 44)) w.heap.size (.slice (some ⟨w.heap.size, 0, none⟩) 0 0) []) := Lib.hid (own_made w w.heap.size 44 2 (Nat.le_refl _))
  cases ha : arD n l with
  | false =>
    rw [ha] at HAD
    have HE : Hid (coL11 n l = []) := Lib.hid (by unfold coL11; rw [ha]; rfl)
    rw [HE.out]
    obtain ⟨a, cap, rfl, -⟩ := hr
    clear ha HE HR0
    go_enter Try.func67, Try.ntmps67
    go_wp2_with fail
    refine (HAD.out _ HB1.out).mono ?_
    rintro e w2 ⟨rfl, b2⟩
    have HO2 := Lib.hid (HO1.out.below b2 (fun k hk => (HO1.out.lt k hk).2))
    have HB2 := Lib.hid (HB1.out.trans (b2.mono HB1.out.size))
    clear b2
    go_wp2_with fail
    go_ret
    exact ⟨_, rfl, HO2.out, HB2.out⟩
  | true =>
    rw [ha] at HAD
    obtain ⟨-, -, -, -, hl20, -⟩ := arD_n ha
    have HE : Hid (coL11 n l = rmL n (dedTo n l l.length).length (dedTo n l l.length) 0) := Lib.hid (by unfold coL11; rw [ha]; rfl)
    rw [HE.out]
    obtain ⟨a, cap, rfl, -⟩ := hr
    clear ha HE
    go_enter Try.func67, Try.ntmps67
    go_wp2_with fail
    refine (HAD.out _ HB1.out).mono ?_
    rintro e w2 ⟨rfl, b2⟩
    have HO2 := Lib.hid (HO1.out.below b2 (fun k hk => (HO1.out.lt k hk).2))
    have HB2 := Lib.hid (HB1.out.trans (b2.mono HB1.out.size))
    clear b2 HO1 HB1
    go_wp2_with fail
    go_loopw [5, 6, 7, 8, 9] (fun ov iv _ _ _ wr => ∃ (i : Nat) (q : List (Int × Int)), i ≤ l.length ∧ iv = .int .i64 (i : Int) ∧ Hid (q = dedTo n l i) ∧ Hid (OwnD wr w.heap.size ov q) ∧ Hid (Below w.heap.size w wr)) (fun _ iv _ _ _ _ => l.length - (intOf iv).toNat)
    case atStart => exact ⟨0, [], by omega, rfl, Lib.hid rfl, HO2, HB2⟩
    case round =>
      clear HO2 HB2
      obtain ⟨i, q, hi, rfl, HQ, HO, HB⟩ := hrel
      obtain ⟨w3, hw⟩ : ∃ w', w' = wr := ⟨_, rfl⟩
      rw [← hw] at HO HB ⊢
      clear hw
      have hql := dedTo_len n l i
      rw [← HQ.out] at hql
      by_cases hlt : i < l.length
      · have z0 : (0 : Int) ≤ (i : Int) := by omega
        have z1 : (i : Int) < (l.length : Int) := by omega
        obtain ⟨b', o', rfl, h0, h1⟩ := readD_cells (HR.out w3 HB.out) hlt
        have HS : Hid (dedTo n l (i + 1) = if memTo q (redD n l (l.getD i (0, 0))) q.length = true then q else q ++ [redD n l (l.getD i (0, 0))]) := Lib.hid (by rw [HQ.out]; rfl)
        obtain ⟨⟨d0, d1⟩, hd⟩ : ∃ d, d = l.getD i (0, 0) := ⟨_, rfl⟩
        rw [← hd] at h0 h1 HS
        simp only at h0 h1
        have HRD := Lib.hid (HR0.out d0 d1)
        obtain ⟨⟨p0, p1⟩, hp⟩ : ∃ p, p = redD n l (d0, d1) := ⟨_, rfl⟩
        rw [← hp] at HRD HS
        simp only at HRD
        clear hd hp
        obtain ⟨a3, c3, hov⟩ := HO.out.shape
        subst hov
        go_wp2_with fail
        refine (HRD.out _ HB.out).mono ?_
        rintro e w4 ⟨rfl, b4⟩
        have HO4 := Lib.hid (HO.out.below b4 (fun k hk => (HO.out.lt k hk).2))
        have HB4 := Lib.hid (HB.out.trans (b4.mono HB.out.size))
        clear b4 h0 h1
        have HX5 := Lib.hid (bx_new w4 p0 p1)
        have ha5 := (Below.refl w4.heap.size w4).alloc (Nat.le_refl _) (.cells #[.int .i64 p0, .int .i64 p1] 44)
        have HB5 := Lib.hid (HB4.out.trans (ha5.mono HB4.out.size))
        have HO5 := Lib.hid (HO4.out.below ha5 (fun k hk => (HO4.out.lt k hk).2))
        have HG5 : Hid (w.heap.size ≤ w4.heap.size) := Lib.hid HB4.out.size
        clear ha5 HO4 HB4 HO HB
        go_wp2_with fail
        obtain ⟨w5, hw5⟩ : ∃ w5, w5 = w4.alloc (.cells #[.int .i64 p0, .int .i64 p1] 44) := ⟨_, rfl⟩
        rw [← hw5] at HX5 HB5 HO5 ⊢
        obtain ⟨g, hg⟩ : ∃ g, g = w4.heap.size := ⟨_, rfl⟩
        rw [← hg] at HX5 HG5 ⊢
        clear hw5 hg
        go_loopw [8, 9] (fun fv kv wr => ∃ k : Nat, k ≤ q.length ∧ fv = .bool (memTo q (p0, p1) k) ∧ kv = .int .i64 (k : Int) ∧ Hid (Below w5.heap.size w5 wr)) (fun _ kv _ => q.length - (intOf kv).toNat)
        case atStart => exact ⟨0, by omega, rfl, rfl, Lib.hid (Below.refl _ _)⟩
        case round =>
          obtain ⟨k, hk, rfl, rfl, HK⟩ := hrel
          obtain ⟨w6, hw⟩ : ∃ w', w' = wr := ⟨_, rfl⟩
          rw [← hw] at HK ⊢
          clear hw
          have HO6 := Lib.hid (HO5.out.below HK.out (fun k hk => (HO5.out.lt k hk).2))
          have HX6 := Lib.hid (HX5.out.keep HK.out)
          by_cases hkl : k < q.length
          · have y0 : (0 : Int) ≤ (k : Int) := by omega
            have y1 : (k : Int) < (q.length : Int) := by omega
            obtain ⟨b, o, hba, h0, h1⟩ := readD_cells HO6.out.read hkl
            subst hba
            have c0 := HX6.out.c0
            have c1 := HX6.out.c1
            have HM : Hid (memTo q (p0, p1) (k + 1) = (memTo q (p0, p1) k || decide (q.getD k (0, 0) = (p0, p1)))) := Lib.hid rfl
            obtain ⟨⟨e0, e1⟩, he⟩ : ∃ e, e = q.getD k (0, 0) := ⟨_, rfl⟩
            rw [← he] at h0 h1 HM
            simp only at h0 h1
            have hq := fun w' => eq_dep11 e0 e1 p0 p1 w'
            rw [eqP] at hq
            obtain ⟨t, ht⟩ : ∃ t, t = decide ((e0, e1) = (p0, p1)) := ⟨_, rfl⟩
            rw [← ht] at hq HM
            obtain ⟨f, hf⟩ : ∃ f, f = memTo q (p0, p1) k := ⟨_, rfl⟩
            rw [← hf] at HM ⊢
            clear ht he hf
            cases f with
            | true =>
              rw [Bool.true_or] at HM
              go_upto_region 12 with fail
              refine wp_region_noPanic ?_
              refine wp_region_held_drew (S := (fun w' => ((w'.cell? ⟨b, o + k * 2, none⟩ = some (.int .i64 e0) ∧ w'.cell? ⟨b, o + k * 2 + 1, none⟩ = some (.int .i64 e1)) ∧ (w'.cell? ⟨g, 0, none⟩ = some (.int .i64 p0) ∧ w'.cell? ⟨g, 1, none⟩ = some (.int .i64 p1))) ∧ Below w6.heap.size w6 w')) (by kernel_rfl) ?_ (fun hHeld => ?_)
              · ((try dsimp only); exact ⟨⟨⟨h0, h1⟩, c0, c1⟩, (Below.refl _ _).drew⟩)
              refine wpAnyH_take (i := 0) (v := ?_) rfl (by kernel_rfl) (by kernel_rfl) (by kernel_rfl) (fun _ _ _ h => h) (Or.inl ⟨by rfl, ?_⟩) (by assumption) ?_
              rotate_left
              · (intro w hSw; (try dsimp only at hSw); go_simp; (try with_reducible rfl))
              (try simp only [Act.put, List.getElem_toArray, List.getElem_cons_zero, List.setIfInBounds_toArray, List.set_cons_zero, List.set_cons_succ])
              refine wpAnyH_take (i := 1) (v := ?_) rfl (by kernel_rfl) (by kernel_rfl) (by kernel_rfl) (fun _ _ _ h => h) (Or.inl ⟨by rfl, ?_⟩) (by assumption) ?_
              rotate_left
              · (intro w hSw; (try dsimp only at hSw); go_simp; (try with_reducible rfl))
              (try simp only [Act.put, List.getElem_toArray, List.getElem_cons_succ, List.getElem_cons_zero, List.setIfInBounds_toArray, List.set_cons_zero, List.set_cons_succ])
              refine wpAnyH_take (i := 2) (v := undef) rfl (by kernel_rfl) (by kernel_rfl) (by kernel_rfl) (fun _ _ _ h => h) (Or.inr ⟨by rfl, rfl⟩) (by assumption) ?_
              (try simp only [Act.put, List.getElem_toArray, List.getElem_cons_succ, List.getElem_cons_zero, List.setIfInBounds_toArray, List.set_cons_zero, List.set_cons_succ])
              refine wpAnyH_take (i := 3) (v := undef) rfl (by kernel_rfl) (by kernel_rfl) (by kernel_rfl) (fun _ _ _ h => h) (Or.inr ⟨by rfl, rfl⟩) (by assumption) ?_
              (try simp only [Act.put, List.getElem_toArray, List.getElem_cons_succ, List.getElem_cons_zero, List.setIfInBounds_toArray, List.set_cons_zero, List.set_cons_succ])
              refine wpAnyH_take (i := 4) (v := undef) rfl (by kernel_rfl) (by kernel_rfl) (by kernel_rfl) (fun _ _ _ h => h) (Or.inr ⟨by rfl, rfl⟩) (by assumption) ?_
              (try simp only [Act.put, List.getElem_toArray, List.getElem_cons_succ, List.getElem_cons_zero, List.setIfInBounds_toArray, List.set_cons_zero, List.set_cons_succ])
              refine wpAnyH_take (i := 5) (v := undef) rfl (by kernel_rfl) (by kernel_rfl) (by kernel_rfl) (fun _ _ _ h => h) (Or.inr ⟨by rfl, rfl⟩) (by assumption) ?_
              (try simp only [Act.put, List.getElem_toArray, List.getElem_cons_succ, List.getElem_cons_zero, List.setIfInBounds_toArray, List.set_cons_zero, List.set_cons_succ])
              refine wpAnyH_take (i := 6) (v := undef) rfl (by kernel_rfl) (by kernel_rfl) (by kernel_rfl) (fun _ _ _ h => h) (Or.inr ⟨by rfl, rfl⟩) (by assumption) ?_
              (try simp only [Act.put, List.getElem_toArray, List.getElem_cons_succ, List.getElem_cons_zero, List.setIfInBounds_toArray, List.set_cons_zero, List.set_cons_succ])
              refine wpAnyH_take (i := 7) (v := undef) rfl (by kernel_rfl) (by kernel_rfl) (by kernel_rfl) (fun _ _ _ h => h) (Or.inr ⟨by rfl, rfl⟩) (by assumption) ?_
              (try simp only [Act.put, List.getElem_toArray, List.getElem_cons_succ, List.getElem_cons_zero, List.setIfInBounds_toArray, List.set_cons_zero, List.set_cons_succ])
              refine wpAnyH_take (i := 8) (v := ?_) rfl (by kernel_rfl) (by kernel_rfl) (by kernel_rfl) (fun _ _ _ h => h) (Or.inl ⟨by rfl, ?_⟩) (by assumption) ?_
              rotate_left
              · (intro w hSw; (try dsimp only at hSw); go_simp; (try with_reducible rfl))
              (try simp only [Act.put, List.getElem_toArray, List.getElem_cons_succ, List.getElem_cons_zero, List.setIfInBounds_toArray, List.set_cons_zero, List.set_cons_succ])
              refine wpAnyH_take (i := 9) (v := ?_) rfl (by kernel_rfl) (by kernel_rfl) (by kernel_rfl) (fun _ _ _ h => h) (Or.inl ⟨by rfl, ?_⟩) (by assumption) ?_
              rotate_left
              · (intro w hSw; (try dsimp only at hSw); go_simp; (try with_reducible rfl))
              (try simp only [Act.put, List.getElem_toArray, List.getElem_cons_succ, List.getElem_cons_zero, List.setIfInBounds_toArray, List.set_cons_zero, List.set_cons_succ])
              refine wpAnyH_done (by kernel_rfl) ?_ _
              refine NoPanic.normal ?_
              have HK7 := Lib.hid (HK.out.trans (hHeld.2.mono HK.out.size))
              clear hHeld h0 h1 c0 c1
              go_wp2_with fail
              go_roundw
              case rel => exact ⟨k + 1, by omega, by rw [HM.out], by go_num, HK7⟩
              case measure => simp [intOf]; omega
            | false =>
              rw [Bool.false_or] at HM
              go_upto_region 12 with fail
              refine wp_region_noPanic ?_
              refine wp_region_held_drew (S := (fun w' => ((w'.cell? ⟨b, o + k * 2, none⟩ = some (.int .i64 e0) ∧ w'.cell? ⟨b, o + k * 2 + 1, none⟩ = some (.int .i64 e1)) ∧ (w'.cell? ⟨g, 0, none⟩ = some (.int .i64 p0) ∧ w'.cell? ⟨g, 1, none⟩ = some (.int .i64 p1))) ∧ Below w6.heap.size w6 w')) (by kernel_rfl) ?_ (fun hHeld => ?_)
              · ((try dsimp only); exact ⟨⟨⟨h0, h1⟩, c0, c1⟩, (Below.refl _ _).drew⟩)
              refine wpAnyH_take (i := 0) (v := ?_) rfl (by kernel_rfl) (by kernel_rfl) (by kernel_rfl) (fun _ _ _ h => h) (Or.inl ⟨by rfl, ?_⟩) (by assumption) ?_
              rotate_left
              · (intro w hSw; (try dsimp only at hSw); go_simp; (try with_reducible rfl))
              (try simp only [Act.put, List.getElem_toArray, List.getElem_cons_zero, List.setIfInBounds_toArray, List.set_cons_zero, List.set_cons_succ])
              refine wpAnyH_take (i := 1) (v := ?_) rfl (by kernel_rfl) (by kernel_rfl) (by kernel_rfl) (fun _ _ _ h => h) (Or.inl ⟨by rfl, ?_⟩) (by assumption) ?_
              rotate_left
              · (intro w hSw; (try dsimp only at hSw); go_simp; (try with_reducible rfl))
              (try simp only [Act.put, List.getElem_toArray, List.getElem_cons_succ, List.getElem_cons_zero, List.setIfInBounds_toArray, List.set_cons_zero, List.set_cons_succ])
              refine wpAnyH_take (i := 2) (v := ?_) rfl (by kernel_rfl) (by kernel_rfl) (by kernel_rfl) (fun _ _ _ h => h) (Or.inl ⟨by rfl, ?_⟩) (by assumption) ?_
              rotate_left
              · (intro w hSw; (try dsimp only at hSw); go_simp; (try with_reducible rfl))
              (try simp only [Act.put, List.getElem_toArray, List.getElem_cons_succ, List.getElem_cons_zero, List.setIfInBounds_toArray, List.set_cons_zero, List.set_cons_succ])
              refine wpAnyH_take (i := 3) (v := ?_) rfl (by kernel_rfl) (by kernel_rfl) (by kernel_rfl) (fun _ _ _ h => h) (Or.inl ⟨by rfl, ?_⟩) (by assumption) ?_
              rotate_left
              · (intro w hSw; (try dsimp only at hSw); go_simp; (try with_reducible rfl))
              (try simp only [Act.put, List.getElem_toArray, List.getElem_cons_succ, List.getElem_cons_zero, List.setIfInBounds_toArray, List.set_cons_zero, List.set_cons_succ])
              refine wpAnyH_take (i := 4) (v := ?_) rfl (by kernel_rfl) (by kernel_rfl) (by kernel_rfl) (fun _ _ _ h => h) (Or.inl ⟨by rfl, ?_⟩) (by assumption) ?_
              rotate_left
              · (intro w hSw; (try dsimp only at hSw); go_simp; (try with_reducible rfl))
              (try simp only [Act.put, List.getElem_toArray, List.getElem_cons_succ, List.getElem_cons_zero, List.setIfInBounds_toArray, List.set_cons_zero, List.set_cons_succ])
              refine wpAnyH_take (i := 5) (v := ?_) rfl (by kernel_rfl) (by kernel_rfl) (by kernel_rfl) (fun _ _ _ h => h) (Or.inl ⟨by rfl, ?_⟩) (by assumption) ?_
              rotate_left
              · (intro w hSw; (try dsimp only at hSw); go_simp; (try with_reducible rfl))
              (try simp only [Act.put, List.getElem_toArray, List.getElem_cons_succ, List.getElem_cons_zero, List.setIfInBounds_toArray, List.set_cons_zero, List.set_cons_succ])
              refine wpAnyH_take (i := 6) (v := ?_) rfl (by kernel_rfl) (by kernel_rfl) (by kernel_rfl) (fun _ _ _ h => h) (Or.inl ⟨by rfl, ?_⟩) (by assumption) ?_
              rotate_left
              · (intro w hSw; (try dsimp only at hSw); go_simp; (try with_reducible rfl))
              (try simp only [Act.put, List.getElem_toArray, List.getElem_cons_succ, List.getElem_cons_zero, List.setIfInBounds_toArray, List.set_cons_zero, List.set_cons_succ])
              refine wpAnyH_take (i := 7) (v := ?_) rfl (by kernel_rfl) (by kernel_rfl) (by kernel_rfl) (fun _ _ _ h => h) (Or.inl ⟨by rfl, ?_⟩) (by assumption) ?_
              rotate_left
              · (intro w hSw; (try dsimp only at hSw); go_simp; (try with_reducible rfl))
              (try simp only [Act.put, List.getElem_toArray, List.getElem_cons_succ, List.getElem_cons_zero, List.setIfInBounds_toArray, List.set_cons_zero, List.set_cons_succ])
              refine wpAnyH_take (i := 8) (v := ?_) rfl (by kernel_rfl) (by kernel_rfl) (by kernel_rfl) (fun _ _ _ h => h) (Or.inl ⟨by rfl, ?_⟩) (by assumption) ?_
              rotate_left
              · (intro w hSw; (try dsimp only at hSw); go_simp; (try with_reducible rfl))
              (try simp only [Act.put, List.getElem_toArray, List.getElem_cons_succ, List.getElem_cons_zero, List.setIfInBounds_toArray, List.set_cons_zero, List.set_cons_succ])
              refine wpAnyH_take (i := 9) (v := ?_) rfl (by kernel_rfl) (by kernel_rfl) (by kernel_rfl) (fun _ _ _ h => h) (Or.inl ⟨by rfl, ?_⟩) (by assumption) ?_
              rotate_left
              · (intro w hSw; (try dsimp only at hSw); go_simp; (try with_reducible rfl))
              (try simp only [Act.put, List.getElem_toArray, List.getElem_cons_succ, List.getElem_cons_zero, List.setIfInBounds_toArray, List.set_cons_zero, List.set_cons_succ])
              refine wpAnyH_done (by kernel_rfl) ?_ _
              refine NoPanic.normal ?_
              have HK7 := Lib.hid (HK.out.trans (hHeld.2.mono HK.out.size))
              clear hHeld h0 h1 c0 c1
              go_wp2_with fail
              go_roundw
              case rel => exact ⟨k + 1, by omega, by rw [HM.out], by go_num, HK7⟩
              case measure => simp [intOf]; omega
          · obtain rfl : k = q.length := by omega
            have HB6 := Lib.hid (HB5.out.trans (HK.out.mono HB5.out.size))
            have c0 := HX6.out.c0
            have c1 := HX6.out.c1
            cases hm : memTo q (p0, p1) q.length with
            | true =>
              rw [hm] at HS
              have HQ' : Hid (q = dedTo n l (i + 1)) := Lib.hid (by rw [HS.out]; rfl)
              clear hm
              go_wp2_with fail
              go_roundw
              case rel => exact ⟨i + 1, q, by omega, by go_num, HQ', HO6, HB6⟩
              case measure => simp [intOf]; omega
            | false =>
              rw [hm] at HS
              have HQ' : Hid (q ++ [(p0, p1)] = dedTo n l (i + 1)) := Lib.hid (by rw [HS.out]; rfl)
              have ho6 := HO6.out
              unfold OwnD at ho6
              clear hm
              go_wp2_with (at_builtin; refine wpList_append_own _ rfl _ _ 26 rfl w.heap.size 44 i0 (.agg #[.int .i64 0, .int .i64 0]) 2 16 Try.underlying26 HI.out.1 HI.out.2.1 HI.out.2.2.1 HI.out.2.2.2 rfl (by decide) _ _ _ rfl (World.ownsRow.alloc ho6 _) ⟨w6.heap.size, 0, none⟩ 1 1 [.int .i64 p0, .int .i64 p1] rfl rfl (cell_two_new _ _ _ _) (two_i64 _ _) (by unfold maxLen; omega) (by omega) (by have := HB6.out.size; rw [World.size_alloc]; omega) ?_; intro v7 w7 hown7 hgrow7 _; have HO7 := Lib.hid (OwnD.snoc hown7); have HB7 := Lib.hid ((HB6.out.alloc HB6.out.size (.cells #[.int .i64 p0, .int .i64 p1] 44)).grown hgrow7 (by rw [World.size_alloc]; have := HB6.out.size; omega) (fun k hk => (OwnD.lt HO6.out k hk).1)); clear hown7 hgrow7 ho6)
              go_roundw
              case rel => exact ⟨i + 1, _, by omega, by go_num, HQ', HO7, HB7⟩
              case measure => simp [intOf]; omega
      · obtain rfl : i = l.length := by omega
        have z0 : ¬ (((l.length : Nat) : Int) < ((l.length : Nat) : Int)) := by omega
        go_wp2_with fail
        go_loopw [5, 10, 11] (fun ov iv _ wr => ∃ (i : Nat) (r : List (Int × Int)), i ≤ r.length ∧ r.length ≤ 20 ∧ iv = .int .i64 (i : Int) ∧ Hid (rmL n (r.length - i) r i = rmL n q.length q 0) ∧ Hid (OwnD wr w.heap.size ov r) ∧ Hid (Below w.heap.size w wr)) (fun ov iv _ _ => lenOf11 ov - (intOf iv).toNat)
        case atStart => exact ⟨0, q, by omega, by omega, rfl, Lib.hid rfl, HO, HB⟩
        case round =>
          have HQR := HQ
          clear HO HB HQ hql
          obtain ⟨i, r, hi, hr20, rfl, HF, HO, HB⟩ := hrel
          obtain ⟨w3, hw⟩ : ∃ w', w' = wr := ⟨_, rfl⟩
          rw [← hw] at HO HB ⊢
          clear hw z0
          have hcap := HO.out.capOk
          have hrd := HO.out.read
          obtain ⟨a4, c4, hov⟩ := HO.out.shape
          by_cases hlt : i < r.length
          · have z0 : (0 : Int) ≤ (i : Int) := by omega
            have z1 : (i : Int) < (r.length : Int) := by omega
            have HW := Lib.hid (without11_any _ i r w3 hrd (by omega) hlt hcap)
            have HIM := Lib.hid (fun d0 d1 u w' (hru : ReadD w' u (r.eraseIdx i)) => impliesDep10_any u n d0 d1 (r.eraseIdx i) w' hru (by have := erase_len hlt; omega))
            have HST := Lib.hid ((rm_step (n := n) hlt).symm.trans HF.out)
            have HEL := Lib.hid (erase_len hlt)
            subst hov
            clear hrd hcap
            go_wp2_with fail
            refine HW.out.mono ?_
            rintro e w4 ⟨v4, rfl, o4, b4⟩
            have HO4 := Lib.hid (HO.out.below b4 (fun k hk => (HO.out.lt k hk).2))
            have HB4 := Lib.hid (HB.out.trans (b4.mono HB.out.size))
            have HV4 := Lib.hid (o4.base HB.out.size)
            obtain ⟨b, o, hba, h0, h1⟩ := readD_cells HO4.out.read hlt
            subst hba
            obtain ⟨⟨e0, e1⟩, he⟩ : ∃ e, e = r.getD i (0, 0) := ⟨_, rfl⟩
            rw [← he] at h0 h1 HST
            simp only at h0 h1
            clear b4 o4 he
            go_wp2_with fail
            refine (HIM.out e0 e1 _ _ HV4.out.read).mono ?_
            rintro e w5 ⟨rfl, b5⟩
            have HO5 := Lib.hid (HO4.out.below b5 (fun k hk => (HO4.out.lt k hk).2))
            have HV5 := Lib.hid (HV4.out.below b5 (fun k hk => (HV4.out.lt k hk).2))
            have HB5 := Lib.hid (HB4.out.trans (b5.mono HB4.out.size))
            clear b5 h0 h1
            cases hm : impB n (r.eraseIdx i) (e0, e1) with
            | true =>
              rw [hm] at HST
              have HF5 := Lib.hid (by have h := HST.out; rw [if_pos rfl] at h; exact h)
              obtain ⟨a5, c5, hv5⟩ := HV5.out.shape
              subst hv5
              have hel := HEL.out
              clear hm
              go_wp2_with fail
              go_roundw
              case rel => exact ⟨i, r.eraseIdx i, by omega, by omega, rfl, HF5, HV5, HB5⟩
              case measure => simp [intOf, lenOf11]; omega
            | false =>
              rw [hm] at HST
              have HF5 := Lib.hid (by have h := HST.out; rw [if_neg (by decide)] at h; exact h)
              clear hm
              go_wp2_with fail
              go_roundw
              case rel => exact ⟨i + 1, r, by omega, hr20, by go_num, HF5, HO5, HB5⟩
              case measure => simp [intOf, lenOf11]; omega
          · obtain rfl : i = r.length := by omega
            have z0 : ¬ (((r.length : Nat) : Int) < ((r.length : Nat) : Int)) := by omega
            have HE := Lib.hid ((rm_end (n := n) hlt).symm.trans HF.out)
            subst hov
            clear hrd hcap
            go_wp2_with fail
            go_ret
            exact ⟨.slice a4 r.length c4, by first | rfl | kernel_rfl, by rw [← HQR.out, ← HE.out]; exact HO.out, HB.out⟩
end
end Go.Proofs.Ytcgkfbjdlhapkaa
