/- The program's chapter 13: offenders of a schema, by contract. Conditions: as stated. -/
import Derived.Test.YtcgkfbjdlhapkaaYa32
import Derived.Test.YtcgkfbjdlhapkaaYa37
import Derived.Test.YtcgkfbjdlhapkaaYa30
namespace Go.Proofs.Ytcgkfbjdlhapkaa
open Go.RowKit

/-- A schema in a block of its own. -/
structure SBk (w : World) (p T b : Nat) : Prop where
  c0 : w.cell? ⟨p, 0, none⟩ = some (.int .i64 (T : Int))
  c1 : w.cell? ⟨p, 1, none⟩ = some (.func (.func 99) #[] #[.pointer (some ⟨b + 1, 0, none⟩)])
  c2 : w.cell? ⟨p, 2, none⟩ = some (.func (.func 100) #[] #[.pointer (some ⟨b, 0, none⟩), .pointer (some ⟨b + 1, 0, none⟩)])
  c3 : w.cell? ⟨p, 3, none⟩ = some (.func (.func 102) #[] #[.pointer (some ⟨b, 0, none⟩), .pointer (some ⟨b + 1, 0, none⟩)])
theorem SBk.kept {w w' : World} {p T b : Nat} (h : SBk w p T b) (hb : Below w.heap.size w w') : SBk w' p T b := ⟨keep_in h.c0 hb, keep_in h.c1 hb, keep_in h.c2 hb, keep_in h.c3 hb⟩
theorem SBk.new (w : World) (T b : Nat) : SBk (w.alloc (.cells #[.int .i64 (T : Int), .func (.func 99) #[] #[.pointer (some ⟨b + 1, 0, none⟩)], .func (.func 100) #[] #[.pointer (some ⟨b, 0, none⟩), .pointer (some ⟨b + 1, 0, none⟩)], .func (.func 102) #[] #[.pointer (some ⟨b, 0, none⟩), .pointer (some ⟨b + 1, 0, none⟩)]] 69)) w.heap.size T b := by
  obtain ⟨⟨h0, h1⟩, h2, h3⟩ := four_at w 69 (.int .i64 (T : Int)) (.func (.func 99) #[] #[.pointer (some ⟨b + 1, 0, none⟩)]) (.func (.func 100) #[] #[.pointer (some ⟨b, 0, none⟩), .pointer (some ⟨b + 1, 0, none⟩)]) (.func (.func 102) #[] #[.pointer (some ⟨b, 0, none⟩), .pointer (some ⟨b + 1, 0, none⟩)])
  exact ⟨h0, h1, h2, h3⟩
set_option maxHeartbeats 1600000 in
theorem filtOF_any (c1 c2 : Value) (p : Int × Int → Bool) (v : Value) (l : List (Int × Int)) (w : World) (hr : ReadD w v l) (hl : l.length ≤ 1048576)
    (HP : ∀ x, x ∈ l → ∀ w', Below w.heap.size w w' → Calls Try.prog 98 #[.agg #[.int .i64 x.1, .int .i64 x.2], c1, c2] w' fun e w'' => e = .returned (.bool (p x)) ∧ Below w'.heap.size w' w'') :
    Calls Try.prog 94 #[v, .func (.func 98) #[] #[c1, c2]] w (RetD (l.filter p) w) := by
  obtain ⟨i0, hi, hz0, hz1, hz2⟩ := info_parts infoDp
  have HI : Hid (_ ∧ _ ∧ _ ∧ _) := Lib.hid ⟨hi, hz0, hz1, hz2⟩
  clear hi hz0 hz1 hz2
  have HQ := Lib.hid HP
  have HN := Lib.hid (fun k hk => filter_next p l (0, 0) k hk)
  have HL := Lib.hid (fun k => List.length_filter_le p (l.take k))
  obtain ⟨a, cap, rfl, ha⟩ := hr
  have HA := Lib.hid ha
  clear ha HP
  go_enter Try.func94, Try.ntmps94
  go_wp2_with (at_make; refine wpList_make_own _ rfl _ _ 26 rfl w.heap.size 44 i0 (.agg #[.int .i64 0, .int .i64 0]) 2 Try.underlying26 HI.out.1 HI.out.2.1 HI.out.2.2.1 .i64 .i64 _ l.length rfl rfl rfl (by rw [HI.out.2.2.2]; omega) (by unfold maxLen; omega) (Nat.le_refl _) ?_; intro w0 hown0 hgrow0)
  have hb0 := (Below.refl w.heap.size w).grown hgrow0 (Nat.le_refl _) (by simp)
  have hown : OwnD w0 w.heap.size _ [] := hown0
  clear hown0 hgrow0
  go_loopw [5, 13] (fun ov iv wr => ∃ (k : Nat) (q : List (Int × Int)), k ≤ l.length ∧ iv = .int .i64 (k : Int) ∧ Hid (q = (l.take k).filter p) ∧ OwnD wr w.heap.size ov q ∧ Below w.heap.size w wr) (fun _ iv _ => l.length - (intOf iv).toNat)
  case atStart => exact ⟨0, [], by omega, rfl, Lib.hid rfl, hown, hb0⟩
  case round =>
    clear hown hb0
    obtain ⟨k, q, hk, rfl, hq, ho, hb⟩ := hrel
    by_cases hlt : k < l.length
    · obtain ⟨b, o, rfl, h0, h1⟩ := HA.out k hlt
      replace h0 := (hb.cell (World.block_lt_of_cell? w _ h0)).trans h0
      replace h1 := (hb.cell (World.block_lt_of_cell? w _ h1)).trans h1
      have hm : l.getD k (0, 0) ∈ l := by rw [List.getD_eq_getElem?_getD, List.getElem?_eq_getElem hlt]; exact List.getElem_mem hlt
      have hll : q.length ≤ 1048576 := by rw [hq.out]; have := HL.out k; rw [List.length_take] at this; omega
      have HS := Lib.hid (HN.out k hlt)
      obtain ⟨⟨y0, y1⟩, hy⟩ : ∃ y, y = l.getD k (0, 0) := ⟨_, rfl⟩
      rw [← hy] at h0 h1 HS hm
      simp only at h0 h1
      have HC := Lib.hid (HQ.out (y0, y1) hm)
      have hwb := (Below.refl wr.heap.size wr).alloc (Nat.le_refl _) (.cells #[.int .i64 y0, .int .i64 y1] 44)
      have HB := Lib.hid (hb.trans (hwb.mono hb.size))
      have HO := Lib.hid (ho.below hwb (fun k hk => (ho.lt k hk).2))
      obtain ⟨e0, e1⟩ := zero2 wr 44 (.int .i64 y0) (.int .i64 y1)
      clear hy hm ho hwb
      have z0 : (0 : Int) ≤ (k : Int) := by omega
      have z1 : (k : Int) < (l.length : Int) := by omega
      cases hp : p (y0, y1) with
      | true =>
        rw [hp] at HC HS
        rw [if_pos rfl] at HS
        clear hp
        go_wp2_with fail
        refine (HC.out _ HB.out).mono ?_
        rintro e w1 ⟨rfl, b1⟩
        replace e0 := (b1.cell (World.block_lt_of_cell? _ _ e0)).trans e0
        replace e1 := (b1.cell (World.block_lt_of_cell? _ _ e1)).trans e1
        have ho1 := HO.out.below b1 (fun k hk => (HO.out.lt k hk).2)
        have hb1 := HB.out.trans (b1.mono HB.out.size)
        clear b1
        go_wp2_with (at_builtin; refine wpList_append_own _ rfl _ _ 26 rfl w.heap.size 44 i0 (.agg #[.int .i64 0, .int .i64 0]) 2 16 Try.underlying26 HI.out.1 HI.out.2.1 HI.out.2.2.1 HI.out.2.2.2 rfl (by decide) _ _ _ rfl (World.ownsRow.alloc ho1 _) ⟨w1.heap.size, 0, none⟩ 1 1 [.int .i64 y0, .int .i64 y1] rfl rfl (cell_two_new _ _ _ _) (two_i64 _ _) (by unfold maxLen; omega) (by omega) (le_alloc hb1 (Nat.le_refl _) _) ?_; intro v1 w2 hown1 hgrow1 _)
        have ho2 := OwnD.snoc hown1
        have hb2 := (hb1.alloc hb1.size (.cells #[.int .i64 y0, .int .i64 y1] 44)).grown hgrow1 (by simp; have := hb1.size; omega) (fun k hk => (OwnD.lt ho1 k hk).1)
        clear hown1 hgrow1
        go_wp2_with fail
        go_roundw
        case rel => exact ⟨k + 1, _, by omega, by go_num, Lib.hid (by rw [HS.out, ← hq.out]), ho2, hb2⟩
        case measure => simp [intOf]; omega
      | false =>
        rw [hp] at HC HS
        rw [if_neg (by decide)] at HS
        clear hp
        go_wp2_with fail
        refine (HC.out _ HB.out).mono ?_
        rintro e w1 ⟨rfl, b1⟩
        replace e0 := (b1.cell (World.block_lt_of_cell? _ _ e0)).trans e0
        replace e1 := (b1.cell (World.block_lt_of_cell? _ _ e1)).trans e1
        have ho1 := HO.out.below b1 (fun k hk => (HO.out.lt k hk).2)
        have hb1 := HB.out.trans (b1.mono HB.out.size)
        clear b1
        go_wp2_with fail
        go_roundw
        case rel => exact ⟨k + 1, _, by omega, by go_num, Lib.hid (by rw [HS.out, ← hq.out]), ho1, hb1⟩
        case measure => simp [intOf]; omega
    · obtain rfl : k = l.length := by omega
      go_wp2_with fail
      go_ret
      exact ⟨_, rfl, by have := hq.out; rw [List.take_length] at this; rw [← this]; exact ho, hb⟩
section
set_option maxRecDepth 20000
set_option maxHeartbeats 3200000
theorem isDet_any (b C : Nat) (v : Value) (l : List (Int × Int)) (ok : MnOk C l) (T X : Nat) (hT : T < 32) (hX : X < 32) (w : World) (he : MnE w b C v l) :
    Calls Try.prog 72 #[.agg #[.int .i64 (T : Int), .func (.func 99) #[] #[.pointer (some ⟨b + 1, 0, none⟩)], .func (.func 100) #[] #[.pointer (some ⟨b, 0, none⟩), .pointer (some ⟨b + 1, 0, none⟩)], .func (.func 102) #[] #[.pointer (some ⟨b, 0, none⟩), .pointer (some ⟨b + 1, 0, none⟩)]], .int .i64 (X : Int)] w fun e w' => e = .returned (.bool (subN T (clo l X))) ∧ Below w.heap.size w w' := by
  have HB1 := Lib.hid ((Below.refl w.heap.size w).alloc (Nat.le_refl _) (.cells #[.int .i64 (T : Int), .func (.func 99) #[] #[.pointer (some ⟨b + 1, 0, none⟩)], .func (.func 100) #[] #[.pointer (some ⟨b, 0, none⟩), .pointer (some ⟨b + 1, 0, none⟩)], .func (.func 102) #[] #[.pointer (some ⟨b, 0, none⟩), .pointer (some ⟨b + 1, 0, none⟩)]] 69))
  have HX1 := Lib.hid (SBk.new w T b)
  have HCL := Lib.hid (fun w' (hb : Below w.heap.size w w') => mnClo_any b C v l ok X hX w' (he.kept hb))
  have hc32 := (clo_spec ok.h5 ok.dn hX).1
  have HP := Lib.hid (fun w' => partB_sub (L := T) (X := clo l X) hT hc32 w')
  obtain ⟨Z, hZ⟩ : ∃ Z, Z = clo l X := ⟨_, rfl⟩
  rw [← hZ] at HCL HP ⊢
  have c0 := HX1.out.c0
  have c1 := HX1.out.c1
  clear hZ hc32 ok he hT hX HX1
  go_enter Try.func72, Try.ntmps72
  go_upto_region 1 with fail
  obtain ⟨W1, hW⟩ : ∃ W1, W1 = (w.alloc (.cells #[.int .i64 (T : Int), .func (.func 99) #[] #[.pointer (some ⟨b + 1, 0, none⟩)], .func (.func 100) #[] #[.pointer (some ⟨b, 0, none⟩), .pointer (some ⟨b + 1, 0, none⟩)], .func (.func 102) #[] #[.pointer (some ⟨b, 0, none⟩), .pointer (some ⟨b + 1, 0, none⟩)]] 69)) := ⟨_, rfl⟩
  rw [← hW] at c0 c1 HB1 ⊢
  clear hW
  refine wp_region_noPanic ?_
  refine wp_region_held_drew (S := (fun w' => (w'.cell? ⟨w.heap.size, 0, none⟩ = some (.int .i64 (T : Int)) ∧ w'.cell? ⟨w.heap.size, 1, none⟩ = some (.func (.func 99) #[] #[.pointer (some ⟨b + 1, 0, none⟩)])) ∧ Below W1.heap.size W1 w')) (by kernel_rfl) ?_ (fun hHeld => ?_)
  · ((try dsimp only); (first | exact ⟨⟨keep_in hHeld.1.1 b92, keep_in hHeld.1.2 b92⟩, hHeld.2.trans (b92.mono hHeld.2.size)⟩ | exact ⟨⟨keep_in hHeld.1.1 b91, keep_in hHeld.1.2 b91⟩, hHeld.2.trans (b91.mono hHeld.2.size)⟩ | exact ⟨⟨c0, c1⟩, (Below.refl _ _).drew⟩))
  refine wpAnyH_take (i := 0) (v := ?_) rfl (by kernel_rfl) (by kernel_rfl) (by kernel_rfl) (fun _ _ _ h => h) (Or.inl ⟨by rfl, ?_⟩) (by assumption) ?_
  rotate_left
  · (intro w hSw; (try dsimp only at hSw); go_simp; (try with_reducible rfl))
  (try simp only [Act.put, List.getElem_toArray, List.getElem_cons_zero, List.setIfInBounds_toArray, List.set_cons_zero, List.set_cons_succ])
  refine wpAnyH_take (i := 1) (v := ?_) rfl (by kernel_rfl) (by kernel_rfl) (by kernel_rfl) (fun _ _ _ h => h) (Or.inl ⟨by rfl, ?_⟩) (by assumption) ?_
  rotate_left
  · (intro w hSw; (try dsimp only at hSw); go_simp; (try with_reducible rfl))
  (try simp only [Act.put, List.getElem_toArray, List.getElem_cons_succ, List.getElem_cons_zero, List.setIfInBounds_toArray, List.set_cons_zero, List.set_cons_succ])
  refine wpAnyH_take (i := 2) (v := ?_) rfl (by kernel_rfl) (by kernel_rfl) (by kernel_rfl) (fun _ _ _ h => h) (Or.inl ⟨by rfl, ?_⟩) (by assumption) ?_
  rotate_left
  · (intro w hSw; (try dsimp only at hSw); go_simp; (try with_reducible rfl))
  (try simp only [Act.put, List.getElem_toArray, List.getElem_cons_succ, List.getElem_cons_zero, List.setIfInBounds_toArray, List.set_cons_zero, List.set_cons_succ])
  refine wpAnyH_take (i := 3) (v := ?_) rfl (by kernel_rfl) (by kernel_rfl) (by kernel_rfl) (fun _ _ _ h => h) (Or.inl ⟨by rfl, ?_⟩) (by assumption) ?_
  rotate_left
  · (intro w hSw; (try dsimp only at hSw); go_simp; (try with_reducible rfl))
  (try simp only [Act.put, List.getElem_toArray, List.getElem_cons_succ, List.getElem_cons_zero, List.setIfInBounds_toArray, List.set_cons_zero, List.set_cons_succ])
  refine wpAnyH_take (i := 4) (v := ?_) rfl (by kernel_rfl) (by kernel_rfl) (by kernel_rfl) (fun _ _ _ h => h) (Or.inl ⟨by rfl, ?_⟩) (by assumption) ?_
  rotate_left
  · (intro w hSw; (try dsimp only at hSw); go_simp; (try with_reducible rfl))
  (try simp only [Act.put, List.getElem_toArray, List.getElem_cons_succ, List.getElem_cons_zero, List.setIfInBounds_toArray, List.set_cons_zero, List.set_cons_succ])
  refine wpAnyH_take (i := 5) (v := ?_) rfl (by kernel_rfl) (by kernel_rfl) (by kernel_rfl) (fun _ _ _ h => h) (Or.inl ⟨by rfl, ?_⟩) (by assumption) ?_
  rotate_left
  · (intro w hSw; (try dsimp only at hSw); go_simp; (try with_reducible rfl))
  (try simp only [Act.put, List.getElem_toArray, List.getElem_cons_succ, List.getElem_cons_zero, List.setIfInBounds_toArray, List.set_cons_zero, List.set_cons_succ])
  refine wpAnyH_ready (rs := [6]) (by kernel_rfl) (by simp) (AllReadyH.cons rfl (fun K hK => ?_) AllReadyH.nil)
  (first | ((first | (go_at_call 99; refine (HCL.out _ (HB1.out.trans (hHeld.2.mono HB1.out.size))).mono ?_; rintro e w91 ⟨rfl, b91⟩) | (go_at_call 88; refine (HP.out _).mono ?_; rintro e w92 ⟨rfl, b92⟩))) | (go_simp; (first | (go_at_call 99; refine (HCL.out _ (HB1.out.trans (hHeld.2.mono HB1.out.size))).mono ?_; rintro e w91 ⟨rfl, b91⟩) | (go_at_call 88; refine (HP.out _).mono ?_; rintro e w92 ⟨rfl, b92⟩))))
  (try (go_wp2_with fail))
  refine hK.out _ _ ?_ (fun hHeld => ?_)
  · ((try dsimp only); (first | exact ⟨⟨keep_in hHeld.1.1 b92, keep_in hHeld.1.2 b92⟩, hHeld.2.trans (b92.mono hHeld.2.size)⟩ | exact ⟨⟨keep_in hHeld.1.1 b91, keep_in hHeld.1.2 b91⟩, hHeld.2.trans (b91.mono hHeld.2.size)⟩ | exact ⟨⟨c0, c1⟩, (Below.refl _ _).drew⟩))
  clear hK K
  (try simp only [Act.put, List.getElem_toArray, List.getElem_cons_succ, List.getElem_cons_zero, List.setIfInBounds_toArray, List.set_cons_zero, List.set_cons_succ])
  refine wpAnyH_ready (rs := [7]) (by kernel_rfl) (by simp) (AllReadyH.cons rfl (fun K hK => ?_) AllReadyH.nil)
  (first | ((first | (go_at_call 99; refine (HCL.out _ (HB1.out.trans (hHeld.2.mono HB1.out.size))).mono ?_; rintro e w91 ⟨rfl, b91⟩) | (go_at_call 88; refine (HP.out _).mono ?_; rintro e w92 ⟨rfl, b92⟩))) | (go_simp; (first | (go_at_call 99; refine (HCL.out _ (HB1.out.trans (hHeld.2.mono HB1.out.size))).mono ?_; rintro e w91 ⟨rfl, b91⟩) | (go_at_call 88; refine (HP.out _).mono ?_; rintro e w92 ⟨rfl, b92⟩))))
  (try (go_wp2_with fail))
  refine hK.out _ _ ?_ (fun hHeld => ?_)
  · ((try dsimp only); (first | exact ⟨⟨keep_in hHeld.1.1 b92, keep_in hHeld.1.2 b92⟩, hHeld.2.trans (b92.mono hHeld.2.size)⟩ | exact ⟨⟨keep_in hHeld.1.1 b91, keep_in hHeld.1.2 b91⟩, hHeld.2.trans (b91.mono hHeld.2.size)⟩ | exact ⟨⟨c0, c1⟩, (Below.refl _ _).drew⟩))
  clear hK K
  (try simp only [Act.put, List.getElem_toArray, List.getElem_cons_succ, List.getElem_cons_zero, List.setIfInBounds_toArray, List.set_cons_zero, List.set_cons_succ])
  refine wpAnyH_take (i := 8) (v := ?_) rfl (by kernel_rfl) (by kernel_rfl) (by kernel_rfl) (fun _ _ _ h => h) (Or.inl ⟨by rfl, ?_⟩) (by assumption) ?_
  rotate_left
  · (intro w hSw; (try dsimp only at hSw); go_simp; (try with_reducible rfl))
  (try simp only [Act.put, List.getElem_toArray, List.getElem_cons_succ, List.getElem_cons_zero, List.setIfInBounds_toArray, List.set_cons_zero, List.set_cons_succ])
  refine wpAnyH_done (by kernel_rfl) ?_ _
  refine NoPanic.normal ?_
  have HB3 := Lib.hid (HB1.out.trans (hHeld.2.mono HB1.out.size))
  clear hHeld c0 c1
  go_wp2_with fail
  go_ret
  exact ⟨rfl, HB3.out⟩
theorem ofFun_any (b C : Nat) (v : Value) (l : List (Int × Int)) (ok : MnOk C l) (T P L R : Nat) (hT : T < 32) (hL : L < 32) (hR : R < 5) (p : Nat) (w : World) (he : MnE w b C v l) (hs : SBk w p T b) (hp : w.cell? ⟨p + 1, 0, none⟩ = some (.int .i64 (P : Int))) :
    Calls Try.prog 98 #[.agg #[.int .i64 (L : Int), .int .i64 (R : Int)], .pointer (some ⟨p + 1, 0, none⟩), .pointer (some ⟨p, 0, none⟩)] w fun e w' => e = .returned (.bool (ofG l T P ((L : Int), (R : Int)))) ∧ Below w.heap.size w w' := by
  have hb1 := (Below.refl w.heap.size w).alloc (Nat.le_refl _) (.cells #[.int .i64 (L : Int), .int .i64 (R : Int)] 44)
  have HB1 := Lib.hid hb1
  have HX1 := Lib.hid (bx_new w L R)
  have HS1 := Lib.hid (hs.kept hb1)
  have hp1 := keep_in hp hb1
  have HHS := Lib.hid (fun w' => has_any P R (by omega) w')
  have HD := Lib.hid (fun w' (hb : Below w.heap.size w w') => isDet_any b C v l ok T L hT hL w' (he.kept hb))
  have hE : ofG l T P ((L : Int), (R : Int)) = (!bitB P R && !subN T (clo l L)) := rfl
  rw [hE]
  obtain ⟨q2, hq2⟩ : ∃ q, q = subN T (clo l L) := ⟨_, rfl⟩
  rw [← hq2] at HD ⊢
  have c0 := HX1.out.c0
  have c1 := HX1.out.c1
  have s0 := HS1.out.c0
  have s1 := HS1.out.c1
  have s2 := HS1.out.c2
  have s3 := HS1.out.c3
  clear hb1 hs hp he ok hE hq2
  cases hq : bitB P R with
  | true =>
    rw [hq] at HHS
    clear hq
    go_enter Try.func98, Try.ntmps98
    go_wp2_with fail
    refine (HHS.out _).mono ?_
    rintro e w3 ⟨rfl, rfl⟩
    go_wp2_with fail
    go_ret
    exact ⟨ret_b (by rw [Bool.not_true, Bool.false_and]), HB1.out⟩
  | false =>
    rw [hq] at HHS
    clear hq
    go_enter Try.func98, Try.ntmps98
    go_wp2_with fail
    refine (HHS.out _).mono ?_
    rintro e w3 ⟨rfl, rfl⟩
    go_wp2_with fail
    refine (HD.out _ HB1.out).mono ?_
    rintro e w3 ⟨rfl, b3⟩
    have HB3 := Lib.hid (HB1.out.trans (b3.mono HB1.out.size))
    clear b3 c0 c1 s0 s1 s2 s3 hp1
    go_wp2_with fail
    go_ret
    exact ⟨ret_b (by rw [Bool.not_false, Bool.true_and]), HB3.out⟩
theorem offenders_any (b C : Nat) (v : Value) (l : List (Int × Int)) (ok : MnOk C l) (T P : Nat) (hT : T < 32) (w : World) (he : MnE w b C v l) :
    Calls Try.prog 59 #[.agg #[.int .i64 (T : Int), .func (.func 99) #[] #[.pointer (some ⟨b + 1, 0, none⟩)], .func (.func 100) #[] #[.pointer (some ⟨b, 0, none⟩), .pointer (some ⟨b + 1, 0, none⟩)], .func (.func 102) #[] #[.pointer (some ⟨b, 0, none⟩), .pointer (some ⟨b + 1, 0, none⟩)]], .int .i64 (P : Int)] w (RetD (ofL (C : Int) l T P) w) := by
  have hb1 := (Below.refl w.heap.size w).alloc (Nat.le_refl _) (.cells #[.int .i64 (T : Int), .func (.func 99) #[] #[.pointer (some ⟨b + 1, 0, none⟩)], .func (.func 100) #[] #[.pointer (some ⟨b, 0, none⟩), .pointer (some ⟨b + 1, 0, none⟩)], .func (.func 102) #[] #[.pointer (some ⟨b, 0, none⟩), .pointer (some ⟨b + 1, 0, none⟩)]] 69)
  have hb2 := hb1.alloc hb1.size (.cells #[.int .i64 (P : Int)] 48)
  have hx1 := SBk.new w T b
  have hba := (Below.refl (w.alloc (.cells #[.int .i64 (T : Int), .func (.func 99) #[] #[.pointer (some ⟨b + 1, 0, none⟩)], .func (.func 100) #[] #[.pointer (some ⟨b, 0, none⟩), .pointer (some ⟨b + 1, 0, none⟩)], .func (.func 102) #[] #[.pointer (some ⟨b, 0, none⟩), .pointer (some ⟨b + 1, 0, none⟩)]] 69)).heap.size _).alloc (Nat.le_refl _) (.cells #[.int .i64 (P : Int)] 48)
  have hx2 := hx1.kept hba
  have hp2 := one_at (w.alloc (.cells #[.int .i64 (T : Int), .func (.func 99) #[] #[.pointer (some ⟨b + 1, 0, none⟩)], .func (.func 100) #[] #[.pointer (some ⟨b, 0, none⟩), .pointer (some ⟨b + 1, 0, none⟩)], .func (.func 102) #[] #[.pointer (some ⟨b, 0, none⟩), .pointer (some ⟨b + 1, 0, none⟩)]] 69)) 48 (.int .i64 (P : Int))
  rw [World.size_alloc] at hp2
  have HB2 := Lib.hid hb2
  have HX2 := Lib.hid hx2
  have HP2 := Lib.hid hp2
  have HIN := Lib.hid (fun w' (hb : Below w.heap.size w w') => mnIn_any b C v l ok T hT w' (he.kept hb))
  have HFL := Lib.hid (fun vp w' (hb : Below w.heap.size w w') (hs : SBk w' w.heap.size T b) (hp : w'.cell? ⟨w.heap.size + 1, 0, none⟩ = some (.int .i64 (P : Int))) (hr : ReadD w' vp (pjL (C : Int) l (T : Int))) => filtOF_any (.pointer (some ⟨w.heap.size + 1, 0, none⟩)) (.pointer (some ⟨w.heap.size, 0, none⟩)) (ofG l T P) vp (pjL (C : Int) l (T : Int)) w' hr (Nat.le_trans (pjL_len _ _ _) (by decide))
    (fun x hx w'' hb' => by
      obtain ⟨L, R, rfl, hL, -, hR, -⟩ := pj_parts hx
      exact ofFun_any b C v l ok T P L R hT hL hR w.heap.size w'' (he.kept (hb.trans (hb'.mono hb.size))) (hs.kept hb') (keep_in hp hb')))
  have hE : (pjL (C : Int) l (T : Int)).filter (ofG l T P) = ofL (C : Int) l T P := rfl
  rw [hE] at HFL
  have c0 := hx2.c0
  have c2 := hx2.c2
  clear hb1 hb2 hx1 hba hx2 hE ok hT he
  go_enter Try.func59, Try.ntmps59
  go_wp2_with fail
  refine (HIN.out _ HB2.out).mono ?_
  rintro e w3 ⟨v3, rfl, o3, b3⟩
  have HB3 := Lib.hid (HB2.out.trans (b3.mono HB2.out.size))
  have HG := Lib.hid (HFL.out v3 w3 HB3.out (HX2.out.kept b3) (keep_in HP2.out b3) o3.read)
  clear b3 o3 c0 c2 hp2 HX2 HP2
  go_wp2_with fail
  refine HG.out.mono ?_
  rintro e w4 ⟨v4, rfl, o4, b4⟩
  have HB4 := Lib.hid (HB3.out.trans (b4.mono HB3.out.size))
  have HO4 := Lib.hid (o4.base HB3.out.size)
  clear b4 o4
  go_wp2_with fail
  go_ret
  exact ⟨_, rfl, HO4.out, HB4.out⟩
end
end Go.Proofs.Ytcgkfbjdlhapkaa
