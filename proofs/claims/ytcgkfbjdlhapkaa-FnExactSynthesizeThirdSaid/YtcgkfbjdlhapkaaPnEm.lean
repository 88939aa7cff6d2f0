/- The program's chapter 13: a cover is put together by Left; SynthesizeThird, by contract. Conditions: as stated. -/
import Derived.Test.YtcgkfbjdlhapkaaPnOm
import Derived.Test.YtcgkfbjdlhapkaaYa46
namespace Go.Proofs.Ytcgkfbjdlhapkaa
open Go.RowKit

section
set_option maxRecDepth 20000
set_option maxHeartbeats 3200000
theorem syP_snoc (c : List (Int × Int)) {i : Nat} (h : i < c.length) : (c.take (i + 1)).map (fun d => ((syN c d.1.toNat c.length : Nat) : Int)) = (c.take i).map (fun d => ((syN c d.1.toNat c.length : Nat) : Int)) ++ [((syN c (c.getD i (0, 0)).1.toNat c.length : Nat) : Int)] := by
  rw [List.take_succ_eq_append_getElem h, List.map_append, List.getD_eq_getElem?_getD, List.getElem?_eq_getElem h]
  rfl
theorem groups_any (C : Nat) (hC : C ≤ 5) (v : Value) (c : List (Int × Int)) (hd : DepsN C c) (w : World) (hr : ReadD w v c) (hl : c.length ≤ 1000) :
    Calls Try.prog 69 #[v] w (RetI (syP c) w) := by
  obtain ⟨i0, hi, hz0, hz1, hz2⟩ := info_parts info3i
  have HI : Hid (_ ∧ _ ∧ _ ∧ _) := Lib.hid ⟨hi, hz0, hz1, hz2⟩
  clear hi hz0 hz1 hz2
  have HR := Lib.hid (fun w' (hb : Below w.heap.size w w') => hr.kept hb)
  have h32 := two5 hC
  have HD := Lib.hid (fun i (hi : i < c.length) => hd _ (memD hi))
  have HLT := Lib.hid (fun L (hL : L < 2 ^ C) k (hk : k ≤ c.length) => syN_lt hC hd (L := L) (by omega) k hk)
  have HPS := Lib.hid (fun i (hi : i < c.length) => syP_snoc c hi)
  have HPE : Hid ((c.take c.length).map (fun d => ((syN c d.1.toNat c.length : Nat) : Int)) = syP c) := Lib.hid (by rw [List.take_length]; rfl)
  obtain ⟨a, cap, rfl, -⟩ := hr
  clear hd
  go_enter Try.func69, Try.ntmps69
  go_wp2_with (at_make; refine wpList_make_own _ rfl _ _ 24 rfl w.heap.size 3 i0 (.int .i64 0) 1 Try.underlying24 HI.out.1 HI.out.2.1 HI.out.2.2.1 .i64 .i64 _ c.length rfl rfl rfl (by rw [HI.out.2.2.2]; omega) (by unfold maxLen; omega) (Nat.le_refl _) ?_; intro w0 hown0 hgrow0)
  have HB0 := Lib.hid ((Below.refl w.heap.size w).grown hgrow0 (Nat.le_refl _) (by simp))
  have HO0 := Lib.hid (OwnI.made hown0)
  clear hown0 hgrow0
  go_loopw [3, 14] (fun ov iv wr => ∃ (i : Nat) (q : List Int), i ≤ c.length ∧ iv = .int .i64 (i : Int) ∧ Hid (q = (c.take i).map (fun d => ((syN c d.1.toNat c.length : Nat) : Int))) ∧ Hid (OwnI wr w.heap.size ov q) ∧ Hid (Below w.heap.size w wr)) (fun _ iv _ => c.length - (intOf iv).toNat)
  case atStart => exact ⟨0, [], by omega, rfl, Lib.hid rfl, HO0, HB0⟩
  case round =>
    clear HO0 HB0
    obtain ⟨i, q, hi, rfl, HQ, HO, HB⟩ := hrel
    obtain ⟨w5, hw⟩ : ∃ w', w' = wr := ⟨_, rfl⟩
    rw [← hw] at HO HB ⊢
    clear hw
    have z0 : (0 : Int) ≤ (i : Int) := by omega
    have hql : q.length = min i c.length := by rw [HQ.out, List.length_map, List.length_take]
    by_cases hlt : i < c.length
    · have z1 : (i : Int) < (c.length : Int) := by omega
      obtain ⟨b, o, rfl, h0, h1⟩ := readD_cells (HR.out w5 HB.out) hlt
      obtain ⟨L, R, hdd, hL, hR⟩ := HD.out i hlt
      have HS : Hid ((c.take (i + 1)).map (fun d => ((syN c d.1.toNat c.length : Nat) : Int)) = q ++ [((syN c L c.length : Nat) : Int)]) := Lib.hid (by rw [HPS.out i hlt, ← HQ.out, hdd]; rfl)
      rw [hdd] at h0 h1
      simp only at h0 h1
      have HL := Lib.hid (HLT.out L hL)
      obtain ⟨d0, d1⟩ := zero2 w5 44 (.int .i64 (L : Int)) (.int .i64 (R : Int))
      have HDD := Lib.hid d0
      have HB6 := Lib.hid (HB.out.alloc HB.out.size (.cells #[.int .i64 (L : Int), .int .i64 (R : Int)] 44))
      have HO6 := Lib.hid (OwnI.kept HO.out ((Below.refl w5.heap.size w5).alloc (Nat.le_refl _) (.cells #[.int .i64 (L : Int), .int .i64 (R : Int)] 44)) (fun k hk => (OwnI.lt HO.out k hk).2))
      have hws : (w5.alloc (.cells #[.int .i64 (L : Int), .int .i64 (R : Int)] 44)).heap.size = w5.heap.size + 1 := by simp
      clear hdd HQ HPS hL
      go_wp2_with fail
      obtain ⟨w6, hw6⟩ : ∃ w', w' = w5.alloc (.cells #[.int .i64 (L : Int), .int .i64 (R : Int)] 44) := ⟨_, rfl⟩
      rw [← hw6] at HDD HB6 HO6 hws d0 d1 ⊢
      clear hw6
      go_loopw [6, 22] (fun xv kv wr => ∃ k : Nat, k ≤ c.length ∧ kv = .int .i64 (k : Int) ∧ xv = .int .i64 ((syN c L k : Nat) : Int) ∧ Hid (Below w6.heap.size w6 wr)) (fun _ kv _ => c.length - (intOf kv).toNat)
      case atStart => exact ⟨0, by omega, rfl, rfl, Lib.hid (Below.refl _ _)⟩
      case round =>
        clear h0 h1 d0 d1
        obtain ⟨k, hk, rfl, rfl, HW⟩ := hrel
        obtain ⟨w7, hw⟩ : ∃ w', w' = wr := ⟨_, rfl⟩
        rw [← hw] at HW ⊢
        clear hw
        have y0 : (0 : Int) ≤ (k : Int) := by omega
        have HB7 := Lib.hid (HB6.out.trans (HW.out.mono HB6.out.size))
        have HO7 := Lib.hid (OwnI.kept HO6.out HW.out (fun k hk => (OwnI.lt HO6.out k hk).2))
        have hdl := keep_in HDD.out HW.out
        by_cases hlk : k < c.length
        · have y1 : (k : Int) < (c.length : Int) := by omega
          obtain ⟨_, _, e1, g0, g1⟩ := readD_cells (HR.out w7 HB7.out) hlk
          cases e1
          obtain ⟨M, Q, hm, hM, hQ⟩ := HD.out k hlk
          have hxk := HL.out k (by omega)
          have HS2 : Hid (syN c L (k + 1) = if (M : Int) = (L : Int) then orN (syN c L k) Q else syN c L k) := Lib.hid (by show (if (c.getD k (0, 0)).1 = (L : Int) then orN (syN c L k) (c.getD k (0, 0)).2.toNat else syN c L k) = _; rw [hm]; rfl)
          rw [hm] at g0 g1
          simp only at g0 g1
          obtain ⟨X, hX⟩ : ∃ X, X = syN c L k := ⟨_, rfl⟩
          rw [← hX] at HS2 hxk ⊢
          have HA := Lib.hid (fun w' => added10_any X Q (M : Int) hxk (by omega) w')
          obtain ⟨e0, e1⟩ := zero2 w7 44 (.int .i64 (M : Int)) (.int .i64 (Q : Int))
          have hb8 := (Below.refl w7.heap.size w7).alloc (Nat.le_refl _) (.cells #[.int .i64 (M : Int), .int .i64 (Q : Int)] 44)
          have hdl8 := keep_in hdl hb8
          have HB8 := Lib.hid (HW.out.alloc HW.out.size (.cells #[.int .i64 (M : Int), .int .i64 (Q : Int)] 44))
          clear hm hX hM hQ hb8
          by_cases heq : (M : Int) = (L : Int)
          · have hbe : ((M : Int) == (L : Int)) = true := by rw [beq_iff_eq]; exact heq
            rw [if_pos heq] at HS2
            clear heq
            go_wp2_with fail
            refine (HA.out _).mono ?_
            rintro e w8 ⟨rfl, b8⟩
            have HB9 := Lib.hid (HB8.out.trans (b8.mono HB8.out.size))
            clear b8 e0 e1 hdl8 g0 g1 hdl
            go_wp2_with fail
            go_roundw
            case rel => exact ⟨k + 1, by omega, by go_num, by rw [HS2.out], HB9⟩
            case measure => simp [intOf]; omega
          · have hbe : ((M : Int) == (L : Int)) = false := by rw [beq_eq_false_iff_ne]; exact heq
            rw [if_neg heq] at HS2
            clear heq
            go_wp2_with fail
            clear e0 e1 hdl8 g0 g1 hdl
            go_roundw
            case rel => exact ⟨k + 1, by omega, by go_num, by rw [HS2.out], HB8⟩
            case measure => simp [intOf]; omega
        · obtain rfl : k = c.length := by omega
          have hq2 : q.length ≤ 1000 := by omega
          obtain ⟨S, hS⟩ : ∃ S, S = syN c L c.length := ⟨_, rfl⟩
          rw [← hS] at HS ⊢
          clear hS
          go_wp2_with (at_builtin; refine wpList_append_own _ rfl _ _ 24 rfl w.heap.size 3 i0 (.int .i64 0) 1 8 Try.underlying24 HI.out.1 HI.out.2.1 HI.out.2.2.1 HI.out.2.2.2 rfl (by decide) _ _ _ rfl (World.ownsRow.alloc HO7.out _) ⟨w7.heap.size, 0, none⟩ 1 1 [.int .i64 (S : Int)] rfl rfl (cell_one_new _ _ _) (one_i64 _) (by unfold maxLen; omega) (by omega) (le_alloc HB7.out (Nat.le_refl _) _) ?_; intro v1 w2 hown1 hgrow1 _)
          have HO8 := Lib.hid (OwnI.snoc hown1)
          have HB8 := Lib.hid ((HB7.out.alloc HB7.out.size (.cells #[.int .i64 (S : Int)] 3)).grown hgrow1 (by simp; have := HB7.out.size; omega) (fun k hk => (OwnI.lt HO7.out k hk).1))
          clear hown1 hgrow1
          go_wp2_with fail
          go_roundw
          case rel => exact ⟨i + 1, _, by omega, by go_num, Lib.hid HS.out.symm, HO8, HB8⟩
          case measure => simp [intOf]; omega
    · obtain rfl : i = c.length := by omega
      have HE := Lib.hid (HQ.out.trans HPE.out)
      go_wp2_with fail
      go_ret
      exact ⟨_, rfl, by rw [← HE.out]; exact HO.out, HB.out⟩
theorem indexSy_any (v c1 : Value) (p : Int → Bool) (l : List Int) (w : World) (hr : ReadI w v l) (hl : l.length ≤ 1048576)
    (HP : ∀ x, x ∈ l → ∀ w', Below w.heap.size w w' → Calls Try.prog 71 #[.int .i64 x, c1] w' fun e w'' => e = .returned (.bool (p x)) ∧ Below w'.heap.size w' w'') :
    Calls Try.prog 96 #[v, .func (.func 71) #[] #[c1]] w fun e w' => ∃ i, e = .returned (.int .i64 i) ∧ IxOkS (l.any p) i ∧ Below w.heap.size w w' := by
  have HQ := Lib.hid HP
  obtain ⟨a, cap, rfl, ha⟩ := hr
  have HA := Lib.hid ha
  clear ha HP
  go_enter Try.func96, Try.ntmps96
  go_wp2_with fail
  go_loopw [8] (fun iv wr => ∃ (k : Nat), k ≤ l.length ∧ iv = .int .i64 (k : Int) ∧ Hid ((l.take k).any p = false) ∧ Below w.heap.size w wr) (fun iv _ => l.length - (intOf iv).toNat)
  case atStart => exact ⟨0, by omega, rfl, Lib.hid rfl, Below.refl _ _⟩
  case round =>
    obtain ⟨k, hk, rfl, hno, hb⟩ := hrel
    by_cases hlt : k < l.length
    · obtain ⟨x0, rfl, hx⟩ := HA.out k hlt
      replace hx := (hb.cell (World.block_lt_of_cell? w _ hx)).trans hx
      have hm : l[k] ∈ l := List.getElem_mem hlt
      have hgd : l.getD k 0 = l[k] := by rw [List.getD_eq_getElem?_getD, List.getElem?_eq_getElem hlt]; rfl
      have HNO := Lib.hid (any_noS p l 0 k hlt hno.out)
      have HYE := Lib.hid (any_yesS p l 0 k hlt)
      rw [hgd] at HNO HYE
      obtain ⟨y, hy⟩ : ∃ y, y = l[k] := ⟨_, rfl⟩
      rw [← hy] at hx hm HNO HYE
      have HC := Lib.hid (HQ.out y hm)
      have HB := Lib.hid hb
      clear hy hm hb hgd
      have z0 : (0 : Int) ≤ (k : Int) := by omega
      have z1 : (k : Int) < (l.length : Int) := by omega
      cases hp : p y with
      | true =>
        have HE := Lib.hid (HYE.out hp)
        rw [hp] at HC
        clear hp
        go_wp2_with fail
        refine (HC.out _ HB.out).mono ?_
        rintro e w1 ⟨rfl, b1⟩
        have hb1 := HB.out.trans (b1.mono HB.out.size)
        clear b1 hx
        go_wp2_with fail
        go_ret
        exact ⟨_, rfl, ⟨fun _ => (by omega), fun h => absurd h (by rw [HE.out]; decide)⟩, hb1⟩
      | false =>
        have HE := Lib.hid (HNO.out hp)
        rw [hp] at HC
        clear hp
        go_wp2_with fail
        refine (HC.out _ HB.out).mono ?_
        rintro e w1 ⟨rfl, b1⟩
        have hb1 := HB.out.trans (b1.mono HB.out.size)
        clear b1 hx
        go_wp2_with fail
        go_roundw
        case rel => exact ⟨k + 1, by omega, by go_num, HE, hb1⟩
        case measure => simp [intOf]; omega
    · obtain rfl : k = l.length := by omega
      go_wp2_with fail
      go_ret
      exact ⟨_, rfl, ⟨fun h => absurd h (by have := hno.out; rw [List.take_length] at this; rw [this]; decide), fun _ => rfl⟩, hb⟩
theorem containsSy_any (v c1 : Value) (p : Int → Bool) (l : List Int) (w : World) (hr : ReadI w v l) (hl : l.length ≤ 1048576)
    (HP : ∀ x, x ∈ l → ∀ w', Below w.heap.size w w' → Calls Try.prog 71 #[.int .i64 x, c1] w' fun e w'' => e = .returned (.bool (p x)) ∧ Below w'.heap.size w' w'') :
    Calls Try.prog 53 #[v, .func (.func 71) #[] #[c1]] w fun e w' => e = .returned (.bool (l.any p)) ∧ Below w.heap.size w w' := by
  have HI := Lib.hid (indexSy_any v c1 p l w hr hl HP)
  clear hr HP
  go_enter Try.func53, Try.ntmps53
  go_wp2_with fail
  refine HI.out.mono ?_
  rintro e w' ⟨i, rfl, hi, hb⟩
  have HX : Hid (l.any p = decide (0 ≤ i)) := Lib.hid (by
    cases h : l.any p with
    | true => exact (decide_eq_true (hi.1 h)).symm
    | false => rw [hi.2 h]; rfl)
  clear hi
  go_wp2_with fail
  go_ret
  exact ⟨ret_b HX.out, hb⟩
theorem syFun_any (b C : Nat) (v : Value) (l : List (Int × Int)) (ok : MnOk C l) (T S : Nat) (hT : T < 32) (hS : S < 32) (p : Nat) (w : World) (he : MnE w b C v l) (hs : SBk w p T b) :
    Calls Try.prog 71 #[.int .i64 (S : Int), .pointer (some ⟨p, 0, none⟩)] w fun e w' => e = .returned (.bool (subN T (clo l S))) ∧ Below w.heap.size w w' := by
  have HD := Lib.hid (isDet_any b C v l ok T S hT hS w he)
  have s0 := hs.c0
  have s1 := hs.c1
  have s2 := hs.c2
  have s3 := hs.c3
  clear hs he ok hT hS
  go_enter Try.func71, Try.ntmps71
  go_wp2_with fail
  refine HD.out.mono ?_
  rintro e w3 ⟨rfl, b3⟩
  have HB3 := Lib.hid b3
  clear b3 s0 s1 s2 s3
  go_wp2_with fail
  go_ret
  exact ⟨rfl, HB3.out⟩
end
end Go.Proofs.Ytcgkfbjdlhapkaa
