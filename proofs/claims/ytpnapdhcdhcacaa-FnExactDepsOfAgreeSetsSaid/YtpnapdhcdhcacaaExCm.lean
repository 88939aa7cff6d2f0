/- The model's chapter 12: CounterTable, by contract. Conditions: as stated. -/
import Derived.Test.YtpnapdhcdhcacaaXa13
import Derived.Test.YtpnapdhcdhcacaaXa15
import Derived.Deep.CutBlock
namespace Go.Proofs.Ytpnapdhcdhcacaa
open Go.RowKit

def ctrC (n : Int) (l : List (Int × Int)) (d : Int × Int) : Int := if ctrB n l d = true then n else 0
theorem ctr_none {n : Int} {l : List (Int × Int)} {d : Int × Int} (h : ¬ (arD n l = true ∧ depB n d.1 d.2 = true ∧ impB n l d = false)) : ctrC n l d = 0 ∧ ctrL n l d = [] ∧ ctrB n l d = false := by
  have hb : ctrB n l d = false := decide_eq_false h
  exact ⟨by unfold ctrC; rw [hb]; rfl, by unfold ctrL; rw [if_neg h], hb⟩
theorem bit_val (X k : Nat) : bits BinOp.and IntKind.i64 ((X : Int) / 2 ^ k) 1 = if bitB X k = true then 1 else 0 := by
  have e : (X : Int) / 2 ^ k % 2 = ((X / 2 ^ k % 2 : Nat) : Int) := by
    rw [Int.natCast_emod, Int.natCast_ediv, Int.natCast_pow]; rfl
  rw [i64_and_1, e]
  unfold bitB
  split
  · rename_i h
    rw [beq_iff_eq] at h
    rw [h]; rfl
  · rename_i h
    rw [beq_iff_eq] at h
    have : X / 2 ^ k % 2 = 0 := by omega
    rw [this]; rfl
section
set_option maxRecDepth 20000
set_option maxHeartbeats 3200000
theorem counterTable12_any (v : Value) (n x y : Int) (l : List (Int × Int)) (w : World) (hr : ReadD w v l) (hl : l.length ≤ 1048576) :
    Calls Try.prog 16 #[.int .i64 n, v, .agg #[.int .i64 x, .int .i64 y]] w (RetTB (ctrC n l (x, y)) (ctrL n l (x, y)) (ctrB n l (x, y)) w) := by
  have hb1 := (Below.refl w.heap.size w).alloc (Nat.le_refl _) (.cells #[.int .i64 x, .int .i64 y] 39)
  have hb2 := hb1.alloc hb1.size (.cells #[.int .i64 0, .slice none 0 0] 26)
  have hba := (Below.refl (w.alloc (.cells #[.int .i64 x, .int .i64 y] 39)).heap.size _).alloc (Nat.le_refl _) (.cells #[.int .i64 0, .slice none 0 0] 26)
  have HD2 := Lib.hid ((bx_new w x y).keep hba)
  have hz := bxt_new (w.alloc (.cells #[.int .i64 x, .int .i64 y] 39)) 0 (.slice none 0 0)
  rw [World.size_alloc] at hz
  have HZ2 := Lib.hid hz
  have HB2 := Lib.hid hb2
  have HAD := Lib.hid (fun w' (hb : Below w.heap.size w w') => areDeps10_any v n l w' (hr.kept hb) hl)
  have HID := Lib.hid (fun w' => isDep_any n x y w')
  have HIM := Lib.hid (fun w' (hb : Below w.heap.size w w') => impliesDep10_any v n x y l w' (hr.kept hb) hl)
  clear hb1 hb2 hba hz
  have c0 := HD2.out.c0
  have c1 := HD2.out.c1
  cases ha : arD n l with
  | false =>
    rw [ha] at HAD
    have HE := Lib.hid (ctr_none (n := n) (l := l) (d := (x, y)) (by rw [ha]; simp))
    obtain ⟨a, cap, rfl, -⟩ := hr
    clear ha
    go_enter Try.func16, Try.ntmps16
    go_wp2_with fail
    refine (HAD.out _ HB2.out).mono ?_
    rintro e w3 ⟨rfl, b3⟩
    have HB3 := Lib.hid (HB2.out.trans (b3.mono HB2.out.size))
    have HD3 := Lib.hid (HD2.out.keep b3)
    have HZ3 := Lib.hid (HZ2.out.keep b3)
    clear b3 c0 c1
    have c0 := HD3.out.c0
    have c1 := HD3.out.c1
    have hz9 := HZ3.out
    have d0 := hz9.c0
    have d1 := hz9.c1
    have e0 := hz9.f0
    have e1 := hz9.f1
    have hf := hz9.put (c' := 0) (v := .slice none 0 0)
    have HR := Lib.hid (And.intro hf.c0 hf.c1)
    have HBE := Lib.hid ((HB3.out.setCell (p := ⟨w.heap.size + 1, 0, none⟩) (by simp) (.int .i64 0)).setCell (p := ⟨w.heap.size + 1, 1, none⟩) (by simp) (.slice none 0 0))
    clear hz9 hf
    go_wp2_with fail
    exact bodyPost_ret (v := .tuple #[.agg #[.int .i64 0, .slice none 0 0], .bool false]) (by simp [results, Try.results16, go_sem, HR.out.1, HR.out.2]) rfl ⟨_, by rw [HE.out.1, HE.out.2.2], by rw [HE.out.2.1]; exact OwnSS.nil _ _ _, HBE.out⟩
  | true =>
    rw [ha] at HAD
    cases hd : depB n x y with
    | false =>
      rw [hd] at HID
      have HE := Lib.hid (ctr_none (n := n) (l := l) (d := (x, y)) (by rw [hd]; simp))
      obtain ⟨a, cap, rfl, -⟩ := hr
      clear ha hd
      go_enter Try.func16, Try.ntmps16
      go_wp2_with fail
      refine (HAD.out _ HB2.out).mono ?_
      rintro e w3 ⟨rfl, b3⟩
      have HB3 := Lib.hid (HB2.out.trans (b3.mono HB2.out.size))
      have HD3 := Lib.hid (HD2.out.keep b3)
      have HZ3 := Lib.hid (HZ2.out.keep b3)
      clear b3 c0 c1
      have c0 := HD3.out.c0
      have c1 := HD3.out.c1
      go_wp2_with fail
      refine (HID.out _).mono ?_
      rintro e w4 ⟨rfl, b4⟩
      have HB4 := Lib.hid (HB3.out.trans (b4.mono HB3.out.size))
      have HD4 := Lib.hid (HD3.out.keep b4)
      have HZ4 := Lib.hid (HZ3.out.keep b4)
      clear b4 c0 c1
      have c0 := HD4.out.c0
      have c1 := HD4.out.c1
      have hz9 := HZ4.out
      have d0 := hz9.c0
      have d1 := hz9.c1
      have e0 := hz9.f0
      have e1 := hz9.f1
      have hf := hz9.put (c' := 0) (v := .slice none 0 0)
      have HR := Lib.hid (And.intro hf.c0 hf.c1)
      have HBE := Lib.hid ((HB4.out.setCell (p := ⟨w.heap.size + 1, 0, none⟩) (by simp) (.int .i64 0)).setCell (p := ⟨w.heap.size + 1, 1, none⟩) (by simp) (.slice none 0 0))
      clear hz9 hf
      go_wp2_with fail
      exact bodyPost_ret (v := .tuple #[.agg #[.int .i64 0, .slice none 0 0], .bool false]) (by simp [results, Try.results16, go_sem, HR.out.1, HR.out.2]) rfl ⟨_, by rw [HE.out.1, HE.out.2.2], by rw [HE.out.2.1]; exact OwnSS.nil _ _ _, HBE.out⟩
    | true =>
      rw [hd] at HID
      cases hi : impB n l (x, y) with
      | true =>
        rw [hi] at HIM
        have HE := Lib.hid (ctr_none (n := n) (l := l) (d := (x, y)) (by rw [hi]; simp))
        obtain ⟨a, cap, rfl, -⟩ := hr
        clear ha hd hi
        go_enter Try.func16, Try.ntmps16
        go_wp2_with fail
        refine (HAD.out _ HB2.out).mono ?_
        rintro e w3 ⟨rfl, b3⟩
        have HB3 := Lib.hid (HB2.out.trans (b3.mono HB2.out.size))
        have HD3 := Lib.hid (HD2.out.keep b3)
        have HZ3 := Lib.hid (HZ2.out.keep b3)
        clear b3 c0 c1
        have c0 := HD3.out.c0
        have c1 := HD3.out.c1
        go_wp2_with fail
        refine (HID.out _).mono ?_
        rintro e w4 ⟨rfl, b4⟩
        have HB4 := Lib.hid (HB3.out.trans (b4.mono HB3.out.size))
        have HD4 := Lib.hid (HD3.out.keep b4)
        have HZ4 := Lib.hid (HZ3.out.keep b4)
        clear b4 c0 c1
        have c0 := HD4.out.c0
        have c1 := HD4.out.c1
        go_wp2_with fail
        refine (HIM.out _ HB4.out).mono ?_
        rintro e w5 ⟨rfl, b5⟩
        have HB5 := Lib.hid (HB4.out.trans (b5.mono HB4.out.size))
        have HD5 := Lib.hid (HD4.out.keep b5)
        have HZ5 := Lib.hid (HZ4.out.keep b5)
        clear b5 c0 c1
        have c0 := HD5.out.c0
        have c1 := HD5.out.c1
        have hz9 := HZ5.out
        have d0 := hz9.c0
        have d1 := hz9.c1
        have e0 := hz9.f0
        have e1 := hz9.f1
        have hf := hz9.put (c' := 0) (v := .slice none 0 0)
        have HR := Lib.hid (And.intro hf.c0 hf.c1)
        have HBE := Lib.hid ((HB5.out.setCell (p := ⟨w.heap.size + 1, 0, none⟩) (by simp) (.int .i64 0)).setCell (p := ⟨w.heap.size + 1, 1, none⟩) (by simp) (.slice none 0 0))
        clear hz9 hf
        go_wp2_with fail
        exact bodyPost_ret (v := .tuple #[.agg #[.int .i64 0, .slice none 0 0], .bool false]) (by simp [results, Try.results16, go_sem, HR.out.1, HR.out.2]) rfl ⟨_, by rw [HE.out.1, HE.out.2.2], by rw [HE.out.2.1]; exact OwnSS.nil _ _ _, HBE.out⟩
      | false =>
        rw [hi] at HIM
        obtain ⟨C, rfl, hC1, hC5, -, hdl⟩ := arD_n ha
        obtain ⟨-, k1, k2, k3⟩ := depB_iff.1 hd
        obtain ⟨L, rfl, hL, -⟩ := isA_lt12 hC5 k1
        have HE : Hid (ctrC (C : Int) l ((L : Int), y) = (C : Int) ∧ ctrL (C : Int) l ((L : Int), y) = [rowA (2 ^ C - 1) 0 C, rowA (clo l L) 1 C] ∧ ctrB (C : Int) l ((L : Int), y) = true) := Lib.hid (by
          have hb : ctrB (C : Int) l ((L : Int), y) = true := decide_eq_true ⟨ha, hd, hi⟩
          exact ⟨by unfold ctrC; rw [hb]; rfl, by unfold ctrL; rw [if_pos ⟨ha, hd, hi⟩]; rfl, hb⟩)
        have HCL := Lib.hid (fun w' (hb : Below w.heap.size w w') => close10_any C hC5 v l hdl L hL w' (hr.kept hb) hl)
        obtain ⟨X, hX⟩ : ∃ X, X = clo l L := ⟨_, rfl⟩
        rw [← hX] at HE HCL
        obtain ⟨i0, hi', hz0, hz1, hz2⟩ := info_parts info3i
        have HI : Hid (_ ∧ _ ∧ _ ∧ _) := Lib.hid ⟨hi', hz0, hz1, hz2⟩
        have hmk := make_zeros C (by omega)
        obtain ⟨a, cap, rfl, -⟩ := hr
        clear ha hd hi k1 k2 k3 hdl hX hi' hz0 hz1 hz2
        go_enter Try.func16, Try.ntmps16
        go_wp2_with fail
        refine (HAD.out _ HB2.out).mono ?_
        rintro e w3 ⟨rfl, b3⟩
        have HB3 := Lib.hid (HB2.out.trans (b3.mono HB2.out.size))
        have HD3 := Lib.hid (HD2.out.keep b3)
        have HZ3 := Lib.hid (HZ2.out.keep b3)
        clear b3 c0 c1
        have c0 := HD3.out.c0
        have c1 := HD3.out.c1
        go_wp2_with fail
        refine (HID.out _).mono ?_
        rintro e w4 ⟨rfl, b4⟩
        have HB4 := Lib.hid (HB3.out.trans (b4.mono HB3.out.size))
        have HD4 := Lib.hid (HD3.out.keep b4)
        have HZ4 := Lib.hid (HZ3.out.keep b4)
        clear b4 c0 c1
        have c0 := HD4.out.c0
        have c1 := HD4.out.c1
        go_wp2_with fail
        refine (HIM.out _ HB4.out).mono ?_
        rintro e w5 ⟨rfl, b5⟩
        have HB5 := Lib.hid (HB4.out.trans (b5.mono HB4.out.size))
        have HD5 := Lib.hid (HD4.out.keep b5)
        have HZ5 := Lib.hid (HZ4.out.keep b5)
        clear b5 c0 c1
        have c0 := HD5.out.c0
        have c1 := HD5.out.c1
        go_wp2_with fail
        refine (HCL.out _ HB5.out).mono ?_
        rintro e w6 ⟨rfl, b6⟩
        have HB6 := Lib.hid (HB5.out.trans (b6.mono HB5.out.size))
        have HZ6 := Lib.hid (HZ5.out.keep b6)
        clear b6 c0 c1 HD5
        have hal := (Below.refl w6.heap.size w6).alloc (Nat.le_refl _) (.cells #[] 3)
        have HB7 := Lib.hid (HB6.out.trans (hal.mono HB6.out.size))
        have HZ7 := Lib.hid (HZ6.out.keep hal)
        have HO7 : Hid (OwnI (w6.alloc (.cells #[] 3)) (w.heap.size + 2) (.slice (some ⟨w6.heap.size, 0, none⟩) 0 0) []) := Lib.hid (OwnI.made (World.ownsRow_made w6 #[] 0 (by have := HZ6.out.lt; omega) (by unfold maxLen; omega) rfl))
        clear hal
        go_wp2_with fail
        go_loopw [9, 10] (fun rv kv wr => ∃ (k : Nat) (q : List Int), k ≤ C ∧ kv = .int .i64 (k : Int) ∧ Hid (q = rowA X 1 k ∧ q.length = k) ∧ Hid (OwnI wr (w.heap.size + 2) rv q) ∧ Hid (BxT wr (w.heap.size + 1) 0 (.slice none 0 0)) ∧ Hid (Below w.heap.size w wr)) (fun _ kv _ => C - (intOf kv).toNat)
        case atStart => exact ⟨0, [], by omega, rfl, Lib.hid ⟨rfl, rfl⟩, HO7, HZ7, HB7⟩
        case round =>
          clear HO7 HZ7 HB7 HZ6 HB6
          obtain ⟨k, q, hk, rfl, HQ, HO, HZ, HB⟩ := hrel
          obtain ⟨w7, hw⟩ : ∃ w', w' = wr := ⟨_, rfl⟩
          rw [← hw] at HO HZ HB ⊢
          clear hw
          obtain ⟨ar, cr, hov⟩ : ∃ a c, _ = Value.slice a k c := by
            obtain ⟨a', c', h, -⟩ := HO.out.read
            rw [HQ.out.2] at h
            exact ⟨a', c', h⟩
          subst hov
          by_cases hlt : k < C
          · have z0 : (0 : Int) ≤ (k : Int) := by omega
            have z1 : (k : Int) < (C : Int) := by omega
            have hk64 : k ≤ 64 := by omega
            have hbv := bit_val X k
            have HN : Hid (q ++ [if bitB X k = true then 0 else 1] = rowA X 1 (k + 1) ∧ (q ++ [if bitB X k = true then (0 : Int) else 1]).length = k + 1) := Lib.hid ⟨by rw [HQ.out.1]; rfl, by rw [List.length_append, HQ.out.2]; rfl⟩
            have hqk := HQ.out.2
            have ho : w7.ownsRow (w.heap.size + 2) 3 1 (.slice ar k cr) k (intsV q) := by have h := HO.out; unfold OwnI at h; rw [hqk] at h; exact h
            have HOK := Lib.hid ho
            have HSZ : Hid (w.heap.size + 2 ≤ w7.heap.size) := Lib.hid (by have := HZ.out.lt; omega)
            have hap : ∀ (u : Int), (Value.slice ar k cr).ownBlock ≠ some (w.heap.size + 1) := fun _ e => by have := (World.ownsRow.lt ho _ e).1; omega
            have HAP := Lib.hid (hap 0)
            clear ho hqk hap
            have HL : Hid (∀ u : Int, q.length = k) := Lib.hid (fun _ => HQ.out.2)
            cases hb : bitB X k with
            | true =>
              rw [hb] at hbv HN
              rw [if_pos rfl] at hbv HN
              clear hb
              go_wp2_with (at_builtin; refine wpList_append_own _ rfl _ _ 47 rfl (w.heap.size + 2) 3 i0 (.int .i64 0) 1 8 Try.underlying47 HI.out.1 HI.out.2.1 HI.out.2.2.1 HI.out.2.2.2 rfl (by decide) _ _ _ rfl (World.ownsRow.alloc HOK.out _) ⟨w7.heap.size, 0, none⟩ 1 1 [.int .i64 0] rfl rfl (cell_one_new _ _ _) (one_i64 _) (by unfold maxLen; omega) (by omega) (by have := HSZ.out; rw [World.size_alloc]; omega) ?_; intro v8 w8 hown8 hgrow8 _; have HO8 : Hid (OwnI w8 (w.heap.size + 2) v8 (q ++ [0])) := Lib.hid (OwnI.snoc (by rw [HL.out 0]; exact hown8)); have HZ8 := Lib.hid ((HZ.out.keep ((Below.refl w7.heap.size w7).alloc (Nat.le_refl _) (.cells #[.int .i64 0] 3))).grown hgrow8 HAP.out); have HB8 := Lib.hid ((HB.out.alloc HB.out.size (.cells #[.int .i64 0] 3)).grown hgrow8 (by rw [World.size_alloc]; have := HB.out.size; omega) (fun k hk => by have := (World.ownsRow.lt HOK.out k hk).1; omega)); clear hown8 hgrow8)
              go_roundw
              case rel => exact ⟨k + 1, _, by omega, by go_num, HN, HO8, HZ8, HB8⟩
              case measure => simp [intOf]; omega
            | false =>
              rw [hb] at hbv HN
              rw [if_neg (by decide)] at hbv
              rw [if_neg (by decide)] at HN
              clear hb
              go_wp2_with (at_builtin; refine wpList_append_own _ rfl _ _ 47 rfl (w.heap.size + 2) 3 i0 (.int .i64 0) 1 8 Try.underlying47 HI.out.1 HI.out.2.1 HI.out.2.2.1 HI.out.2.2.2 rfl (by decide) _ _ _ rfl (World.ownsRow.alloc HOK.out _) ⟨w7.heap.size, 0, none⟩ 1 1 [.int .i64 1] rfl rfl (cell_one_new _ _ _) (one_i64 _) (by unfold maxLen; omega) (by omega) (by have := HSZ.out; rw [World.size_alloc]; omega) ?_; intro v8 w8 hown8 hgrow8 _; have HO8 : Hid (OwnI w8 (w.heap.size + 2) v8 (q ++ [1])) := Lib.hid (OwnI.snoc (by rw [HL.out 0]; exact hown8)); have HZ8 := Lib.hid ((HZ.out.keep ((Below.refl w7.heap.size w7).alloc (Nat.le_refl _) (.cells #[.int .i64 1] 3))).grown hgrow8 HAP.out); have HB8 := Lib.hid ((HB.out.alloc HB.out.size (.cells #[.int .i64 1] 3)).grown hgrow8 (by rw [World.size_alloc]; have := HB.out.size; omega) (fun k hk => by have := (World.ownsRow.lt HOK.out k hk).1; omega)); clear hown8 hgrow8)
              go_roundw
              case rel => exact ⟨k + 1, _, by omega, by go_num, HN, HO8, HZ8, HB8⟩
              case measure => simp [intOf]; omega
          · obtain rfl : k = C := by omega
            have z1 : ¬ ((k : Int) < (k : Int)) := by omega
            have ho7 := HO.out
            have hz7 := HZ.out
            have hsz : w.heap.size + 2 ≤ w7.heap.size := by have := hz7.lt; omega
            have hmk7 := hmk w7
            have ha8 := (Below.refl w7.heap.size w7).alloc (Nat.le_refl _) (.cells (madeCells (Value.cells (.int .i64 0)) (k * 1)) 3)
            have hzr := own_zeros w7 (w.heap.size + 2) k hsz (by omega)
            obtain ⟨w8, hw8⟩ : ∃ w8, w8 = w7.alloc (.cells (madeCells (Value.cells (.int .i64 0)) (k * 1)) 3) := ⟨_, rfl⟩
            have hs8 : w8.heap.size = w7.heap.size + 1 := by rw [hw8, World.size_alloc]
            rw [← hw8] at ha8 hzr hmk7
            have ho8 : OwnI w8 (w.heap.size + 2) (.slice ar k cr) q := ho7.kept ha8 (fun k hk => (ho7.lt k hk).2)
            have hz8 := hz7.keep ha8
            have hb8 := HB.out.trans (ha8.mono HB.out.size)
            have hne : ∀ g, (Value.slice (some ⟨w7.heap.size, 0, none⟩) k k).ownBlock = some g → (Value.slice ar k cr).ownBlock ≠ some g := fun g h1 h2 => by
              simp [Value.ownBlock] at h1
              have := (ho7.lt g h2).2
              omega
            have h2 := own_two hzr ho8 hne (by omega) rfl (Eq.refl w8.heap.size)
            have ha9 := (Below.refl w8.heap.size w8).alloc (Nat.le_refl _) (.cells #[.slice (some ⟨w7.heap.size, 0, none⟩) k k, .slice ar k cr] 47)
            have hz9 := hz8.keep ha9
            have hb9 := hb8.trans (ha9.mono hb8.size)
            have h3 := h2.same ((Same.refl (w.heap.size + 2) (w8.alloc (.cells #[.slice (some ⟨w7.heap.size, 0, none⟩) k k, .slice ar k cr] 47)).heap.size (w8.alloc (.cells #[.slice (some ⟨w7.heap.size, 0, none⟩) k k, .slice ar k cr] 47))).setCell (p := ⟨w.heap.size + 1, 0, none⟩) (.inl (by show w.heap.size + 1 < _; omega)) (.int .i64 (k : Int)))
            have h4 := h3.same ((Same.refl (w.heap.size + 2) (w8.alloc (.cells #[.slice (some ⟨w7.heap.size, 0, none⟩) k k, .slice ar k cr] 47)).heap.size _).setCell (p := ⟨w.heap.size + 1, 1, none⟩) (.inl (by show w.heap.size + 1 < _; omega)) (.slice (some ⟨w8.heap.size, 0, none⟩) 2 2))
            have HO9 := Lib.hid (h4.base (B' := w.heap.size) (C' := (((w8.alloc (.cells #[.slice (some ⟨w7.heap.size, 0, none⟩) k k, .slice ar k cr] 47)).setCell ⟨w.heap.size + 1, 0, none⟩ (.int .i64 (k : Int))).setCell ⟨w.heap.size + 1, 1, none⟩ (.slice (some ⟨w8.heap.size, 0, none⟩) 2 2)).heap.size) (by omega) (by simp))
            have HBE := Lib.hid ((hb9.setCell (p := ⟨w.heap.size + 1, 0, none⟩) (by simp) (.int .i64 (k : Int))).setCell (p := ⟨w.heap.size + 1, 1, none⟩) (by simp) (.slice (some ⟨w8.heap.size, 0, none⟩) 2 2))
            have hf := hz9.put (c' := (k : Int)) (v := .slice (some ⟨w8.heap.size, 0, none⟩) 2 2)
            have HR := Lib.hid (And.intro hf.c0 hf.c1)
            have d0 := hz9.c0
            have d1 := hz9.c1
            have e0 := hz9.f0
            have e1 := hz9.f1
            have HQE : Hid ([rowA (2 ^ k - 1) 0 k, rowA X 1 k] = [List.replicate k 0, q]) := Lib.hid (by rw [rowA_zero, HQ.out.1])
            have HS8 := Lib.hid hs8
            clear hmk
            clear h2 h3 h4 hf hz9 hz8 hb8 hb9 ho8 hzr hne ho7 hz7 ha8 ha9 hw8 hs8
            go_wp2_with fail
            exact bodyPost_ret (v := .tuple #[.agg #[.int .i64 (k : Int), .slice (some ⟨w8.heap.size, 0, none⟩) 2 2], .bool true]) (by simp [results, Try.results16, go_sem, HR.out.1, HR.out.2]) rfl ⟨_, by rw [HE.out.1, HE.out.2.2], by rw [HE.out.2.1, HQE.out]; exact HO9.out, HBE.out⟩
end
end Go.Proofs.Ytpnapdhcdhcacaa
