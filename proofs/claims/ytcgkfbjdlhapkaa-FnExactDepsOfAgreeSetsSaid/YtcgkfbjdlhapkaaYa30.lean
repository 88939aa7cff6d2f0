/- Texts of this claim, merged: FltI, FltD, CvA, CvB. Conditions: as stated. -/
import Derived.Test.YtcgkfbjdlhapkaaYa12
import Derived.Maps.AppendAt
import Derived.Test.YtcgkfbjdlhapkaaYa15
import Derived.Test.YtcgkfbjdlhapkaaYa17
import Derived.Test.YtcgkfbjdlhapkaaYa26
import Derived.Deep.Quiet
import Derived.Deep.RegionLaw
import Derived.Test.YtcgkfbjdlhapkaaYa7
namespace Go.Proofs.Ytcgkfbjdlhapkaa
open Go.RowKit

set_option maxHeartbeats 1600000 in
theorem filtPW_any (c1 : Value) (p : Int → Bool) (v : Value) (l : List Int) (w : World) (hr : ReadI w v l) (hl : l.length ≤ 1048576)
    (HP : ∀ x, x ∈ l → ∀ w', Below w.heap.size w w' → Calls Try.prog 135 #[.int .i64 x, c1] w' fun e w'' => e = .returned (.bool (p x)) ∧ Below w'.heap.size w' w'') :
    Calls Try.prog 85 #[v, .func (.func 135) #[] #[c1]] w (RetI (l.filter p) w) := by
  obtain ⟨i0, hi, hz0, hz1, hz2⟩ := info_parts info3i
  have HI : Hid (_ ∧ _ ∧ _ ∧ _) := Lib.hid ⟨hi, hz0, hz1, hz2⟩
  clear hi hz0 hz1 hz2
  have HQ := Lib.hid HP
  have HN := Lib.hid (fun k hk => filter_next p l 0 k hk)
  have HL := Lib.hid (fun k => List.length_filter_le p (l.take k))
  obtain ⟨a, cap, rfl, ha⟩ := hr
  have HA := Lib.hid ha
  clear ha HP
  go_enter Try.func85, Try.ntmps85
  go_wp2_with (at_make; refine wpList_make_own _ rfl _ _ 24 rfl w.heap.size 3 i0 (.int .i64 0) 1 Try.underlying24 HI.out.1 HI.out.2.1 HI.out.2.2.1 .i64 .i64 _ l.length rfl rfl rfl (by rw [HI.out.2.2.2]; omega) (by unfold maxLen; omega) (Nat.le_refl _) ?_; intro w0 hown0 hgrow0)
  have hb0 := (Below.refl w.heap.size w).grown hgrow0 (Nat.le_refl _) (by simp)
  have hown := OwnI.made hown0
  clear hown0 hgrow0
  go_loopw [5, 13] (fun ov iv wr => ∃ (k : Nat) (q : List Int), k ≤ l.length ∧ iv = .int .i64 (k : Int) ∧ Hid (q = (l.take k).filter p) ∧ OwnI wr w.heap.size ov q ∧ Below w.heap.size w wr) (fun _ iv _ => l.length - (intOf iv).toNat)
  case atStart => exact ⟨0, [], by omega, rfl, Lib.hid rfl, hown, hb0⟩
  case round =>
    clear hown hb0
    obtain ⟨k, q, hk, rfl, hq, ho, hb⟩ := hrel
    by_cases hlt : k < l.length
    · obtain ⟨x, rfl, hx⟩ := HA.out k hlt
      replace hx := (hb.cell (World.block_lt_of_cell? w _ hx)).trans hx
      rw [get_getD l k hlt] at hx
      have hm : l.getD k 0 ∈ l := by rw [← get_getD l k hlt]; exact List.getElem_mem hlt
      have hll : q.length ≤ 1048576 := by rw [hq.out]; have := HL.out k; rw [List.length_take] at this; omega
      have HS := Lib.hid (HN.out k hlt)
      obtain ⟨y, hy⟩ : ∃ y, y = l.getD k 0 := ⟨_, rfl⟩
      rw [← hy] at hx HS hm
      have HC := Lib.hid (HQ.out y hm)
      have HB := Lib.hid hb
      have HO := Lib.hid ho
      clear hy hm ho
      have z0 : (0 : Int) ≤ (k : Int) := by omega
      have z1 : (k : Int) < (l.length : Int) := by omega
      cases hp : p y with
      | true =>
        rw [hp] at HC HS
        rw [if_pos rfl] at HS
        clear hp
        go_wp2_with fail
        refine (HC.out _ HB.out).mono ?_
        rintro e w1 ⟨rfl, b1⟩
        have ho1 := HO.out.kept b1 (fun k hk => (HO.out.lt k hk).2)
        have hb1 := HB.out.trans (b1.mono HB.out.size)
        clear b1
        go_wp2_with (at_builtin; refine wpList_append_own _ rfl _ _ 24 rfl w.heap.size 3 i0 (.int .i64 0) 1 8 Try.underlying24 HI.out.1 HI.out.2.1 HI.out.2.2.1 HI.out.2.2.2 rfl (by decide) _ _ _ rfl (World.ownsRow.alloc ho1 _) ⟨w1.heap.size, 0, none⟩ 1 1 [.int .i64 y] rfl rfl (cell_one_new _ _ _) (one_i64 _) (by unfold maxLen; omega) (by omega) (le_alloc hb1 (Nat.le_refl _) _) ?_; intro v1 w2 hown1 hgrow1 _)
        have ho2 := OwnI.snoc hown1
        have hb2 := (hb1.alloc hb1.size (.cells #[.int .i64 y] 3)).grown hgrow1 (by simp; have := hb1.size; omega) (fun k hk => (OwnI.lt ho1 k hk).1)
        clear hown1 hgrow1
        go_wp2_with fail
        go_roundw
        case rel => exact ⟨k + 1, _, by omega, by go_num, Lib.hid (by rw [HS.out, ← hq.out]), ho2, hb2⟩
        case measure => simp [intOf]; omega
      | false =>
        rw [hp] at HC HS
        rw [if_neg (by decide)] at HS
        clear hp
        go_wp2_with fail
        refine (HC.out _ HB.out).mono ?_
        rintro e w1 ⟨rfl, b1⟩
        have ho1 := HO.out.kept b1 (fun k hk => (HO.out.lt k hk).2)
        have hb1 := HB.out.trans (b1.mono HB.out.size)
        clear b1
        go_wp2_with fail
        go_roundw
        case rel => exact ⟨k + 1, _, by omega, by go_num, Lib.hid (by rw [HS.out, ← hq.out]), ho1, hb1⟩
        case measure => simp [intOf]; omega
    · obtain rfl : k = l.length := by omega
      go_wp2_with fail
      go_ret
      exact ⟨_, rfl, by have := hq.out; rw [List.take_length] at this; rw [← this]; exact ho, hb⟩
end Go.Proofs.Ytcgkfbjdlhapkaa
namespace Go.Proofs.Ytcgkfbjdlhapkaa
open Go.RowKit

set_option maxHeartbeats 1600000 in
theorem filtUC_any (c1 : Value) (p : Int × Int → Bool) (v : Value) (l : List (Int × Int)) (w : World) (hr : ReadD w v l) (hl : l.length ≤ 1048576)
    (HP : ∀ x, x ∈ l → ∀ w', Below w.heap.size w w' → Calls Try.prog 122 #[.agg #[.int .i64 x.1, .int .i64 x.2], c1] w' fun e w'' => e = .returned (.bool (p x)) ∧ Below w'.heap.size w' w'') :
    Calls Try.prog 94 #[v, .func (.func 122) #[] #[c1]] w (RetD (l.filter p) w) := by
  obtain ⟨i0, hi, hz0, hz1, hz2⟩ := info_parts infoDp
  have HI : Hid (_ ∧ _ ∧ _ ∧ _) := Lib.hid ⟨hi, hz0, hz1, hz2⟩
  clear hi hz0 hz1 hz2
  have HQ := Lib.hid HP
  have HN := Lib.hid (fun k hk => filter_next p l (0, 0) k hk)
  have HL := Lib.hid (fun k => List.length_filter_le p (l.take k))
  obtain ⟨a, cap, rfl, ha⟩ := hr
  have HA := Lib.hid ha
  clear ha HP
  go_enter Try.func94, Try.ntmps94
  go_wp2_with (at_make; refine wpList_make_own _ rfl _ _ 26 rfl w.heap.size 44 i0 (.agg #[.int .i64 0, .int .i64 0]) 2 Try.underlying26 HI.out.1 HI.out.2.1 HI.out.2.2.1 .i64 .i64 _ l.length rfl rfl rfl (by rw [HI.out.2.2.2]; omega) (by unfold maxLen; omega) (Nat.le_refl _) ?_; intro w0 hown0 hgrow0)
  have hb0 := (Below.refl w.heap.size w).grown hgrow0 (Nat.le_refl _) (by simp)
  have hown : OwnD w0 w.heap.size _ [] := hown0
  clear hown0 hgrow0
  go_loopw [5, 13] (fun ov iv wr => ∃ (k : Nat) (q : List (Int × Int)), k ≤ l.length ∧ iv = .int .i64 (k : Int) ∧ Hid (q = (l.take k).filter p) ∧ OwnD wr w.heap.size ov q ∧ Below w.heap.size w wr) (fun _ iv _ => l.length - (intOf iv).toNat)
  case atStart => exact ⟨0, [], by omega, rfl, Lib.hid rfl, hown, hb0⟩
  case round =>
    clear hown hb0
    obtain ⟨k, q, hk, rfl, hq, ho, hb⟩ := hrel
    by_cases hlt : k < l.length
    · obtain ⟨b, o, rfl, h0, h1⟩ := HA.out k hlt
      replace h0 := (hb.cell (World.block_lt_of_cell? w _ h0)).trans h0
      replace h1 := (hb.cell (World.block_lt_of_cell? w _ h1)).trans h1
      have hm : l.getD k (0, 0) ∈ l := by rw [List.getD_eq_getElem?_getD, List.getElem?_eq_getElem hlt]; exact List.getElem_mem hlt
      have hll : q.length ≤ 1048576 := by rw [hq.out]; have := HL.out k; rw [List.length_take] at this; omega
      have HS := Lib.hid (HN.out k hlt)
      obtain ⟨⟨y0, y1⟩, hy⟩ : ∃ y, y = l.getD k (0, 0) := ⟨_, rfl⟩
      rw [← hy] at h0 h1 HS hm
      simp only at h0 h1
      have HC := Lib.hid (HQ.out (y0, y1) hm)
      have hwb := (Below.refl wr.heap.size wr).alloc (Nat.le_refl _) (.cells #[.int .i64 y0, .int .i64 y1] 44)
      have HB := Lib.hid (hb.trans (hwb.mono hb.size))
      have HO := Lib.hid (ho.below hwb (fun k hk => (ho.lt k hk).2))
      obtain ⟨e0, e1⟩ := zero2 wr 44 (.int .i64 y0) (.int .i64 y1)
      clear hy hm ho hwb
      have z0 : (0 : Int) ≤ (k : Int) := by omega
      have z1 : (k : Int) < (l.length : Int) := by omega
      cases hp : p (y0, y1) with
      | true =>
        rw [hp] at HC HS
        rw [if_pos rfl] at HS
        clear hp
        go_wp2_with fail
        refine (HC.out _ HB.out).mono ?_
        rintro e w1 ⟨rfl, b1⟩
        replace e0 := (b1.cell (World.block_lt_of_cell? _ _ e0)).trans e0
        replace e1 := (b1.cell (World.block_lt_of_cell? _ _ e1)).trans e1
        have ho1 := HO.out.below b1 (fun k hk => (HO.out.lt k hk).2)
        have hb1 := HB.out.trans (b1.mono HB.out.size)
        clear b1
        go_wp2_with (at_builtin; refine wpList_append_own _ rfl _ _ 26 rfl w.heap.size 44 i0 (.agg #[.int .i64 0, .int .i64 0]) 2 16 Try.underlying26 HI.out.1 HI.out.2.1 HI.out.2.2.1 HI.out.2.2.2 rfl (by decide) _ _ _ rfl (World.ownsRow.alloc ho1 _) ⟨w1.heap.size, 0, none⟩ 1 1 [.int .i64 y0, .int .i64 y1] rfl rfl (cell_two_new _ _ _ _) (two_i64 _ _) (by unfold maxLen; omega) (by omega) (le_alloc hb1 (Nat.le_refl _) _) ?_; intro v1 w2 hown1 hgrow1 _)
        have ho2 := OwnD.snoc hown1
        have hb2 := (hb1.alloc hb1.size (.cells #[.int .i64 y0, .int .i64 y1] 44)).grown hgrow1 (by simp; have := hb1.size; omega) (fun k hk => (OwnD.lt ho1 k hk).1)
        clear hown1 hgrow1
        go_wp2_with fail
        go_roundw
        case rel => exact ⟨k + 1, _, by omega, by go_num, Lib.hid (by rw [HS.out, ← hq.out]), ho2, hb2⟩
        case measure => simp [intOf]; omega
      | false =>
        rw [hp] at HC HS
        rw [if_neg (by decide)] at HS
        clear hp
        go_wp2_with fail
        refine (HC.out _ HB.out).mono ?_
        rintro e w1 ⟨rfl, b1⟩
        replace e0 := (b1.cell (World.block_lt_of_cell? _ _ e0)).trans e0
        replace e1 := (b1.cell (World.block_lt_of_cell? _ _ e1)).trans e1
        have ho1 := HO.out.below b1 (fun k hk => (HO.out.lt k hk).2)
        have hb1 := HB.out.trans (b1.mono HB.out.size)
        clear b1
        go_wp2_with fail
        go_roundw
        case rel => exact ⟨k + 1, _, by omega, by go_num, Lib.hid (by rw [HS.out, ← hq.out]), ho1, hb1⟩
        case measure => simp [intOf]; omega
    · obtain rfl : k = l.length := by omega
      go_wp2_with fail
      go_ret
      exact ⟨_, rfl, by have := hq.out; rw [List.take_length] at this; rw [← this]; exact ho, hb⟩
end Go.Proofs.Ytcgkfbjdlhapkaa
namespace Go.Proofs.Ytcgkfbjdlhapkaa
open Go.RowKit

theorem withoutFun_any (X R b : Nat) (hR : R ≤ 62) (w : World) (hc : w.cell? ⟨b, 0, none⟩ = some (.int .i64 (R : Int))) :
    Calls Try.prog 135 #[.int .i64 (X : Int), .pointer (some ⟨b, 0, none⟩)] w fun e w' => e = .returned (.bool (!bitB X R)) ∧ Below w.heap.size w w' := by
  have HH := Lib.hid (fun w' => has_any X R hR w')
  cases hB : bitB X R with
  | true =>
    rw [hB] at HH
    clear hB
    go_enter Try.func135, Try.ntmps135
    go_wp2_with fail
    refine (HH.out _).mono ?_
    rintro e w' ⟨rfl, rfl⟩
    go_wp2_with fail
    go_ret
    exact ⟨rfl, Below.refl _ _⟩
  | false =>
    rw [hB] at HH
    clear hB
    go_enter Try.func135, Try.ntmps135
    go_wp2_with fail
    refine (HH.out _).mono ?_
    rintro e w' ⟨rfl, rfl⟩
    go_wp2_with fail
    go_ret
    exact ⟨rfl, Below.refl _ _⟩
set_option maxHeartbeats 1600000 in
theorem partsW_any (n : Int) (R : Nat) (hR : R ≤ 62) (w : World) :
    Calls Try.prog 125 #[.int .i64 n, .int .i64 (R : Int)] w (RetI ((parts n).filter (fun S => !bitB S.toNat R)) w) := by
  have hb1 := (Below.refl w.heap.size w).alloc (Nat.le_refl _) (.cells #[.int .i64 (R : Int)] 3)
  have HP := Lib.hid (implParts_any n (w.alloc (.cells #[.int .i64 (R : Int)] 3)))
  have HC := Lib.hid (one_at w 3 (.int .i64 (R : Int)))
  have HF := Lib.hid (fun v w' (hr : ReadI w' v (parts n)) (hc : w'.cell? ⟨w.heap.size, 0, none⟩ = some (.int .i64 (R : Int))) (hl : (parts n).length ≤ 1048576) =>
    filtPW_any (.pointer (some ⟨w.heap.size, 0, none⟩)) (fun S => !bitB S.toNat R) v (parts n) w' hr hl (fun x hx w'' hb => by
      obtain ⟨X, rfl, -⟩ := parts_small n x hx
      exact withoutFun_any X R w.heap.size hR w'' ((hb.cell (World.block_lt_of_cell? _ _ hc)).trans hc)))
  have hlen : (parts n).length ≤ 1048576 := by
    by_cases hn : 0 ≤ n ∧ n ≤ 5
    · obtain ⟨C, rfl⟩ : ∃ C : Nat, n = (C : Int) := ⟨n.toNat, by omega⟩
      have := parts_len32 (C := C) (by omega)
      omega
    · unfold parts; rw [if_neg hn]; simp
  go_enter Try.func125, Try.ntmps125
  go_wp2_with fail
  refine HP.out.mono ?_
  rintro e w1 ⟨v1, rfl, ho1, b1⟩
  have hb2 := hb1.trans (b1.mono hb1.size)
  have hc1 := (b1.cell (World.block_lt_of_cell? _ _ HC.out)).trans HC.out
  have HG := Lib.hid (HF.out v1 w1 ho1.read hc1 hlen)
  clear ho1 b1
  go_wp2_with fail
  refine HG.out.mono ?_
  rintro e w2 ⟨v2, rfl, ho2, b2⟩
  have hb3 := hb2.trans (b2.mono hb2.size)
  have ho3 := ho2.base hb2.size
  clear b2 ho2
  go_wp2_with fail
  go_ret
  exact ⟨_, rfl, ho3, hb3⟩
theorem pw_next (ps : List Int) (r k : Nat) (h : k < ps.length) : (ps.take (k + 1)).map (fun S => (S, (r : Int))) = (ps.take k).map (fun S => (S, (r : Int))) ++ [(ps.getD k 0, (r : Int))] := by
  rw [take_succ_getD ps 0 k h, List.map_append]; rfl
theorem cand_len (C r : Nat) (hC : C ≤ 5) (hr : r ≤ C) : (mdOut (fun S r => !bitB S.toNat r) (parts (C : Int)) r).length ≤ 160 := by
  have h1 := mdOut_len (fun S r => !bitB S.toNat r) (parts (C : Int)) r
  have h2 := parts_len32 hC
  have h3 : r * (parts (C : Int)).length ≤ 5 * 32 := Nat.mul_le_mul (by omega) h2
  omega
set_option maxHeartbeats 3200000 in
theorem candOf_any (C : Nat) (hC : C ≤ 5) (w : World) :
    Calls Try.prog 95 #[.int .i64 (C : Int)] w (RetD (candL C) w) := by
  obtain ⟨i0, hi, hz0, hz1, hz2⟩ := info_parts infoDp
  have HI : Hid (_ ∧ _ ∧ _ ∧ _) := Lib.hid ⟨hi, hz0, hz1, hz2⟩
  clear hi hz0 hz1 hz2
  have HP := Lib.hid (fun (R : Nat) (hR : R ≤ 62) w' => partsW_any (C : Int) R hR w')
  have HN := Lib.hid (fun r => mdOut_succ (fun S r => !bitB S.toNat r) (parts (C : Int)) r)
  have HL := Lib.hid (fun r hr => cand_len C r hC hr)
  have HPL := Lib.hid (fun (r : Nat) => Nat.le_trans (List.length_filter_le (fun S => !bitB S.toNat r) (parts (C : Int))) (parts_len32 hC))
  go_enter Try.func95, Try.ntmps95
  go_wp2_with fail
  go_loopw [3, 4] (fun ov iv wr => ∃ (r : Nat) (q : List (Int × Int)), r ≤ C ∧ iv = .int .i64 (r : Int) ∧ Hid (q = mdOut (fun S r => !bitB S.toNat r) (parts (C : Int)) r) ∧ OwnD wr w.heap.size ov q ∧ Below w.heap.size w wr) (fun _ iv _ => C - (intOf iv).toNat)
  case atStart => exact ⟨0, [], by omega, rfl, Lib.hid rfl, OwnD.nil _ _, Below.refl _ _⟩
  case round =>
    obtain ⟨r, q, hr, rfl, hq, ho, hb⟩ := hrel
    by_cases hlt : r < C
    · have HPR := Lib.hid (HP.out r (by omega))
      have HNR := Lib.hid (HN.out r)
      have hll := HL.out r (by omega)
      rw [← hq.out] at hll
      have hpl := HPL.out r
      obtain ⟨ps, hps⟩ : ∃ ps, ps = (parts (C : Int)).filter (fun S => !bitB S.toNat r) := ⟨_, rfl⟩
      rw [← hps] at HPR HNR hpl
      rw [← hq.out] at HNR
      have HO := Lib.hid ho
      have HB := Lib.hid hb
      clear hps ho hb
      have z0 : (0 : Int) ≤ (r : Int) := by omega
      have z1 : (r : Int) < (C : Int) := by omega
      go_wp2_with fail
      refine (HPR.out _).mono ?_
      rintro e w1 ⟨v1, rfl, o1, b1⟩
      have ho1 := HO.out.below b1 (fun k hk => (HO.out.lt k hk).2)
      have hb1 := HB.out.trans (b1.mono HB.out.size)
      have o1' := o1.base (B' := w.heap.size) HB.out.size
      obtain ⟨a1, cap1, hv1, -⟩ := o1.read
      subst hv1
      have HO1 := Lib.hid ho1
      have HB1 := Lib.hid hb1
      have HI1 := Lib.hid o1'
      clear b1 o1 ho1 hb1 o1'
      go_wp2_with fail
      go_loopw [3, 16] (fun ov jv wr => ∃ (k : Nat) (q2 : List (Int × Int)), k ≤ ps.length ∧ jv = .int .i64 (k : Int) ∧ Hid (q2 = q ++ (ps.take k).map (fun S => (S, (r : Int)))) ∧ OwnD wr w.heap.size ov q2 ∧ OwnI wr w.heap.size (.slice a1 ps.length cap1) ps ∧ Below w.heap.size w wr) (fun _ jv _ => ps.length - (intOf jv).toNat)
      case atStart => exact ⟨0, q, by omega, rfl, Lib.hid (by simp), HO1.out, HI1.out, HB1.out⟩
      case round =>
        obtain ⟨k, q2, hk, rfl, hq2, ho, hio, hbw⟩ := hrel
        obtain ⟨w2, hw2⟩ : ∃ w', w' = wr := ⟨_, rfl⟩
        rw [← hw2] at ho hio hbw ⊢
        clear hw2
        by_cases hlt2 : k < ps.length
        · obtain ⟨x, hx⟩ : ∃ x, a1 = some x ∧ w2.cell? (x.add k) = some (.int .i64 (ps.getD k 0)) := by
            obtain ⟨a', cap', hv, hc⟩ := hio.read
            cases hv
            obtain ⟨x, e1, e2⟩ := hc k hlt2
            rw [get_getD ps k hlt2] at e2
            exact ⟨x, e1, e2⟩
          obtain ⟨rfl, hx⟩ := hx
          have hl2 : q2.length ≤ 1000 := by rw [hq2.out, List.length_append, List.length_map, List.length_take]; omega
          have HS := Lib.hid (pw_next ps r k hlt2)
          obtain ⟨y, hy⟩ : ∃ y, y = ps.getD k 0 := ⟨_, rfl⟩
          rw [← hy] at hx HS
          clear hy
          have HOD := Lib.hid ho
          have HIO := Lib.hid hio
          clear hio
          have z2 : (0 : Int) ≤ (k : Int) := by omega
          have z3 : (k : Int) < (ps.length : Int) := by omega
          go_wp2_with (at_builtin; refine wpList_append_own _ rfl _ _ 26 rfl w.heap.size 44 i0 (.agg #[.int .i64 0, .int .i64 0]) 2 16 Try.underlying26 HI.out.1 HI.out.2.1 HI.out.2.2.1 HI.out.2.2.2 rfl (by decide) _ _ _ rfl (World.ownsRow.alloc ho _) ⟨w2.heap.size, 0, none⟩ 1 1 [.int .i64 y, .int .i64 (r : Int)] rfl rfl (cell_two_new _ _ _ _) (two_i64 _ _) (by unfold maxLen; omega) (by omega) (le_alloc hbw (Nat.le_refl _) _) ?_; intro v3 w3 hown3 hgrow3 _)
          have ho3 := OwnD.snoc hown3
          have hb3 := (hbw.alloc hbw.size (.cells #[.int .i64 y, .int .i64 (r : Int)] 44)).grown hgrow3 (by simp; have := hbw.size; omega) (fun k hk => (HOD.out.lt k hk).1)
          have hi2 := HIO.out.kept ((Below.refl w2.heap.size w2).alloc (Nat.le_refl _) (.cells #[.int .i64 y, .int .i64 (r : Int)] 44)) (fun k hk => (HIO.out.lt k hk).2)
          have hi3 := hi2.keptBy hgrow3 (fun g hg => dep_apart (World.ownsRow.alloc HOD.out _) hi2 g hg)
          clear hown3 hgrow3 hi2
          go_wp2_with fail
          go_roundw
          case rel => exact ⟨k + 1, _, by omega, by go_num, Lib.hid (by rw [HS.out, hq2.out, List.append_assoc]), ho3, hi3, hb3⟩
          case measure => simp [intOf]; omega
        · obtain rfl : k = ps.length := by omega
          go_wp2_with fail
          go_roundw
          case rel => exact ⟨r + 1, _, by omega, by go_num, Lib.hid (by rw [HNR.out, hq2.out, List.take_length]), ho, hbw⟩
          case measure => simp [intOf]; omega
    · obtain rfl : r = C := by omega
      go_wp2_with fail
      go_ret
      exact ⟨_, rfl, by unfold candL; rw [← hq.out]; exact ho, hb⟩
end Go.Proofs.Ytcgkfbjdlhapkaa
namespace Go.Proofs.Ytcgkfbjdlhapkaa
open Go.RowKit

theorem box_two {w : World} {T T' : TypeId} {a b l r : Value} : (((w.alloc (.cells #[a, b] T)).alloc (.cells #[l, r] T')).cell? ⟨w.heap.size, 0, none⟩ = some a ∧ ((w.alloc (.cells #[a, b] T)).alloc (.cells #[l, r] T')).cell? ⟨w.heap.size, 1, none⟩ = some b) ∧ ((w.alloc (.cells #[a, b] T)).alloc (.cells #[l, r] T')).cell? ⟨w.heap.size + 1, 0, none⟩ = some l ∧ ((w.alloc (.cells #[a, b] T)).alloc (.cells #[l, r] T')).cell? ⟨w.heap.size + 1, 1, none⟩ = some r := boxTD (Below.refl _ _)
set_option maxHeartbeats 1600000 in
theorem covers_any (e0 e1 d0 d1 : Int) (w : World) :
    Calls Try.prog 124 #[.agg #[.int .i64 e0, .int .i64 e1], .agg #[.int .i64 d0, .int .i64 d1]] w fun e w' => e = .returned (.bool (covB (e0, e1) (d0, d1))) ∧ Below w.heap.size w w' := by
  have hb1 := (Below.refl w.heap.size w).alloc (Nat.le_refl _) (.cells #[.int .i64 e0, .int .i64 e1] 44)
  have hb2 := hb1.alloc hb1.size (.cells #[.int .i64 d0, .int .i64 d1] 44)
  have HB := Lib.hid hb2
  obtain ⟨⟨c0, c1⟩, c2, c3⟩ := box_two (w := w) (T := 44) (T' := 44) (a := .int .i64 e0) (b := .int .i64 e1) (l := .int .i64 d0) (r := .int .i64 d1)
  have HP := Lib.hid (fun w' => partOf_any e0 d0 w')
  clear hb1 hb2
  by_cases h : e1 = d1
  · subst h
    have HE : Hid (covB (e0, e1) (d0, e1) = partZ e0 d0) := Lib.hid (by unfold covB; simp)
    go_enter Try.func124, Try.ntmps124
    go_wp2_with fail
    refine (HP.out _).mono ?_
    rintro e w' ⟨rfl, rfl⟩
    go_wp2_with fail
    go_ret
    exact ⟨ret_b HE.out, HB.out⟩
  · have HE : Hid (covB (e0, e1) (d0, d1) = false) := Lib.hid (by unfold covB; rw [decide_eq_false h]; rfl)
    have hne : (e1 == d1) = false := by simpa using h
    clear h
    go_enter Try.func124, Try.ntmps124
    go_wp2_with fail
    go_ret
    exact ⟨ret_b HE.out, HB.out⟩
set_option maxHeartbeats 1600000 in
theorem otherFun_any (e0 e1 d0 d1 : Int) (b : Nat) (w : World) (h0 : w.cell? ⟨b, 0, none⟩ = some (.int .i64 d0)) (h1 : w.cell? ⟨b, 1, none⟩ = some (.int .i64 d1)) :
    Calls Try.prog 123 #[.agg #[.int .i64 e0, .int .i64 e1], .pointer (some ⟨b, 0, none⟩)] w fun e w' => e = .returned (.bool (!decide ((e0, e1) = (d0, d1)) && covB (e0, e1) (d0, d1))) ∧ Below w.heap.size w w' := by
  have hb1 := (Below.refl w.heap.size w).alloc (Nat.le_refl _) (.cells #[.int .i64 e0, .int .i64 e1] 44)
  have HB := Lib.hid hb1
  have HC := Lib.hid (fun w' => covers_any e0 e1 d0 d1 w')
  obtain ⟨c0, c1⟩ := zero2 w 44 (.int .i64 e0) (.int .i64 e1)
  replace h0 := (hb1.cell (World.block_lt_of_cell? _ _ h0)).trans h0
  replace h1 := (hb1.cell (World.block_lt_of_cell? _ _ h1)).trans h1
  clear hb1
  by_cases h : e0 = d0 ∧ e1 = d1
  · obtain ⟨rfl, rfl⟩ := h
    have HE : Hid ((!decide ((e0, e1) = (e0, e1)) && covB (e0, e1) (e0, e1)) = false) := Lib.hid (by simp)
    go_enter Try.func123, Try.ntmps123
    go_wp2_with fail
    go_ret
    exact ⟨ret_b HE.out, HB.out⟩
  · have HE : Hid ((!decide ((e0, e1) = (d0, d1)) && covB (e0, e1) (d0, d1)) = covB (e0, e1) (d0, d1)) := Lib.hid (by
      rw [decide_eq_false (fun hh => h (Prod.mk.inj hh))]; rfl)
    by_cases hx : e0 = d0
    · have hy : ¬ e1 = d1 := fun hh => h ⟨hx, hh⟩
      clear h
      subst hx
      go_enter Try.func123, Try.ntmps123
      go_wp2_with fail
      refine (HC.out _).mono ?_
      rintro e w2 ⟨rfl, b2⟩
      have hb2 := HB.out.trans (b2.mono HB.out.size)
      go_wp2_with fail
      go_ret
      exact ⟨ret_b HE.out, hb2⟩
    · clear h
      go_enter Try.func123, Try.ntmps123
      go_wp2_with fail
      refine (HC.out _).mono ?_
      rintro e w2 ⟨rfl, b2⟩
      have hb2 := HB.out.trans (b2.mono HB.out.size)
      go_wp2_with fail
      go_ret
      exact ⟨ret_b HE.out, hb2⟩
theorem any_no {α : Type} (p : α → Bool) (l : List α) (d : α) (k : Nat) (h : k < l.length) (h0 : (l.take k).any p = false) (h1 : p (l.getD k d) = false) : (l.take (k + 1)).any p = false := by
  rw [take_succ_getD l d k h, List.any_append, h0, Bool.false_or]
  show (p (l.getD k d) || false) = false
  rw [h1]; rfl
theorem any_yes {α : Type} (p : α → Bool) (l : List α) (d : α) (k : Nat) (h : k < l.length) (h1 : p (l.getD k d) = true) : l.any p = true := by
  rw [List.any_eq_true]
  exact ⟨l.getD k d, by rw [List.getD_eq_getElem?_getD, List.getElem?_eq_getElem h]; exact List.getElem_mem h, h1⟩
/-- An index that is not negative just if one is so. -/
def IxOk (b : Bool) (i : Int) : Prop := (b = true → 0 ≤ i) ∧ (b = false → i = -1)
set_option maxHeartbeats 1600000 in
theorem indexOther_any (v c1 : Value) (p : Int × Int → Bool) (l : List (Int × Int)) (w : World) (hr : ReadD w v l) (hl : l.length ≤ 1048576)
    (HP : ∀ x, x ∈ l → ∀ w', Below w.heap.size w w' → Calls Try.prog 123 #[.agg #[.int .i64 x.1, .int .i64 x.2], c1] w' fun e w'' => e = .returned (.bool (p x)) ∧ Below w'.heap.size w' w'') :
    Calls Try.prog 115 #[v, .func (.func 123) #[] #[c1]] w fun e w' => ∃ i, e = .returned (.int .i64 i) ∧ IxOk (l.any p) i ∧ Below w.heap.size w w' := by
  have HQ := Lib.hid HP
  obtain ⟨a, cap, rfl, ha⟩ := hr
  have HA := Lib.hid ha
  clear ha HP
  go_enter Try.func115, Try.ntmps115
  go_wp2_with fail
  go_loopw [8] (fun iv wr => ∃ (k : Nat), k ≤ l.length ∧ iv = .int .i64 (k : Int) ∧ Hid ((l.take k).any p = false) ∧ Below w.heap.size w wr) (fun iv _ => l.length - (intOf iv).toNat)
  case atStart => exact ⟨0, by omega, rfl, Lib.hid rfl, Below.refl _ _⟩
  case round =>
    obtain ⟨k, hk, rfl, hno, hb⟩ := hrel
    by_cases hlt : k < l.length
    · obtain ⟨b, o, rfl, h0, h1⟩ := HA.out k hlt
      replace h0 := (hb.cell (World.block_lt_of_cell? w _ h0)).trans h0
      replace h1 := (hb.cell (World.block_lt_of_cell? w _ h1)).trans h1
      have hm : l.getD k (0, 0) ∈ l := by rw [List.getD_eq_getElem?_getD, List.getElem?_eq_getElem hlt]; exact List.getElem_mem hlt
      have HNO := Lib.hid (any_no p l (0, 0) k hlt hno.out)
      have HYE := Lib.hid (any_yes p l (0, 0) k hlt)
      obtain ⟨⟨y0, y1⟩, hy⟩ : ∃ y, y = l.getD k (0, 0) := ⟨_, rfl⟩
      rw [← hy] at h0 h1 hm HNO HYE
      simp only at h0 h1
      have HC := Lib.hid (HQ.out (y0, y1) hm)
      have HB := Lib.hid hb
      clear hy hm hb
      have z0 : (0 : Int) ≤ (k : Int) := by omega
      have z1 : (k : Int) < (l.length : Int) := by omega
      cases hp : p (y0, y1) with
      | true =>
        have HE := Lib.hid (HYE.out hp)
        rw [hp] at HC
        clear hp
        go_wp2_with fail
        refine (HC.out _ HB.out).mono ?_
        rintro e w1 ⟨rfl, b1⟩
        have hb1 := HB.out.trans (b1.mono HB.out.size)
        clear b1 h0 h1
        go_wp2_with fail
        go_ret
        exact ⟨_, rfl, ⟨fun _ => (by omega), fun h => absurd h (by rw [HE.out]; decide)⟩, hb1⟩
      | false =>
        have HE := Lib.hid (HNO.out hp)
        rw [hp] at HC
        clear hp
        go_wp2_with fail
        refine (HC.out _ HB.out).mono ?_
        rintro e w1 ⟨rfl, b1⟩
        have hb1 := HB.out.trans (b1.mono HB.out.size)
        clear b1 h0 h1
        go_wp2_with fail
        go_roundw
        case rel => exact ⟨k + 1, by omega, by go_num, HE, hb1⟩
        case measure => simp [intOf]; omega
    · obtain rfl : k = l.length := by omega
      go_wp2_with fail
      go_ret
      exact ⟨_, rfl, ⟨fun h => absurd h (by have := hno.out; rw [List.take_length] at this; rw [this]; decide), fun _ => rfl⟩, hb⟩
set_option maxHeartbeats 1600000 in
theorem containsOther_any (v c1 : Value) (p : Int × Int → Bool) (l : List (Int × Int)) (w : World) (hr : ReadD w v l) (hl : l.length ≤ 1048576)
    (HP : ∀ x, x ∈ l → ∀ w', Below w.heap.size w w' → Calls Try.prog 123 #[.agg #[.int .i64 x.1, .int .i64 x.2], c1] w' fun e w'' => e = .returned (.bool (p x)) ∧ Below w'.heap.size w' w'') :
    Calls Try.prog 74 #[v, .func (.func 123) #[] #[c1]] w fun e w' => e = .returned (.bool (l.any p)) ∧ Below w.heap.size w w' := by
  have HI := Lib.hid (indexOther_any v c1 p l w hr hl HP)
  clear hr HP
  go_enter Try.func74, Try.ntmps74
  go_wp2_with fail
  refine HI.out.mono ?_
  rintro e w' ⟨i, rfl, hi, hb⟩
  have HX : Hid (l.any p = decide (0 ≤ i)) := Lib.hid (by
    cases h : l.any p with
    | true => exact (decide_eq_true (hi.1 h)).symm
    | false => rw [hi.2 h]; rfl)
  clear hi
  go_wp2_with fail
  go_ret
  exact ⟨ret_b HX.out, hb⟩
set_option maxHeartbeats 1600000 in
theorem uncFun_any (d0 d1 : Int) (b : Nat) (v : Value) (l : List (Int × Int)) (w : World) (hr : ReadD w v l) (hl : l.length ≤ 1048576) (hc : w.cell? ⟨b, 0, none⟩ = some v) :
    Calls Try.prog 122 #[.agg #[.int .i64 d0, .int .i64 d1], .pointer (some ⟨b, 0, none⟩)] w fun e w' => e = .returned (.bool (!unB l (d0, d1))) ∧ Below w.heap.size w w' := by
  have hb1 := (Below.refl w.heap.size w).alloc (Nat.le_refl _) (.cells #[.int .i64 d0, .int .i64 d1] 44)
  have HB := Lib.hid hb1
  obtain ⟨c0, c1⟩ := zero2 w 44 (.int .i64 d0) (.int .i64 d1)
  have HC := Lib.hid (containsOther_any v (.pointer (some ⟨w.heap.size, 0, none⟩)) (fun e => !decide (e = (d0, d1)) && covB e (d0, d1)) l (w.alloc (.cells #[.int .i64 d0, .int .i64 d1] 44)) (hr.kept hb1) hl
    (fun x _ w' hb => otherFun_any x.1 x.2 d0 d1 w.heap.size w' ((hb.cell (World.block_lt_of_cell? _ _ c0)).trans c0) ((hb.cell (World.block_lt_of_cell? _ _ c1)).trans c1)))
  replace hc := (hb1.cell (World.block_lt_of_cell? _ _ hc)).trans hc
  have HE : Hid (unB l (d0, d1) = l.any (fun e => !decide (e = (d0, d1)) && covB e (d0, d1))) := Lib.hid rfl
  obtain ⟨q, hq⟩ : ∃ q, q = l.any (fun e => !decide (e = (d0, d1)) && covB e (d0, d1)) := ⟨_, rfl⟩
  rw [← hq] at HC HE
  obtain ⟨a, cap, rfl, -⟩ := hr
  clear hb1 c0 c1 hq
  cases q with
  | true =>
    go_enter Try.func122, Try.ntmps122
    go_wp2_with fail
    refine HC.out.mono ?_
    rintro e w2 ⟨rfl, b2⟩
    have hb2 := HB.out.trans (b2.mono HB.out.size)
    go_wp2_with fail
    go_ret
    exact ⟨by rw [HE.out]; rfl, hb2⟩
  | false =>
    go_enter Try.func122, Try.ntmps122
    go_wp2_with fail
    refine HC.out.mono ?_
    rintro e w2 ⟨rfl, b2⟩
    have hb2 := HB.out.trans (b2.mono HB.out.size)
    go_wp2_with fail
    go_ret
    exact ⟨by rw [HE.out]; rfl, hb2⟩
set_option maxHeartbeats 1600000 in
theorem uncovered_any (v : Value) (l : List (Int × Int)) (w : World) (hr : ReadD w v l) (hl : l.length ≤ 1048576) :
    Calls Try.prog 93 #[v] w (RetD (uncL l) w) := by
  have hb1 := (Below.refl w.heap.size w).alloc (Nat.le_refl _) (.cells #[v] 26)
  have HB := Lib.hid hb1
  have hc := one_at w 26 v
  have HF := Lib.hid (filtUC_any (.pointer (some ⟨w.heap.size, 0, none⟩)) (fun d => !unB l d) v l (w.alloc (.cells #[v] 26)) (hr.kept hb1) hl
    (fun x _ w' hb => uncFun_any x.1 x.2 w.heap.size v l w' ((hr.kept hb1).kept hb) hl ((hb.cell (World.block_lt_of_cell? _ _ hc)).trans hc)))
  obtain ⟨a, cap, rfl, -⟩ := hr
  clear hb1
  go_enter Try.func93, Try.ntmps93
  go_wp2_with fail
  refine HF.out.mono ?_
  rintro e w2 ⟨v2, rfl, ho2, b2⟩
  have hb2 := HB.out.trans (b2.mono HB.out.size)
  have ho3 := ho2.base HB.out.size
  clear ho2 b2
  go_wp2_with fail
  go_ret
  exact ⟨_, rfl, ho3, hb2⟩
end Go.Proofs.Ytcgkfbjdlhapkaa
