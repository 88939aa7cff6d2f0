/- Texts of this claim, merged: CvA, CvB, RecK, SidK, RowOrd. Conditions: as stated. -/
import Derived.Test.YtnbjcelfdppkcadGreatXz39
import Derived.Test.YtnbjcelfdppkcadGreatXz5
import Derived.Test.YtnbjcelfdppkcadGreatXz16
import Derived.Test.YtnbjcelfdppkcadGreatXz37
import Derived.Deep.Quiet
import Derived.Deep.RegionLaw
import Derived.Test.YtnbjcelfdppkcadGreatXz8
import Derived.Maps.RangeWalk
import Derived.Maps.AppendAt
import Derived.WideKeyEntry
import Derived.WideKeyPair
import Derived.Test.YtnbjcelfdppkcadGreatXz1
namespace Go.Proofs.YtnbjcelfdppkcadGreat
open Go.RowKit

set_option maxHeartbeats 1600000 in
theorem inMode_any (c m : Int) (v : Value) (ll : List (List Int)) (w : World) (hr : ReadSS w v ll) (hl : ll.length ≤ 1048576) (ht : ∀ i, i < ll.length → (ll.getD i []).length ≤ 1048576) :
    Calls Tryz.prog 44 #[.agg #[.int .i64 c, v], .int .i64 m] w fun e w' => e = .returned (.bool (fineT c ll m)) ∧ Below w.heap.size w w' := by
  have HO := Lib.hid (eqOf_any m)
  have hb1 := (Below.refl w.heap.size w).alloc (Nat.le_refl _) (.cells #[.int .i64 c, v] 29)
  have HV := Lib.hid (fun w' (hb : Below w.heap.size w w') => implIsTable_any c v ll w' (hr.kept hb) hl ht)
  have HB1 := Lib.hid hb1
  obtain ⟨c0, c1⟩ := zero2 w 29 (.int .i64 c) v
  obtain ⟨a, cap, rfl, -⟩ := hr
  obtain ⟨F, hF⟩ : ∃ F, eqFn m = F := ⟨_, rfl⟩
  rw [hF] at HO
  clear hb1 hF
  cases hm : modeOk m with
  | false =>
    have HE : Hid (fineT c ll m = false) := Lib.hid (by unfold fineT; rw [hm]; simp)
    rw [hm] at HO
    clear hm
    go_enter Tryz.func44, Tryz.ntmps44
    go_wp2_with fail
    refine (HO.out _).mono ?_
    rintro e w' ⟨rfl, rfl⟩
    go_wp2_with fail
    go_ret
    exact ⟨ret_b HE.out, HB1.out⟩
  | true =>
    have HE : Hid (fineT c ll m = isT c ll) := Lib.hid (by unfold fineT; rw [hm]; simp)
    rw [hm] at HO
    clear hm
    go_enter Tryz.func44, Tryz.ntmps44
    go_wp2_with fail
    refine (HO.out _).mono ?_
    rintro e w' ⟨rfl, rfl⟩
    go_wp2_with fail
    refine (HV.out _ HB1.out).mono ?_
    rintro e w2 ⟨rfl, b2⟩
    have hb2 := HB1.out.trans (b2.mono HB1.out.size)
    go_wp2_with fail
    go_ret
    exact ⟨ret_b HE.out, hb2⟩
theorem withoutFun_any (X R b : Nat) (hR : R ≤ 62) (w : World) (hc : w.cell? ⟨b, 0, none⟩ = some (.int .i64 (R : Int))) :
    Calls Tryz.prog 117 #[.int .i64 (X : Int), .pointer (some ⟨b, 0, none⟩)] w fun e w' => e = .returned (.bool (!bitB X R)) ∧ Below w.heap.size w w' := by
  have HH := Lib.hid (fun w' => has_any X R hR w')
  cases hB : bitB X R with
  | true =>
    rw [hB] at HH
    clear hB
    go_enter Tryz.func117, Tryz.ntmps117
    go_wp2_with fail
    refine (HH.out _).mono ?_
    rintro e w' ⟨rfl, rfl⟩
    go_wp2_with fail
    go_ret
    exact ⟨rfl, Below.refl _ _⟩
  | false =>
    rw [hB] at HH
    clear hB
    go_enter Tryz.func117, Tryz.ntmps117
    go_wp2_with fail
    refine (HH.out _).mono ?_
    rintro e w' ⟨rfl, rfl⟩
    go_wp2_with fail
    go_ret
    exact ⟨rfl, Below.refl _ _⟩
set_option maxHeartbeats 1600000 in
theorem partsW_any (n : Int) (R : Nat) (hR : R ≤ 62) (w : World) :
    Calls Tryz.prog 112 #[.int .i64 n, .int .i64 (R : Int)] w (RetI ((parts n).filter (fun S => !bitB S.toNat R)) w) := by
  have hb1 := (Below.refl w.heap.size w).alloc (Nat.le_refl _) (.cells #[.int .i64 (R : Int)] 3)
  have HP := Lib.hid (implParts_any n (w.alloc (.cells #[.int .i64 (R : Int)] 3)))
  have HC := Lib.hid (one_at w 3 (.int .i64 (R : Int)))
  have HF := Lib.hid (fun v w' (hr : ReadI w' v (parts n)) (hc : w'.cell? ⟨w.heap.size, 0, none⟩ = some (.int .i64 (R : Int))) (hl : (parts n).length ≤ 1048576) =>
    filtPW_any (.pointer (some ⟨w.heap.size, 0, none⟩)) (fun S => !bitB S.toNat R) v (parts n) w' hr hl (fun x hx w'' hb => by
      obtain ⟨X, rfl, -⟩ := parts_small n x hx
      exact withoutFun_any X R w.heap.size hR w'' ((hb.cell (World.block_lt_of_cell? _ _ hc)).trans hc)))
  have hlen : (parts n).length ≤ 1048576 := by
    by_cases hn : 0 ≤ n ∧ n ≤ 5
    · obtain ⟨C, rfl⟩ : ∃ C : Nat, n = (C : Int) := ⟨n.toNat, by omega⟩
      have := parts_len32 (C := C) (by omega)
      omega
    · unfold parts; rw [if_neg hn]; simp
  go_enter Tryz.func112, Tryz.ntmps112
  go_wp2_with fail
  refine HP.out.mono ?_
  rintro e w1 ⟨v1, rfl, ho1, b1⟩
  have hb2 := hb1.trans (b1.mono hb1.size)
  have hc1 := (b1.cell (World.block_lt_of_cell? _ _ HC.out)).trans HC.out
  have HG := Lib.hid (HF.out v1 w1 ho1.read hc1 hlen)
  clear ho1 b1
  go_wp2_with fail
  refine HG.out.mono ?_
  rintro e w2 ⟨v2, rfl, ho2, b2⟩
  have hb3 := hb2.trans (b2.mono hb2.size)
  have ho3 := ho2.base hb2.size
  clear b2 ho2
  go_wp2_with fail
  go_ret
  exact ⟨_, rfl, ho3, hb3⟩
theorem pw_next (ps : List Int) (r k : Nat) (h : k < ps.length) : (ps.take (k + 1)).map (fun S => (S, (r : Int))) = (ps.take k).map (fun S => (S, (r : Int))) ++ [(ps.getD k 0, (r : Int))] := by
  rw [take_succ_getD ps 0 k h, List.map_append]; rfl
theorem cand_len (C r : Nat) (hC : C ≤ 5) (hr : r ≤ C) : (mdOut (fun S r => !bitB S.toNat r) (parts (C : Int)) r).length ≤ 160 := by
  have h1 := mdOut_len (fun S r => !bitB S.toNat r) (parts (C : Int)) r
  have h2 := parts_len32 hC
  have h3 : r * (parts (C : Int)).length ≤ 5 * 32 := Nat.mul_le_mul (by omega) h2
  omega
set_option maxHeartbeats 3200000 in
theorem candOf_any (C : Nat) (hC : C ≤ 5) (w : World) :
    Calls Tryz.prog 87 #[.int .i64 (C : Int)] w (RetD (candL C) w) := by
  obtain ⟨i0, hi, hz0, hz1, hz2⟩ := info_parts infoDp
  have HI : Hid (_ ∧ _ ∧ _ ∧ _) := Lib.hid ⟨hi, hz0, hz1, hz2⟩
  clear hi hz0 hz1 hz2
  have HP := Lib.hid (fun (R : Nat) (hR : R ≤ 62) w' => partsW_any (C : Int) R hR w')
  have HN := Lib.hid (fun r => mdOut_succ (fun S r => !bitB S.toNat r) (parts (C : Int)) r)
  have HL := Lib.hid (fun r hr => cand_len C r hC hr)
  have HPL := Lib.hid (fun (r : Nat) => Nat.le_trans (List.length_filter_le (fun S => !bitB S.toNat r) (parts (C : Int))) (parts_len32 hC))
  go_enter Tryz.func87, Tryz.ntmps87
  go_wp2_with fail
  go_loopw [3, 4] (fun ov iv wr => ∃ (r : Nat) (q : List (Int × Int)), r ≤ C ∧ iv = .int .i64 (r : Int) ∧ Hid (q = mdOut (fun S r => !bitB S.toNat r) (parts (C : Int)) r) ∧ OwnD wr w.heap.size ov q ∧ Below w.heap.size w wr) (fun _ iv _ => C - (intOf iv).toNat)
  case atStart => exact ⟨0, [], by omega, rfl, Lib.hid rfl, OwnD.nil _ _, Below.refl _ _⟩
  case round =>
    obtain ⟨r, q, hr, rfl, hq, ho, hb⟩ := hrel
    by_cases hlt : r < C
    · have HPR := Lib.hid (HP.out r (by omega))
      have HNR := Lib.hid (HN.out r)
      have hll := HL.out r (by omega)
      rw [← hq.out] at hll
      have hpl := HPL.out r
      obtain ⟨ps, hps⟩ : ∃ ps, ps = (parts (C : Int)).filter (fun S => !bitB S.toNat r) := ⟨_, rfl⟩
      rw [← hps] at HPR HNR hpl
      rw [← hq.out] at HNR
      have HO := Lib.hid ho
      have HB := Lib.hid hb
      clear hps ho hb
      have z0 : (0 : Int) ≤ (r : Int) := by omega
      have z1 : (r : Int) < (C : Int) := by omega
      go_wp2_with fail
      refine (HPR.out _).mono ?_
      rintro e w1 ⟨v1, rfl, o1, b1⟩
      have ho1 := HO.out.below b1 (fun k hk => (HO.out.lt k hk).2)
      have hb1 := HB.out.trans (b1.mono HB.out.size)
      have o1' := o1.base (B' := w.heap.size) HB.out.size
      obtain ⟨a1, cap1, hv1, -⟩ := o1.read
      subst hv1
      have HO1 := Lib.hid ho1
      have HB1 := Lib.hid hb1
      have HI1 := Lib.hid o1'
      clear b1 o1 ho1 hb1 o1'
      go_wp2_with fail
      go_loopw [3, 16] (fun ov jv wr => ∃ (k : Nat) (q2 : List (Int × Int)), k ≤ ps.length ∧ jv = .int .i64 (k : Int) ∧ Hid (q2 = q ++ (ps.take k).map (fun S => (S, (r : Int)))) ∧ OwnD wr w.heap.size ov q2 ∧ OwnI wr w.heap.size (.slice a1 ps.length cap1) ps ∧ Below w.heap.size w wr) (fun _ jv _ => ps.length - (intOf jv).toNat)
      case atStart => exact ⟨0, q, by omega, rfl, Lib.hid (by simp), HO1.out, HI1.out, HB1.out⟩
      case round =>
        obtain ⟨k, q2, hk, rfl, hq2, ho, hio, hbw⟩ := hrel
        obtain ⟨w2, hw2⟩ : ∃ w', w' = wr := ⟨_, rfl⟩
        rw [← hw2] at ho hio hbw ⊢
        clear hw2
        by_cases hlt2 : k < ps.length
        · obtain ⟨x, hx⟩ : ∃ x, a1 = some x ∧ w2.cell? (x.add k) = some (.int .i64 (ps.getD k 0)) := by
            obtain ⟨a', cap', hv, hc⟩ := hio.read
            cases hv
            obtain ⟨x, e1, e2⟩ := hc k hlt2
            rw [get_getD ps k hlt2] at e2
            exact ⟨x, e1, e2⟩
          obtain ⟨rfl, hx⟩ := hx
          have hl2 : q2.length ≤ 1000 := by rw [hq2.out, List.length_append, List.length_map, List.length_take]; omega
          have HS := Lib.hid (pw_next ps r k hlt2)
          obtain ⟨y, hy⟩ : ∃ y, y = ps.getD k 0 := ⟨_, rfl⟩
          rw [← hy] at hx HS
          clear hy
          have HOD := Lib.hid ho
          have HIO := Lib.hid hio
          clear hio
          have z2 : (0 : Int) ≤ (k : Int) := by omega
          have z3 : (k : Int) < (ps.length : Int) := by omega
          go_wp2_with (at_builtin; refine wpList_append_own _ rfl _ _ 24 rfl w.heap.size 35 i0 (.agg #[.int .i64 0, .int .i64 0]) 2 16 Tryz.underlying24 HI.out.1 HI.out.2.1 HI.out.2.2.1 HI.out.2.2.2 rfl (by decide) _ _ _ rfl (World.ownsRow.alloc ho _) ⟨w2.heap.size, 0, none⟩ 1 1 [.int .i64 y, .int .i64 (r : Int)] rfl rfl (cell_two_new _ _ _ _) (two_i64 _ _) (by unfold maxLen; omega) (by omega) (le_alloc hbw (Nat.le_refl _) _) ?_; intro v3 w3 hown3 hgrow3 _)
          have ho3 := OwnD.snoc hown3
          have hb3 := (hbw.alloc hbw.size (.cells #[.int .i64 y, .int .i64 (r : Int)] 35)).grown hgrow3 (by simp; have := hbw.size; omega) (fun k hk => (HOD.out.lt k hk).1)
          have hi2 := HIO.out.kept ((Below.refl w2.heap.size w2).alloc (Nat.le_refl _) (.cells #[.int .i64 y, .int .i64 (r : Int)] 35)) (fun k hk => (HIO.out.lt k hk).2)
          have hi3 := hi2.keptBy hgrow3 (fun g hg => dep_apart (World.ownsRow.alloc HOD.out _) hi2 g hg)
          clear hown3 hgrow3 hi2
          go_wp2_with fail
          go_roundw
          case rel => exact ⟨k + 1, _, by omega, by go_num, Lib.hid (by rw [HS.out, hq2.out, List.append_assoc]), ho3, hi3, hb3⟩
          case measure => simp [intOf]; omega
        · obtain rfl : k = ps.length := by omega
          go_wp2_with fail
          go_roundw
          case rel => exact ⟨r + 1, _, by omega, by go_num, Lib.hid (by rw [HNR.out, hq2.out, List.take_length]), ho, hbw⟩
          case measure => simp [intOf]; omega
    · obtain rfl : r = C := by omega
      go_wp2_with fail
      go_ret
      exact ⟨_, rfl, by unfold candL; rw [← hq.out]; exact ho, hb⟩
end Go.Proofs.YtnbjcelfdppkcadGreat
namespace Go.Proofs.YtnbjcelfdppkcadGreat
open Go.RowKit

theorem box_two {w : World} {T T' : TypeId} {a b l r : Value} : (((w.alloc (.cells #[a, b] T)).alloc (.cells #[l, r] T')).cell? ⟨w.heap.size, 0, none⟩ = some a ∧ ((w.alloc (.cells #[a, b] T)).alloc (.cells #[l, r] T')).cell? ⟨w.heap.size, 1, none⟩ = some b) ∧ ((w.alloc (.cells #[a, b] T)).alloc (.cells #[l, r] T')).cell? ⟨w.heap.size + 1, 0, none⟩ = some l ∧ ((w.alloc (.cells #[a, b] T)).alloc (.cells #[l, r] T')).cell? ⟨w.heap.size + 1, 1, none⟩ = some r := boxTD (Below.refl _ _)
set_option maxHeartbeats 1600000 in
theorem covers_any (e0 e1 d0 d1 : Int) (w : World) :
    Calls Tryz.prog 111 #[.agg #[.int .i64 e0, .int .i64 e1], .agg #[.int .i64 d0, .int .i64 d1]] w fun e w' => e = .returned (.bool (covB (e0, e1) (d0, d1))) ∧ Below w.heap.size w w' := by
  have hb1 := (Below.refl w.heap.size w).alloc (Nat.le_refl _) (.cells #[.int .i64 e0, .int .i64 e1] 35)
  have hb2 := hb1.alloc hb1.size (.cells #[.int .i64 d0, .int .i64 d1] 35)
  have HB := Lib.hid hb2
  obtain ⟨⟨c0, c1⟩, c2, c3⟩ := box_two (w := w) (T := 35) (T' := 35) (a := .int .i64 e0) (b := .int .i64 e1) (l := .int .i64 d0) (r := .int .i64 d1)
  have HP := Lib.hid (fun w' => partOf_any e0 d0 w')
  clear hb1 hb2
  by_cases h : e1 = d1
  · subst h
    have HE : Hid (covB (e0, e1) (d0, e1) = partZ e0 d0) := Lib.hid (by unfold covB; simp)
    go_enter Tryz.func111, Tryz.ntmps111
    go_wp2_with fail
    refine (HP.out _).mono ?_
    rintro e w' ⟨rfl, rfl⟩
    go_wp2_with fail
    go_ret
    exact ⟨ret_b HE.out, HB.out⟩
  · have HE : Hid (covB (e0, e1) (d0, d1) = false) := Lib.hid (by unfold covB; rw [decide_eq_false h]; rfl)
    have hne : (e1 == d1) = false := by simpa using h
    clear h
    go_enter Tryz.func111, Tryz.ntmps111
    go_wp2_with fail
    go_ret
    exact ⟨ret_b HE.out, HB.out⟩
set_option maxHeartbeats 1600000 in
theorem otherFun_any (e0 e1 d0 d1 : Int) (b : Nat) (w : World) (h0 : w.cell? ⟨b, 0, none⟩ = some (.int .i64 d0)) (h1 : w.cell? ⟨b, 1, none⟩ = some (.int .i64 d1)) :
    Calls Tryz.prog 110 #[.agg #[.int .i64 e0, .int .i64 e1], .pointer (some ⟨b, 0, none⟩)] w fun e w' => e = .returned (.bool (!decide ((e0, e1) = (d0, d1)) && covB (e0, e1) (d0, d1))) ∧ Below w.heap.size w w' := by
  have hb1 := (Below.refl w.heap.size w).alloc (Nat.le_refl _) (.cells #[.int .i64 e0, .int .i64 e1] 35)
  have HB := Lib.hid hb1
  have HC := Lib.hid (fun w' => covers_any e0 e1 d0 d1 w')
  obtain ⟨c0, c1⟩ := zero2 w 35 (.int .i64 e0) (.int .i64 e1)
  replace h0 := (hb1.cell (World.block_lt_of_cell? _ _ h0)).trans h0
  replace h1 := (hb1.cell (World.block_lt_of_cell? _ _ h1)).trans h1
  clear hb1
  by_cases h : e0 = d0 ∧ e1 = d1
  · obtain ⟨rfl, rfl⟩ := h
    have HE : Hid ((!decide ((e0, e1) = (e0, e1)) && covB (e0, e1) (e0, e1)) = false) := Lib.hid (by simp)
    go_enter Tryz.func110, Tryz.ntmps110
    go_wp2_with fail
    go_ret
    exact ⟨ret_b HE.out, HB.out⟩
  · have HE : Hid ((!decide ((e0, e1) = (d0, d1)) && covB (e0, e1) (d0, d1)) = covB (e0, e1) (d0, d1)) := Lib.hid (by
      rw [decide_eq_false (fun hh => h (Prod.mk.inj hh))]; rfl)
    by_cases hx : e0 = d0
    · have hy : ¬ e1 = d1 := fun hh => h ⟨hx, hh⟩
      clear h
      subst hx
      go_enter Tryz.func110, Tryz.ntmps110
      go_wp2_with fail
      refine (HC.out _).mono ?_
      rintro e w2 ⟨rfl, b2⟩
      have hb2 := HB.out.trans (b2.mono HB.out.size)
      go_wp2_with fail
      go_ret
      exact ⟨ret_b HE.out, hb2⟩
    · clear h
      go_enter Tryz.func110, Tryz.ntmps110
      go_wp2_with fail
      refine (HC.out _).mono ?_
      rintro e w2 ⟨rfl, b2⟩
      have hb2 := HB.out.trans (b2.mono HB.out.size)
      go_wp2_with fail
      go_ret
      exact ⟨ret_b HE.out, hb2⟩
theorem any_no {α : Type} (p : α → Bool) (l : List α) (d : α) (k : Nat) (h : k < l.length) (h0 : (l.take k).any p = false) (h1 : p (l.getD k d) = false) : (l.take (k + 1)).any p = false := by
  rw [take_succ_getD l d k h, List.any_append, h0, Bool.false_or]
  show (p (l.getD k d) || false) = false
  rw [h1]; rfl
theorem any_yes {α : Type} (p : α → Bool) (l : List α) (d : α) (k : Nat) (h : k < l.length) (h1 : p (l.getD k d) = true) : l.any p = true := by
  rw [List.any_eq_true]
  exact ⟨l.getD k d, by rw [List.getD_eq_getElem?_getD, List.getElem?_eq_getElem h]; exact List.getElem_mem h, h1⟩
/-- An index that is not negative just if one is so. -/
def IxOk (b : Bool) (i : Int) : Prop := (b = true → 0 ≤ i) ∧ (b = false → i = -1)
set_option maxHeartbeats 1600000 in
theorem indexOther_any (v c1 : Value) (p : Int × Int → Bool) (l : List (Int × Int)) (w : World) (hr : ReadD w v l) (hl : l.length ≤ 1048576)
    (HP : ∀ x, x ∈ l → ∀ w', Below w.heap.size w w' → Calls Tryz.prog 110 #[.agg #[.int .i64 x.1, .int .i64 x.2], c1] w' fun e w'' => e = .returned (.bool (p x)) ∧ Below w'.heap.size w' w'') :
    Calls Tryz.prog 81 #[v, .func (.func 110) #[] #[c1]] w fun e w' => ∃ i, e = .returned (.int .i64 i) ∧ IxOk (l.any p) i ∧ Below w.heap.size w w' := by
  have HQ := Lib.hid HP
  obtain ⟨a, cap, rfl, ha⟩ := hr
  have HA := Lib.hid ha
  clear ha HP
  go_enter Tryz.func81, Tryz.ntmps81
  go_wp2_with fail
  go_loopw [8] (fun iv wr => ∃ (k : Nat), k ≤ l.length ∧ iv = .int .i64 (k : Int) ∧ Hid ((l.take k).any p = false) ∧ Below w.heap.size w wr) (fun iv _ => l.length - (intOf iv).toNat)
  case atStart => exact ⟨0, by omega, rfl, Lib.hid rfl, Below.refl _ _⟩
  case round =>
    obtain ⟨k, hk, rfl, hno, hb⟩ := hrel
    by_cases hlt : k < l.length
    · obtain ⟨b, o, rfl, h0, h1⟩ := HA.out k hlt
      replace h0 := (hb.cell (World.block_lt_of_cell? w _ h0)).trans h0
      replace h1 := (hb.cell (World.block_lt_of_cell? w _ h1)).trans h1
      have hm : l.getD k (0, 0) ∈ l := by rw [List.getD_eq_getElem?_getD, List.getElem?_eq_getElem hlt]; exact List.getElem_mem hlt
      have HNO := Lib.hid (any_no p l (0, 0) k hlt hno.out)
      have HYE := Lib.hid (any_yes p l (0, 0) k hlt)
      obtain ⟨⟨y0, y1⟩, hy⟩ : ∃ y, y = l.getD k (0, 0) := ⟨_, rfl⟩
      rw [← hy] at h0 h1 hm HNO HYE
      simp only at h0 h1
      have HC := Lib.hid (HQ.out (y0, y1) hm)
      have HB := Lib.hid hb
      clear hy hm hb
      have z0 : (0 : Int) ≤ (k : Int) := by omega
      have z1 : (k : Int) < (l.length : Int) := by omega
      cases hp : p (y0, y1) with
      | true =>
        have HE := Lib.hid (HYE.out hp)
        rw [hp] at HC
        clear hp
        go_wp2_with fail
        refine (HC.out _ HB.out).mono ?_
        rintro e w1 ⟨rfl, b1⟩
        have hb1 := HB.out.trans (b1.mono HB.out.size)
        clear b1 h0 h1
        go_wp2_with fail
        go_ret
        exact ⟨_, rfl, ⟨fun _ => (by omega), fun h => absurd h (by rw [HE.out]; decide)⟩, hb1⟩
      | false =>
        have HE := Lib.hid (HNO.out hp)
        rw [hp] at HC
        clear hp
        go_wp2_with fail
        refine (HC.out _ HB.out).mono ?_
        rintro e w1 ⟨rfl, b1⟩
        have hb1 := HB.out.trans (b1.mono HB.out.size)
        clear b1 h0 h1
        go_wp2_with fail
        go_roundw
        case rel => exact ⟨k + 1, by omega, by go_num, HE, hb1⟩
        case measure => simp [intOf]; omega
    · obtain rfl : k = l.length := by omega
      go_wp2_with fail
      go_ret
      exact ⟨_, rfl, ⟨fun h => absurd h (by have := hno.out; rw [List.take_length] at this; rw [this]; decide), fun _ => rfl⟩, hb⟩
set_option maxHeartbeats 1600000 in
theorem containsOther_any (v c1 : Value) (p : Int × Int → Bool) (l : List (Int × Int)) (w : World) (hr : ReadD w v l) (hl : l.length ≤ 1048576)
    (HP : ∀ x, x ∈ l → ∀ w', Below w.heap.size w w' → Calls Tryz.prog 110 #[.agg #[.int .i64 x.1, .int .i64 x.2], c1] w' fun e w'' => e = .returned (.bool (p x)) ∧ Below w'.heap.size w' w'') :
    Calls Tryz.prog 45 #[v, .func (.func 110) #[] #[c1]] w fun e w' => e = .returned (.bool (l.any p)) ∧ Below w.heap.size w w' := by
  have HI := Lib.hid (indexOther_any v c1 p l w hr hl HP)
  clear hr HP
  go_enter Tryz.func45, Tryz.ntmps45
  go_wp2_with fail
  refine HI.out.mono ?_
  rintro e w' ⟨i, rfl, hi, hb⟩
  have HX : Hid (l.any p = decide (0 ≤ i)) := Lib.hid (by
    cases h : l.any p with
    | true => exact (decide_eq_true (hi.1 h)).symm
    | false => rw [hi.2 h]; rfl)
  clear hi
  go_wp2_with fail
  go_ret
  exact ⟨ret_b HX.out, hb⟩
set_option maxHeartbeats 1600000 in
theorem uncFun_any (d0 d1 : Int) (b : Nat) (v : Value) (l : List (Int × Int)) (w : World) (hr : ReadD w v l) (hl : l.length ≤ 1048576) (hc : w.cell? ⟨b, 0, none⟩ = some v) :
    Calls Tryz.prog 109 #[.agg #[.int .i64 d0, .int .i64 d1], .pointer (some ⟨b, 0, none⟩)] w fun e w' => e = .returned (.bool (!unB l (d0, d1))) ∧ Below w.heap.size w w' := by
  have hb1 := (Below.refl w.heap.size w).alloc (Nat.le_refl _) (.cells #[.int .i64 d0, .int .i64 d1] 35)
  have HB := Lib.hid hb1
  obtain ⟨c0, c1⟩ := zero2 w 35 (.int .i64 d0) (.int .i64 d1)
  have HC := Lib.hid (containsOther_any v (.pointer (some ⟨w.heap.size, 0, none⟩)) (fun e => !decide (e = (d0, d1)) && covB e (d0, d1)) l (w.alloc (.cells #[.int .i64 d0, .int .i64 d1] 35)) (hr.kept hb1) hl
    (fun x _ w' hb => otherFun_any x.1 x.2 d0 d1 w.heap.size w' ((hb.cell (World.block_lt_of_cell? _ _ c0)).trans c0) ((hb.cell (World.block_lt_of_cell? _ _ c1)).trans c1)))
  replace hc := (hb1.cell (World.block_lt_of_cell? _ _ hc)).trans hc
  have HE : Hid (unB l (d0, d1) = l.any (fun e => !decide (e = (d0, d1)) && covB e (d0, d1))) := Lib.hid rfl
  obtain ⟨q, hq⟩ : ∃ q, q = l.any (fun e => !decide (e = (d0, d1)) && covB e (d0, d1)) := ⟨_, rfl⟩
  rw [← hq] at HC HE
  obtain ⟨a, cap, rfl, -⟩ := hr
  clear hb1 c0 c1 hq
  cases q with
  | true =>
    go_enter Tryz.func109, Tryz.ntmps109
    go_wp2_with fail
    refine HC.out.mono ?_
    rintro e w2 ⟨rfl, b2⟩
    have hb2 := HB.out.trans (b2.mono HB.out.size)
    go_wp2_with fail
    go_ret
    exact ⟨by rw [HE.out]; rfl, hb2⟩
  | false =>
    go_enter Tryz.func109, Tryz.ntmps109
    go_wp2_with fail
    refine HC.out.mono ?_
    rintro e w2 ⟨rfl, b2⟩
    have hb2 := HB.out.trans (b2.mono HB.out.size)
    go_wp2_with fail
    go_ret
    exact ⟨by rw [HE.out]; rfl, hb2⟩
set_option maxHeartbeats 1600000 in
theorem uncovered_any (v : Value) (l : List (Int × Int)) (w : World) (hr : ReadD w v l) (hl : l.length ≤ 1048576) :
    Calls Tryz.prog 85 #[v] w (RetD (uncL l) w) := by
  have hb1 := (Below.refl w.heap.size w).alloc (Nat.le_refl _) (.cells #[v] 24)
  have HB := Lib.hid hb1
  have hc := one_at w 24 v
  have HF := Lib.hid (filtUC_any (.pointer (some ⟨w.heap.size, 0, none⟩)) (fun d => !unB l d) v l (w.alloc (.cells #[v] 24)) (hr.kept hb1) hl
    (fun x _ w' hb => uncFun_any x.1 x.2 w.heap.size v l w' ((hr.kept hb1).kept hb) hl ((hb.cell (World.block_lt_of_cell? _ _ hc)).trans hc)))
  obtain ⟨a, cap, rfl, -⟩ := hr
  clear hb1
  go_enter Tryz.func85, Tryz.ntmps85
  go_wp2_with fail
  refine HF.out.mono ?_
  rintro e w2 ⟨v2, rfl, ho2, b2⟩
  have hb2 := HB.out.trans (b2.mono HB.out.size)
  have ho3 := ho2.base HB.out.size
  clear ho2 b2
  go_wp2_with fail
  go_ret
  exact ⟨_, rfl, ho3, hb2⟩
end Go.Proofs.YtnbjcelfdppkcadGreat
namespace Go.Proofs.YtnbjcelfdppkcadGreat
open Go.RowKit
open Go.Maps (Keyed)
open Go.WideMaps (ArrKey)
open Go.ChangeMaps (setBlock)

theorem arrR : ArrKey Tryz.prog 119 3 5 := ⟨Tryz.underlying119, by kernel_rfl, by kernel_rfl, by kernel_rfl⟩
theorem keyR : Keyed Tryz.prog 119 := Keyed.of_law arrR.law
theorem sizeT : ∃ m, Tryz.prog.types.size = m + 1 := ⟨Tryz.prog.types.size - 1, by kernel_rfl⟩
/-- The value of a record. -/
def recV (r : List Int) : Value := .agg #[.int .i64 (r.getD 0 0), .int .i64 (r.getD 1 0), .int .i64 (r.getD 2 0), .int .i64 (r.getD 3 0), .int .i64 (r.getD 4 0)]
/-- Five ints. -/
def R5 (r : List Int) : Prop := r.length = 5 ∧ ∀ j, j < 5 → (Lit.int .i64 (r.getD j 0)).wf = true
theorem r5_list {r : List Int} (h : R5 r) : r = [r.getD 0 0, r.getD 1 0, r.getD 2 0, r.getD 3 0, r.getD 4 0] := by
  obtain ⟨h, -⟩ := h
  match r, h with
  | [a, b, c, d, e], _ => rfl
theorem recV_inj {r s : List Int} (hr : R5 r) (hs : R5 s) (h : recV r = recV s) : r = s := by
  rw [r5_list hr, r5_list hs]
  unfold recV at h
  simp only [Value.agg.injEq, Array.mk.injEq, List.cons.injEq, Value.int.injEq, true_and, and_true] at h
  obtain ⟨h0, h1, h2, h3, h4⟩ := h
  rw [h0, h1, h2, h3, h4]
instance : Nonempty Lit := ⟨.bool false⟩
theorem keyOf_rec {r : List Int} (h : R5 r) : ∃ kl, keyOf Tryz.prog 119 (recV r) = some kl := by
  have hkt := arrR.keyType sizeT
  obtain ⟨m, hm⟩ := sizeT
  obtain ⟨-, hw⟩ := h
  have w0 := hw 0 (by omega)
  have w1 := hw 1 (by omega)
  have w2 := hw 2 (by omega)
  have w3 := hw 3 (by omega)
  have w4 := hw 4 (by omega)
  refine ⟨.string (keyBytes [.int .i64 (r.getD 0 0), .int .i64 (r.getD 1 0), .int .i64 (r.getD 2 0), .int .i64 (r.getD 3 0), .int .i64 (r.getD 4 0)]), ?_⟩
  · unfold keyOf recV
    generalize r.getD 0 0 = a0, r.getD 1 0 = a1, r.getD 2 0 = a2, r.getD 3 0 = a3, r.getD 4 0 = a4 at *
    simp only [arrR.hu]
    rw [if_pos (by simp [hkt, Value.formed, arrR.hu, arrR.size]), hm]
    unfold Program.keyLits
    simp only [arrR.hu, Value.cells]
    rw [if_pos (by rw [arrR.size]; rfl), show List.range 5 = [0, 1, 2, 3, 4] from rfl, List.mapM_cons, List.mapM_cons, List.mapM_cons, List.mapM_cons, List.mapM_cons, List.mapM_nil]
    simp [arrR.one, Program.keyLits, Tryz.underlying3, w0, w1, w2, w3, w4]
/-- What a record reads as. -/
noncomputable def klR (r : List Int) : Lit := Classical.epsilon fun kl => keyOf Tryz.prog 119 (recV r) = some kl
theorem keyOf_klR {r : List Int} (h : R5 r) : keyOf Tryz.prog 119 (recV r) = some (klR r) := by
  exact Classical.epsilon_spec (keyOf_rec h)
theorem klR_inj {r s : List Int} (hr : R5 r) (hs : R5 s) (h : klR r = klR s) : r = s := by
  have h1 := keyOf_klR hr
  rw [h] at h1
  exact recV_inj hr hs (keyR.inj h1 (keyOf_klR hs))
theorem klR_key {r : List Int} (h : R5 r) : WideAt.IsKeyLit (klR r) := keyR.key (keyOf_klR h)
theorem lit_one {m : Nat} {c : Value} {ls : List Lit} (h : Tryz.prog.keyLits (m + 1) 3 [c] = some ls) : ∃ a, c = .int .i64 a ∧ (Lit.int .i64 a).wf = true := by
  unfold Program.keyLits at h
  simp only [Tryz.underlying3] at h
  cases c <;> simp at h
  obtain ⟨⟨rfl, hw⟩, -⟩ := h
  exact ⟨_, rfl, hw⟩
set_option maxRecDepth 100000 in
theorem rec_inv {v : Value} {kl : Lit} (h : keyOf Tryz.prog 119 v = some kl) : ∃ r, R5 r ∧ v = recV r ∧ kl = klR r := by
  have h' := h
  obtain ⟨m, hm⟩ := sizeT
  unfold keyOf at h
  simp only [arrR.hu] at h
  split at h
  · next hf =>
    rw [Bool.and_eq_true] at hf
    have hfm := hf.2
    cases v with
    | agg cs =>
      simp only [Value.formed, arrR.hu, arrR.size, beq_iff_eq] at hfm
      obtain ⟨c0, c1, c2, c3, c4, rfl⟩ : ∃ c0 c1 c2 c3 c4, cs = #[c0, c1, c2, c3, c4] := by
        obtain ⟨l⟩ := cs
        match l, hfm with
        | [a, b, c, d, e], _ => exact ⟨a, b, c, d, e, rfl⟩
      rw [hm] at h
      unfold Program.keyLits at h
      simp only [arrR.hu, Value.cells] at h
      rw [if_pos (by rw [arrR.size]; rfl), show List.range 5 = [0, 1, 2, 3, 4] from rfl, List.mapM_cons, List.mapM_cons, List.mapM_cons, List.mapM_cons, List.mapM_cons, List.mapM_nil] at h
      simp only [arrR.one, Nat.mul_one, List.drop_zero, List.drop_succ_cons, List.take_succ_cons, List.take_zero, Option.map_eq_some_iff, bind, Option.bind_eq_some_iff, pure] at h
      obtain ⟨-, ⟨-, ⟨y0, h0, -, ⟨y1, h1, -, ⟨y2, h2, -, ⟨y3, h3, -, ⟨y4, h4, -⟩, -⟩, -⟩, -⟩, -⟩, -⟩, -⟩ := h
      obtain ⟨a0, rfl, v0⟩ := lit_one h0
      obtain ⟨a1, rfl, v1⟩ := lit_one h1
      obtain ⟨a2, rfl, v2⟩ := lit_one h2
      obtain ⟨a3, rfl, v3⟩ := lit_one h3
      obtain ⟨a4, rfl, v4⟩ := lit_one h4
      have hR : R5 [a0, a1, a2, a3, a4] := ⟨rfl, fun j hj => by
        rcases (show j = 0 ∨ j = 1 ∨ j = 2 ∨ j = 3 ∨ j = 4 by omega) with rfl | rfl | rfl | rfl | rfl
        · exact v0
        · exact v1
        · exact v2
        · exact v3
        · exact v4⟩
      have hk := keyOf_klR hR
      refine ⟨_, hR, rfl, ?_⟩
      rw [show recV [a0, a1, a2, a3, a4] = .agg #[.int .i64 a0, .int .i64 a1, .int .i64 a2, .int .i64 a3, .int .i64 a4] from rfl, h'] at hk
      exact Option.some.inj hk
    | _ => simp [Value.formed, arrR.hu] at hfm
  · cases h

/-- A value reads as itself. -/
def tokR (v : Value) : Option (DataW Value × List MemPlace) := some (.held v, [])
abbrev nilS : Value := .slice none 0 0
theorem zeroS (w : World) : (zeroValue 40).run Tryz.prog w = .ok nilS w := by kernel_rfl
/-- Block b is a map of at most n entries from records to slices that reads as D. -/
def MapR (w : World) (b n : Nat) (D : DataW Value) : Prop := w.ownsMap Tryz.prog 119 tokR b n D
section
variable (w : World) {ops : Array Oper} {rest : List Oper} {o : Oper} {a : Act} {Q : Exit → Act → World → Prop}
end
end Go.Proofs.YtnbjcelfdppkcadGreat
namespace Go.Proofs.YtnbjcelfdppkcadGreat
open Go.RowKit
open Go.Maps (Keyed)

theorem keyS : Keyed Tryz.prog 123 := Keyed.of_law (deep_law (m := 3) (by omega) (by kernel_rfl) (by kernel_rfl) (by kernel_rfl))
theorem typS : Tryz.prog.keyType 123 = true := by kernel_rfl
theorem sizS : Tryz.prog.cellsOf 123 = 6 := by kernel_rfl
/-- The value of the sides of a row: five ints and one. -/
def sidV (r : List Int) : Value := .agg #[.int .i64 (r.getD 0 0), .int .i64 (r.getD 1 0), .int .i64 (r.getD 2 0), .int .i64 (r.getD 3 0), .int .i64 (r.getD 4 0), .int .i64 (r.getD 5 0)]
/-- Six ints. -/
def S6 (r : List Int) : Prop := r.length = 6 ∧ ∀ j, j < 6 → (Lit.int .i64 (r.getD j 0)).wf = true
theorem s6_list {r : List Int} (h : S6 r) : r = [r.getD 0 0, r.getD 1 0, r.getD 2 0, r.getD 3 0, r.getD 4 0, r.getD 5 0] := by
  obtain ⟨h, -⟩ := h
  match r, h with
  | [a, b, c, d, e, f], _ => rfl
theorem sidV_inj {r s : List Int} (hr : S6 r) (hs : S6 s) (h : sidV r = sidV s) : r = s := by
  rw [s6_list hr, s6_list hs]
  unfold sidV at h
  simp only [Value.agg.injEq, Array.mk.injEq, List.cons.injEq, Value.int.injEq, true_and, and_true] at h
  obtain ⟨h0, h1, h2, h3, h4, h5⟩ := h
  rw [h0, h1, h2, h3, h4, h5]
theorem lits_int {m : Nat} {a : Int} (h : (Lit.int .i64 a).wf = true) : Tryz.prog.keyLits (m + 1) 3 [.int .i64 a] = some [.int .i64 a] := by
  unfold Program.keyLits
  simp [Tryz.underlying3, h]
theorem lits_rec {m : Nat} {a0 a1 a2 a3 a4 : Int} (w0 : (Lit.int .i64 a0).wf = true) (w1 : (Lit.int .i64 a1).wf = true) (w2 : (Lit.int .i64 a2).wf = true) (w3 : (Lit.int .i64 a3).wf = true) (w4 : (Lit.int .i64 a4).wf = true) :
    Tryz.prog.keyLits (m + 2) 119 [.int .i64 a0, .int .i64 a1, .int .i64 a2, .int .i64 a3, .int .i64 a4] = some [.int .i64 a0, .int .i64 a1, .int .i64 a2, .int .i64 a3, .int .i64 a4] := by
  unfold Program.keyLits
  simp only [arrR.hu]
  rw [if_pos (by rw [arrR.size]; rfl), show List.range 5 = [0, 1, 2, 3, 4] from rfl, List.mapM_cons, List.mapM_cons, List.mapM_cons, List.mapM_cons, List.mapM_cons, List.mapM_nil]
  simp [arrR.one, lits_int w0, lits_int w1, lits_int w2, lits_int w3, lits_int w4]
theorem sizeT2 : ∃ m, Tryz.prog.types.size = m + 2 := ⟨Tryz.prog.types.size - 2, by kernel_rfl⟩
theorem keyOf_sid {r : List Int} (h : S6 r) : ∃ kl, keyOf Tryz.prog 123 (sidV r) = some kl := by
  obtain ⟨m, hm⟩ := sizeT2
  obtain ⟨-, hw⟩ := h
  have w0 := hw 0 (by omega)
  have w1 := hw 1 (by omega)
  have w2 := hw 2 (by omega)
  have w3 := hw 3 (by omega)
  have w4 := hw 4 (by omega)
  have w5 := hw 5 (by omega)
  refine ⟨.string (keyBytes [.int .i64 (r.getD 0 0), .int .i64 (r.getD 1 0), .int .i64 (r.getD 2 0), .int .i64 (r.getD 3 0), .int .i64 (r.getD 4 0), .int .i64 (r.getD 5 0)]), ?_⟩
  unfold keyOf sidV
  generalize r.getD 0 0 = a0, r.getD 1 0 = a1, r.getD 2 0 = a2, r.getD 3 0 = a3, r.getD 4 0 = a4, r.getD 5 0 = a5 at *
  simp only [Tryz.underlying123]
  rw [if_pos (by simp [typS, Value.formed, Tryz.underlying123, sizS]), hm]
  unfold Program.keyLits
  simp only [Tryz.underlying123, Value.cells]
  rw [if_pos (by rw [sizS]; exact ⟨rfl, by simp⟩)]
  have e5 := @lits_rec (m) a0 a1 a2 a3 a4 w0 w1 w2 w3 w4
  have e1 := @lits_int (m + 1) a5 w5
  simp [arrR.size, arrR.one, e5, e1]
noncomputable def klS (r : List Int) : Lit := Classical.epsilon fun kl => keyOf Tryz.prog 123 (sidV r) = some kl
theorem keyOf_klS {r : List Int} (h : S6 r) : keyOf Tryz.prog 123 (sidV r) = some (klS r) := by
  exact Classical.epsilon_spec (keyOf_sid h)
theorem klS_inj {r s : List Int} (hr : S6 r) (hs : S6 s) (h : klS r = klS s) : r = s := by
  have h1 := keyOf_klS hr
  rw [h] at h1
  exact sidV_inj hr hs (keyS.inj h1 (keyOf_klS hs))
theorem klS_key {r : List Int} (h : S6 r) : WideAt.IsKeyLit (klS r) := keyS.key (keyOf_klS h)
/-- Block b is a map of at most n entries from sides to numbers: f's, 0 where it has none. -/
def MapT (w : World) (b n : Nat) (f : List Int → Nat) : Prop :=
  ∃ D : DataW Unit, w.ownsMap Tryz.prog 123 (plainElem Tryz.prog 3) b n D ∧ ∀ x, S6 x → D.atKey (klS x) (.lit (.int .i64 0)) = .lit (.int .i64 (f x : Int))
/-- The same from records; only those with a number above 0 are there. -/
def MapQ (w : World) (b n : Nat) (f : List Int → Nat) : Prop :=
  ∃ D : DataW Unit, w.ownsMap Tryz.prog 119 (plainElem Tryz.prog 3) b n D ∧ ∀ x, R5 x → Maps.has D (klR x) = decide (f x ≠ 0) ∧ D.atKey (klR x) (.lit (.int .i64 0)) = .lit (.int .i64 (f x : Int))
theorem zeroJ (w : World) : (zeroValue 3).run Tryz.prog w = .ok (.int .i64 0) w := by kernel_rfl
theorem MapT.made (w : World) : MapT (w.alloc (.map #[] 0)) w.heap.size 0 (fun _ => 0) := ⟨.map [], World.ownsMap_made _ _ _ _, fun _ _ => rfl⟩
theorem MapQ.made (w : World) : MapQ (w.alloc (.map #[] 0)) w.heap.size 0 (fun _ => 0) := ⟨.map [], World.ownsMap_made _ _ _ _, fun _ _ => ⟨rfl, rfl⟩⟩
theorem MapT.congr {w : World} {b n : Nat} {f g : List Int → Nat} (h : MapT w b n f) (e : ∀ x, f x = g x) : MapT w b n g := by
  have : f = g := funext e
  exact this ▸ h
theorem MapQ.congr {w : World} {b n : Nat} {f g : List Int → Nat} (h : MapQ w b n f) (e : ∀ x, f x = g x) : MapQ w b n g := by
  have : f = g := funext e
  exact this ▸ h
theorem MapT.lt {w : World} {b n : Nat} {f : List Int → Nat} (h : MapT w b n f) : b < w.heap.size := by
  obtain ⟨D, h1, -⟩ := h; exact h1.lt
theorem MapQ.lt {w : World} {b n : Nat} {f : List Int → Nat} (h : MapQ w b n f) : b < w.heap.size := by
  obtain ⟨D, h1, -⟩ := h; exact h1.lt
theorem MapT.kept {w w' : World} {b n : Nat} {f : List Int → Nat} {row : Option Nat} (h : MapT w b n f) (hg : w.grownBy w' row) (hne : some b ≠ row) : MapT w' b n f := by
  obtain ⟨D, h1, h2⟩ := h; exact ⟨D, h1.kept hg hne, h2⟩
theorem MapQ.kept {w w' : World} {b n : Nat} {f : List Int → Nat} {row : Option Nat} (h : MapQ w b n f) (hg : w.grownBy w' row) (hne : some b ≠ row) : MapQ w' b n f := by
  obtain ⟨D, h1, h2⟩ := h; exact ⟨D, h1.kept hg hne, h2⟩
theorem MapT.below {w w' : World} {b n C : Nat} {f : List Int → Nat} (h : MapT w b n f) (hb : Below C w w') (hC : b < C) : MapT w' b n f := by
  obtain ⟨D, h1, h2⟩ := h
  obtain ⟨es, clock, h3, r⟩ := h1
  exact ⟨D, ⟨es, clock, (hb.block b hC).trans h3, r⟩, h2⟩
theorem MapQ.below {w w' : World} {b n C : Nat} {f : List Int → Nat} (h : MapQ w b n f) (hb : Below C w w') (hC : b < C) : MapQ w' b n f := by
  obtain ⟨D, h1, h2⟩ := h
  obtain ⟨es, clock, h3, r⟩ := h1
  exact ⟨D, ⟨es, clock, (hb.block b hC).trans h3, r⟩, h2⟩
/-- The two maps are two blocks. -/
theorem MapT.store {w' : World} {b n : Nat} {f : List Int → Nat} {D : DataW Unit} {r : List Int} {c : Nat} (h : w'.ownsMap Tryz.prog 123 (plainElem Tryz.prog 3) b (n + 1) (D.put (klS r) (.lit (.int .i64 (c : Int))))) (hr : S6 r) (hD : Maps.IsMap D)
    (h2 : ∀ x, S6 x → D.atKey (klS x) (.lit (.int .i64 0)) = .lit (.int .i64 (f x : Int))) : MapT w' b (n + 1) (fun x => if x = r then c else f x) := by
  refine ⟨_, h, fun x hx => ?_⟩
  by_cases hxr : x = r
  · subst hxr
    have hkk := @klS_key x hr
    rw [Go.Maps.atKey_put_same (k := klS x) hD hkk]; simp
  · rw [Go.Maps.atKey_put_other (fun e => hxr (klS_inj hx hr e))]
    simpa only [if_neg hxr] using h2 x hx
theorem MapQ.store {w' : World} {b n : Nat} {f : List Int → Nat} {D : DataW Unit} {r : List Int} {c : Nat} (h : w'.ownsMap Tryz.prog 119 (plainElem Tryz.prog 3) b (n + 1) (D.put (klR r) (.lit (.int .i64 (c : Int))))) (hr : R5 r) (hD : Maps.IsMap D) (hc : c ≠ 0)
    (h2 : ∀ x, R5 x → Maps.has D (klR x) = decide (f x ≠ 0) ∧ D.atKey (klR x) (.lit (.int .i64 0)) = .lit (.int .i64 (f x : Int))) : MapQ w' b (n + 1) (fun x => if x = r then c else f x) := by
  refine ⟨_, h, fun x hx => ?_⟩
  by_cases hxr : x = r
  · subst hxr
    have hkk := @klR_key x hr
    rw [Go.Maps.has_put_same (k := klR x) hD hkk, Go.Maps.atKey_put_same (k := klR x) hD hkk]
    simp [hc]
  · rw [Go.Maps.has_put_other (fun e => hxr (klR_inj hx hr e)), Go.Maps.atKey_put_other (fun e => hxr (klR_inj hx hr e))]
    simpa only [if_neg hxr] using h2 x hx
section
variable (w : World) {ops : Array Oper} {rest : List Oper} {o : Oper} {a : Act} {Q : Exit → Act → World → Prop}
end
end Go.Proofs.YtnbjcelfdppkcadGreat
namespace Go.Proofs.YtnbjcelfdppkcadGreat

/-- By the first value that differs; the shorter one first. -/
def lessR : List Int → List Int → Bool
  | [], [] => false
  | [], _ :: _ => true
  | _ :: _, [] => false
  | a :: s1, b :: bs => if a = b then lessR s1 bs else decide (a < b)
theorem lessR_irrefl (a : List Int) : lessR a a = false := by
  induction a with
  | nil => rfl
  | cons x t ih => simp [lessR, ih]
theorem lessR_trans : ∀ (a b c : List Int), lessR a b = true → lessR b c = true → lessR a c = true
  | [], b, c, h1, h2 => by
    cases c with
    | nil => cases b <;> simp [lessR] at h1 h2
    | cons => rfl
  | x :: s1, [], c, h1, _ => by simp [lessR] at h1
  | x :: s1, y :: bs, [], _, h2 => by simp [lessR] at h2
  | x :: s1, y :: bs, z :: cs, h1, h2 => by
    unfold lessR at *
    by_cases hxy : x = y
    · subst hxy
      rw [if_pos rfl] at h1
      by_cases hxz : x = z
      · subst hxz; rw [if_pos rfl] at *; exact lessR_trans s1 bs cs h1 h2
      · rw [if_neg hxz] at *; exact h2
    · rw [if_neg hxy] at h1
      by_cases hyz : y = z
      · subst hyz; rw [if_neg hxy]; exact h1
      · rw [if_neg hyz] at h2
        simp only [decide_eq_true_eq] at h1 h2
        rw [if_neg (by omega)]
        simp only [decide_eq_true_eq]; omega
theorem lessR_total : ∀ (a b : List Int), lessR a b = false → lessR b a = false → a = b
  | [], [], _, _ => rfl
  | [], _ :: _, h, _ => by simp [lessR] at h
  | _ :: _, [], _, h => by simp [lessR] at h
  | x :: s1, y :: bs, h1, h2 => by
    unfold lessR at h1 h2
    by_cases hxy : x = y
    · subst hxy
      rw [if_pos rfl] at h1 h2
      rw [lessR_total s1 bs h1 h2]
    · rw [if_neg hxy] at h1
      rw [if_neg (fun e => hxy e.symm)] at h2
      simp only [decide_eq_false_iff_not] at h1 h2
      omega
theorem lessR_asymm {a b : List Int} (h : lessR a b = true) : lessR b a = false := by
  cases hb : lessR b a with
  | false => rfl
  | true => have := lessR_trans a b a h hb; rw [lessR_irrefl] at this; cases this
/-- In order, no two equal. -/
def Asc (l : List (List Int)) : Prop := l.Pairwise fun a b => lessR a b = true
theorem asc_unique : ∀ (a b : List (List Int)), Asc a → Asc b → (∀ x, x ∈ a ↔ x ∈ b) → a = b
  | [], [], _, _, _ => rfl
  | [], y :: bs, _, _, h => by have := (h y).2 (by simp); cases this
  | x :: s1, [], _, _, h => by have := (h x).1 (by simp); cases this
  | x :: s1, y :: bs, ha, hb, h => by
    unfold Asc at ha hb
    rw [List.pairwise_cons] at ha hb
    have hxy : x = y := by
      have h1 := (h x).1 (by simp)
      have h2 := (h y).2 (by simp)
      rw [List.mem_cons] at h1 h2
      rcases h1 with h1 | h1
      · exact h1
      · rcases h2 with h2 | h2
        · exact h2.symm
        · have e1 := ha.1 y h2
          have e2 := hb.1 x h1
          rw [lessR_asymm e1] at e2; cases e2
    subst hxy
    have hx1 : ∀ z ∈ s1, z ≠ x := fun z hz e => by have := ha.1 z hz; rw [e, lessR_irrefl] at this; cases this
    have hx2 : ∀ z ∈ bs, z ≠ x := fun z hz e => by have := hb.1 z hz; rw [e, lessR_irrefl] at this; cases this
    rw [asc_unique s1 bs ha.2 hb.2 fun z => ⟨fun hz => by
      have := (h z).1 (by simp [hz])
      rw [List.mem_cons] at this
      exact this.resolve_left (hx1 z hz), fun hz => by
      have := (h z).2 (by simp [hz])
      rw [List.mem_cons] at this
      exact this.resolve_left (hx2 z hz)⟩]
/-- The place of a row in a list in order. -/
def insR (x : List Int) : List (List Int) → List (List Int)
  | [] => [x]
  | y :: t => if lessR x y = true then x :: y :: t else if lessR y x = true then y :: insR x t else y :: t
theorem insR_mem (x z : List Int) (l : List (List Int)) : z ∈ insR x l ↔ z = x ∨ z ∈ l := by
  induction l with
  | nil => simp [insR]
  | cons y t ih =>
    unfold insR
    by_cases h1 : lessR x y = true
    · rw [if_pos h1]; simp
    · rw [if_neg h1]
      by_cases h2 : lessR y x = true
      · rw [if_pos h2, List.mem_cons, ih, List.mem_cons]
        constructor
        · rintro (h | h | h)
          · exact .inr (.inl h)
          · exact .inl h
          · exact .inr (.inr h)
        · rintro (h | h | h)
          · exact .inr (.inl h)
          · exact .inl h
          · exact .inr (.inr h)
      · rw [if_neg h2]
        have e : x = y := lessR_total x y (by simpa using h1) (by simpa using h2)
        subst e; simp
theorem insR_asc (x : List Int) (l : List (List Int)) (h : Asc l) : Asc (insR x l) := by
  induction l with
  | nil => exact List.pairwise_singleton _ _
  | cons y t ih =>
    unfold Asc at h
    rw [List.pairwise_cons] at h
    unfold insR
    by_cases h1 : lessR x y = true
    · rw [if_pos h1]
      unfold Asc
      rw [List.pairwise_cons, List.pairwise_cons]
      refine ⟨fun z hz => ?_, h⟩
      rw [List.mem_cons] at hz
      rcases hz with rfl | hz
      · exact h1
      · exact lessR_trans _ _ _ h1 (h.1 z hz)
    · rw [if_neg h1]
      by_cases h2 : lessR y x = true
      · rw [if_pos h2]
        unfold Asc
        rw [List.pairwise_cons]
        refine ⟨fun z hz => ?_, ih h.2⟩
        rw [insR_mem] at hz
        rcases hz with rfl | hz
        · exact h2
        · exact h.1 z hz
      · rw [if_neg h2]
        unfold Asc
        rw [List.pairwise_cons]; exact h
/-- The different rows, in order. -/
def onceL (l : List (List Int)) : List (List Int) := l.foldr insR []
theorem onceL_mem (l : List (List Int)) (z : List Int) : z ∈ onceL l ↔ z ∈ l := by
  induction l with
  | nil => simp [onceL]
  | cons x t ih => unfold onceL at *; rw [List.foldr_cons, insR_mem, ih, List.mem_cons]
theorem onceL_asc (l : List (List Int)) : Asc (onceL l) := by
  induction l with
  | nil => exact List.Pairwise.nil
  | cons x t ih => unfold onceL at *; rw [List.foldr_cons]; exact insR_asc _ _ ih
theorem onceL_eq {l m : List (List Int)} (h1 : Asc m) (h2 : ∀ z, z ∈ m ↔ z ∈ l) : m = onceL l :=
  asc_unique m (onceL l) h1 (onceL_asc l) fun z => by rw [h2, onceL_mem]
theorem insR_len (x : List Int) (l : List (List Int)) : (insR x l).length ≤ l.length + 1 := by
  induction l with
  | nil => simp [insR]
  | cons y t ih =>
    unfold insR
    split
    · simp
    · split
      · simp; exact ih
      · simp
theorem onceL_len (l : List (List Int)) : (onceL l).length ≤ l.length := by
  induction l with
  | nil => simp [onceL]
  | cons x t ih => unfold onceL at *; rw [List.foldr_cons, List.length_cons]; have := insR_len x (t.foldr insR []); omega
theorem onceL_rows {l : List (List Int)} {n : Nat} (h : ∀ r ∈ l, r.length = n) : ∀ r ∈ onceL l, r.length = n := fun r hr => h r ((onceL_mem l r).1 hr)

/-! ### Two lists in order, s1 one: rows beside their values -/
def mergeP : List (Value × List Int) → List (Value × List Int) → List (Value × List Int)
  | [], bs => bs
  | a :: s1, [] => a :: s1
  | a :: s1, b :: bs => if lessR a.2 b.2 = true then a :: mergeP s1 (b :: bs) else if lessR b.2 a.2 = true then b :: mergeP (a :: s1) bs else mergeP (a :: s1) bs
termination_by la lb => la.length + lb.length
theorem mergeP_nil_left (bs : List (Value × List Int)) : mergeP [] bs = bs := by unfold mergeP; rfl
theorem mergeP_nil_right (s1 : List (Value × List Int)) : mergeP s1 [] = s1 := by cases s1 <;> (unfold mergeP; rfl)
theorem mergeP_cons (a b : Value × List Int) (s1 bs : List (Value × List Int)) : mergeP (a :: s1) (b :: bs) = if lessR a.2 b.2 = true then a :: mergeP s1 (b :: bs) else if lessR b.2 a.2 = true then b :: mergeP (a :: s1) bs else mergeP (a :: s1) bs := by
  rw [mergeP]
theorem mergeP_mem : ∀ (s1 bs : List (Value × List Int)) (z : Value × List Int), z ∈ mergeP s1 bs → z ∈ s1 ∨ z ∈ bs
  | [], bs, z, h => by rw [mergeP_nil_left] at h; exact .inr h
  | a :: s1, [], z, h => by rw [mergeP_nil_right] at h; exact .inl h
  | a :: s1, b :: bs, z, h => by
    rw [mergeP_cons] at h
    split at h
    · rw [List.mem_cons] at h
      rcases h with rfl | h
      · exact .inl (by simp)
      · exact (mergeP_mem s1 (b :: bs) z h).imp (fun h => by simp [h]) id
    · split at h
      · rw [List.mem_cons] at h
        rcases h with rfl | h
        · exact .inr (by simp)
        · exact (mergeP_mem (a :: s1) bs z h).imp id (fun h => by simp [h])
      · exact (mergeP_mem (a :: s1) bs z h).imp id (fun h => by simp [h])
termination_by s1 bs => s1.length + bs.length
def AscP (l : List (Value × List Int)) : Prop := l.Pairwise fun a b => lessR a.2 b.2 = true
theorem mergeP_asc : ∀ (s1 bs : List (Value × List Int)), AscP s1 → AscP bs → AscP (mergeP s1 bs)
  | [], bs, _, hb => by rw [mergeP_nil_left]; exact hb
  | a :: s1, [], ha, _ => by rw [mergeP_nil_right]; exact ha
  | a :: s1, b :: bs, ha, hb => by
    have ha' := ha
    have hb' := hb
    unfold AscP at ha' hb'
    rw [List.pairwise_cons] at ha' hb'
    rw [mergeP_cons]
    by_cases h1 : lessR a.2 b.2 = true
    · rw [if_pos h1]
      unfold AscP
      rw [List.pairwise_cons]
      refine ⟨fun z hz => ?_, mergeP_asc s1 (b :: bs) ha'.2 hb⟩
      rcases mergeP_mem s1 (b :: bs) z hz with h | h
      · exact ha'.1 z h
      · rw [List.mem_cons] at h
        rcases h with rfl | h
        · exact h1
        · exact lessR_trans _ _ _ h1 (hb'.1 z h)
    · rw [if_neg h1]
      by_cases h2 : lessR b.2 a.2 = true
      · rw [if_pos h2]
        unfold AscP
        rw [List.pairwise_cons]
        refine ⟨fun z hz => ?_, mergeP_asc (a :: s1) bs ha hb'.2⟩
        rcases mergeP_mem (a :: s1) bs z hz with h | h
        · rw [List.mem_cons] at h
          rcases h with rfl | h
          · exact h2
          · exact lessR_trans _ _ _ h2 (ha'.1 z h)
        · exact hb'.1 z h
      · rw [if_neg h2]; exact mergeP_asc (a :: s1) bs ha hb'.2
termination_by s1 bs => s1.length + bs.length
theorem mergeP_rows : ∀ (s1 bs : List (Value × List Int)) (x : List Int), (x ∈ (mergeP s1 bs).map (·.2)) ↔ x ∈ s1.map (·.2) ∨ x ∈ bs.map (·.2)
  | [], bs, x => by rw [mergeP_nil_left]; simp
  | a :: s1, [], x => by rw [mergeP_nil_right]; simp
  | a :: s1, b :: bs, x => by
    rw [mergeP_cons]
    by_cases h1 : lessR a.2 b.2 = true
    · rw [if_pos h1]
      have ih := mergeP_rows s1 (b :: bs) x
      simp only [List.map_cons, List.mem_cons] at ih ⊢
      rw [ih]
      constructor
      · rintro (h | h | h | h)
        · exact .inl (.inl h)
        · exact .inl (.inr h)
        · exact .inr (.inl h)
        · exact .inr (.inr h)
      · rintro ((h | h) | h | h)
        · exact .inl h
        · exact .inr (.inl h)
        · exact .inr (.inr (.inl h))
        · exact .inr (.inr (.inr h))
    · rw [if_neg h1]
      have ih := mergeP_rows (a :: s1) bs x
      by_cases h2 : lessR b.2 a.2 = true
      · rw [if_pos h2]
        simp only [List.map_cons, List.mem_cons] at ih ⊢
        rw [ih]
        constructor
        · rintro (h | (h | h) | h)
          · exact .inr (.inl h)
          · exact .inl (.inl h)
          · exact .inl (.inr h)
          · exact .inr (.inr h)
        · rintro ((h | h) | h | h)
          · exact .inr (.inl (.inl h))
          · exact .inr (.inl (.inr h))
          · exact .inl h
          · exact .inr (.inr h)
      · have e := lessR_total _ _ (by simpa using h1) (by simpa using h2)
        rw [if_neg h2]
        simp only [List.map_cons, List.mem_cons] at ih ⊢
        rw [ih]
        constructor
        · rintro ((h | h) | h)
          · exact .inl (.inl h)
          · exact .inl (.inr h)
          · exact .inr (.inr h)
        · rintro ((h | h) | h | h)
          · exact .inl (.inl h)
          · exact .inl (.inr h)
          · exact .inl (.inl (by rw [h, e]))
          · exact .inr h
termination_by s1 bs => s1.length + bs.length
theorem mergeP_pair {R : Value × List Int → Value × List Int → Prop} : ∀ (s1 bs : List (Value × List Int)), s1.Pairwise R → bs.Pairwise R → (∀ x ∈ s1, ∀ y ∈ bs, R x y ∧ R y x) → (mergeP s1 bs).Pairwise R
  | [], bs, _, hb, _ => by rw [mergeP_nil_left]; exact hb
  | a :: s1, [], ha, _, _ => by rw [mergeP_nil_right]; exact ha
  | a :: s1, b :: bs, ha, hb, hab => by
    have ha' := ha
    have hb' := hb
    rw [List.pairwise_cons] at ha' hb'
    rw [mergeP_cons]
    split
    · rw [List.pairwise_cons]
      refine ⟨fun z hz => ?_, mergeP_pair s1 (b :: bs) ha'.2 hb (fun x hx y hy => hab x (by simp [hx]) y hy)⟩
      rcases mergeP_mem s1 (b :: bs) z hz with h | h
      · exact ha'.1 z h
      · exact (hab a (by simp) z h).1
    · split
      · rw [List.pairwise_cons]
        refine ⟨fun z hz => ?_, mergeP_pair (a :: s1) bs ha hb'.2 (fun x hx y hy => hab x hx y (by simp [hy]))⟩
        rcases mergeP_mem (a :: s1) bs z hz with h | h
        · exact (hab z h b (by simp)).2
        · exact hb'.1 z h
      · exact mergeP_pair (a :: s1) bs ha hb'.2 (fun x hx y hy => hab x hx y (by simp [hy]))
termination_by s1 bs => s1.length + bs.length
theorem mergeP_len : ∀ (s1 bs : List (Value × List Int)), (mergeP s1 bs).length ≤ s1.length + bs.length
  | [], bs => by rw [mergeP_nil_left]; simp
  | a :: s1, [] => by rw [mergeP_nil_right]; simp
  | a :: s1, b :: bs => by
    rw [mergeP_cons]
    split
    · have := mergeP_len s1 (b :: bs); simp at *; omega
    · split
      · have := mergeP_len (a :: s1) bs; simp at *; omega
      · have := mergeP_len (a :: s1) bs; simp at *; omega
termination_by s1 bs => s1.length + bs.length
end Go.Proofs.YtnbjcelfdppkcadGreat
