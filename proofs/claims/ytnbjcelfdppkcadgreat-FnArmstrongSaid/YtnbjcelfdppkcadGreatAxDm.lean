/- The program's chapter 12: DepsOfAgreeSets, by contract. Conditions: as stated. -/
import Derived.Test.YtnbjcelfdppkcadGreatXz35
import Derived.Test.YtnbjcelfdppkcadGreatXz46
import Derived.Test.YtnbjcelfdppkcadGreatXz37
import Derived.Test.YtnbjcelfdppkcadGreatXz16
namespace Go.Proofs.YtnbjcelfdppkcadGreat
open Go.RowKit

set_option maxHeartbeats 1600000 in
theorem filtDA_any (c1 : Value) (p : Int × Int → Bool) (v : Value) (l : List (Int × Int)) (w : World) (hr : ReadD w v l) (hl : l.length ≤ 1048576)
    (HP : ∀ x, x ∈ l → ∀ w', Below w.heap.size w w' → Calls Tryz.prog 50 #[.agg #[.int .i64 x.1, .int .i64 x.2], c1] w' fun e w'' => e = .returned (.bool (p x)) ∧ Below w'.heap.size w' w'') :
    Calls Tryz.prog 86 #[v, .func (.func 50) #[] #[c1]] w (RetD (l.filter p) w) := by
  obtain ⟨i0, hi, hz0, hz1, hz2⟩ := info_parts infoDp
  have HI : Hid (_ ∧ _ ∧ _ ∧ _) := Lib.hid ⟨hi, hz0, hz1, hz2⟩
  clear hi hz0 hz1 hz2
  have HQ := Lib.hid HP
  have HN := Lib.hid (fun k hk => filter_next p l (0, 0) k hk)
  have HL := Lib.hid (fun k => List.length_filter_le p (l.take k))
  obtain ⟨a, cap, rfl, ha⟩ := hr
  have HA := Lib.hid ha
  clear ha HP
  go_enter Tryz.func86, Tryz.ntmps86
  go_wp2_with (at_make; refine wpList_make_own _ rfl _ _ 24 rfl w.heap.size 35 i0 (.agg #[.int .i64 0, .int .i64 0]) 2 Tryz.underlying24 HI.out.1 HI.out.2.1 HI.out.2.2.1 .i64 .i64 _ l.length rfl rfl rfl (by rw [HI.out.2.2.2]; omega) (by unfold maxLen; omega) (Nat.le_refl _) ?_; intro w0 hown0 hgrow0)
  have hb0 := (Below.refl w.heap.size w).grown hgrow0 (Nat.le_refl _) (by simp)
  have hown : OwnD w0 w.heap.size _ [] := hown0
  clear hown0 hgrow0
  go_loopw [5, 13] (fun ov iv wr => ∃ (k : Nat) (q : List (Int × Int)), k ≤ l.length ∧ iv = .int .i64 (k : Int) ∧ Hid (q = (l.take k).filter p) ∧ OwnD wr w.heap.size ov q ∧ Below w.heap.size w wr) (fun _ iv _ => l.length - (intOf iv).toNat)
  case atStart => exact ⟨0, [], by omega, rfl, Lib.hid rfl, hown, hb0⟩
  case round =>
    clear hown hb0
    obtain ⟨k, q, hk, rfl, hq, ho, hb⟩ := hrel
    by_cases hlt : k < l.length
    · obtain ⟨b, o, rfl, h0, h1⟩ := HA.out k hlt
      replace h0 := (hb.cell (World.block_lt_of_cell? w _ h0)).trans h0
      replace h1 := (hb.cell (World.block_lt_of_cell? w _ h1)).trans h1
      have hm : l.getD k (0, 0) ∈ l := by rw [List.getD_eq_getElem?_getD, List.getElem?_eq_getElem hlt]; exact List.getElem_mem hlt
      have hll : q.length ≤ 1048576 := by rw [hq.out]; have := HL.out k; rw [List.length_take] at this; omega
      have HS := Lib.hid (HN.out k hlt)
      obtain ⟨⟨y0, y1⟩, hy⟩ : ∃ y, y = l.getD k (0, 0) := ⟨_, rfl⟩
      rw [← hy] at h0 h1 HS hm
      simp only at h0 h1
      have HC := Lib.hid (HQ.out (y0, y1) hm)
      have hwb := (Below.refl wr.heap.size wr).alloc (Nat.le_refl _) (.cells #[.int .i64 y0, .int .i64 y1] 35)
      have HB := Lib.hid (hb.trans (hwb.mono hb.size))
      have HO := Lib.hid (ho.below hwb (fun k hk => (ho.lt k hk).2))
      obtain ⟨e0, e1⟩ := zero2 wr 35 (.int .i64 y0) (.int .i64 y1)
      clear hy hm ho hwb
      have z0 : (0 : Int) ≤ (k : Int) := by omega
      have z1 : (k : Int) < (l.length : Int) := by omega
      cases hp : p (y0, y1) with
      | true =>
        rw [hp] at HC HS
        rw [if_pos rfl] at HS
        clear hp
        go_wp2_with fail
        refine (HC.out _ HB.out).mono ?_
        rintro e w1 ⟨rfl, b1⟩
        replace e0 := (b1.cell (World.block_lt_of_cell? _ _ e0)).trans e0
        replace e1 := (b1.cell (World.block_lt_of_cell? _ _ e1)).trans e1
        have ho1 := HO.out.below b1 (fun k hk => (HO.out.lt k hk).2)
        have hb1 := HB.out.trans (b1.mono HB.out.size)
        clear b1
        go_wp2_with (at_builtin; refine wpList_append_own _ rfl _ _ 24 rfl w.heap.size 35 i0 (.agg #[.int .i64 0, .int .i64 0]) 2 16 Tryz.underlying24 HI.out.1 HI.out.2.1 HI.out.2.2.1 HI.out.2.2.2 rfl (by decide) _ _ _ rfl (World.ownsRow.alloc ho1 _) ⟨w1.heap.size, 0, none⟩ 1 1 [.int .i64 y0, .int .i64 y1] rfl rfl (cell_two_new _ _ _ _) (two_i64 _ _) (by unfold maxLen; omega) (by omega) (le_alloc hb1 (Nat.le_refl _) _) ?_; intro v1 w2 hown1 hgrow1 _)
        have ho2 := OwnD.snoc hown1
        have hb2 := (hb1.alloc hb1.size (.cells #[.int .i64 y0, .int .i64 y1] 35)).grown hgrow1 (by simp; have := hb1.size; omega) (fun k hk => (OwnD.lt ho1 k hk).1)
        clear hown1 hgrow1
        go_wp2_with fail
        go_roundw
        case rel => exact ⟨k + 1, _, by omega, by go_num, Lib.hid (by rw [HS.out, ← hq.out]), ho2, hb2⟩
        case measure => simp [intOf]; omega
      | false =>
        rw [hp] at HC HS
        rw [if_neg (by decide)] at HS
        clear hp
        go_wp2_with fail
        refine (HC.out _ HB.out).mono ?_
        rintro e w1 ⟨rfl, b1⟩
        replace e0 := (b1.cell (World.block_lt_of_cell? _ _ e0)).trans e0
        replace e1 := (b1.cell (World.block_lt_of_cell? _ _ e1)).trans e1
        have ho1 := HO.out.below b1 (fun k hk => (HO.out.lt k hk).2)
        have hb1 := HB.out.trans (b1.mono HB.out.size)
        clear b1
        go_wp2_with fail
        go_roundw
        case rel => exact ⟨k + 1, _, by omega, by go_num, Lib.hid (by rw [HS.out, ← hq.out]), ho1, hb1⟩
        case measure => simp [intOf]; omega
    · obtain rfl : k = l.length := by omega
      go_wp2_with fail
      go_ret
      exact ⟨_, rfl, by have := hq.out; rw [List.take_length] at this; rw [← this]; exact ho, hb⟩
set_option maxHeartbeats 1600000 in
theorem leastDA_any (c1 : Value) (p : Int × Int → Bool) (C : Nat) (hC : C ≤ 5) (w : World)
    (HP : ∀ x, x ∈ candL C → ∀ w', Below w.heap.size w w' → Calls Tryz.prog 50 #[.agg #[.int .i64 x.1, .int .i64 x.2], c1] w' fun e w'' => e = .returned (.bool (p x)) ∧ Below w'.heap.size w' w'') :
    Calls Tryz.prog 49 #[.int .i64 (C : Int), .func (.func 50) #[] #[c1]] w (RetD (uncL ((candL C).filter p)) w) := by
  have HC := Lib.hid (candOf_any C hC w)
  have hlen := candL_len C hC
  have hlf := List.length_filter_le p (candL C)
  have HF := Lib.hid (fun v w' (hb : Below w.heap.size w w') (hr : ReadD w' v (candL C)) => filtDA_any c1 p v (candL C) w' hr (by omega) (fun x hx w'' hb' => HP x hx w'' (hb.trans (hb'.mono hb.size))))
  have HU := Lib.hid (fun v w' (hr : ReadD w' v ((candL C).filter p)) => uncovered_any v ((candL C).filter p) w' hr (by omega))
  clear HP hlen hlf
  go_enter Tryz.func49, Tryz.ntmps49
  go_wp2_with fail
  refine HC.out.mono ?_
  rintro e w1 ⟨v1, rfl, o1, b1⟩
  have HG := Lib.hid (HF.out v1 w1 b1 o1.read)
  clear o1
  go_wp2_with fail
  refine HG.out.mono ?_
  rintro e w2 ⟨v2, rfl, o2, b2⟩
  have hb2 := b1.trans (b2.mono b1.size)
  have HV := Lib.hid (HU.out v2 w2 o2.read)
  clear o2 b1 b2
  go_wp2_with fail
  refine HV.out.mono ?_
  rintro e w3 ⟨v3, rfl, o3, b3⟩
  have hb3 := hb2.trans (b3.mono hb2.size)
  have o4 := o3.base hb2.size
  clear o3 b3 hb2
  go_wp2_with fail
  go_ret
  exact ⟨_, rfl, o4, hb3⟩
section
set_option maxRecDepth 20000
set_option maxHeartbeats 3200000
theorem indexEn_any (v c1 : Value) (p : Int → Bool) (l : List Int) (w : World) (hr : ReadI w v l) (hl : l.length ≤ 1048576)
    (HP : ∀ x, x ∈ l → ∀ w', Below w.heap.size w w' → Calls Tryz.prog 52 #[.int .i64 x, c1] w' fun e w'' => e = .returned (.bool (p x)) ∧ Below w'.heap.size w' w'') :
    Calls Tryz.prog 88 #[v, .func (.func 52) #[] #[c1]] w fun e w' => ∃ i, e = .returned (.int .i64 i) ∧ IxOk (l.any p) i ∧ Below w.heap.size w w' := by
  have HQ := Lib.hid HP
  obtain ⟨a, cap, rfl, ha⟩ := hr
  have HA := Lib.hid ha
  clear ha HP
  go_enter Tryz.func88, Tryz.ntmps88
  go_wp2_with fail
  go_loopw [8] (fun iv wr => ∃ (k : Nat), k ≤ l.length ∧ iv = .int .i64 (k : Int) ∧ Hid ((l.take k).any p = false) ∧ Below w.heap.size w wr) (fun iv _ => l.length - (intOf iv).toNat)
  case atStart => exact ⟨0, by omega, rfl, Lib.hid rfl, Below.refl _ _⟩
  case round =>
    obtain ⟨k, hk, rfl, hno, hb⟩ := hrel
    by_cases hlt : k < l.length
    · obtain ⟨x0, rfl, hx⟩ := HA.out k hlt
      replace hx := (hb.cell (World.block_lt_of_cell? w _ hx)).trans hx
      have hm : l[k] ∈ l := List.getElem_mem hlt
      have hgd : l.getD k 0 = l[k] := by rw [List.getD_eq_getElem?_getD, List.getElem?_eq_getElem hlt]; rfl
      have HNO := Lib.hid (any_no p l 0 k hlt hno.out)
      have HYE := Lib.hid (any_yes p l 0 k hlt)
      rw [hgd] at HNO HYE
      obtain ⟨y, hy⟩ : ∃ y, y = l[k] := ⟨_, rfl⟩
      rw [← hy] at hx hm HNO HYE
      have HC := Lib.hid (HQ.out y hm)
      have HB := Lib.hid hb
      clear hy hm hb hgd
      have z0 : (0 : Int) ≤ (k : Int) := by omega
      have z1 : (k : Int) < (l.length : Int) := by omega
      cases hp : p y with
      | true =>
        have HE := Lib.hid (HYE.out hp)
        rw [hp] at HC
        clear hp
        go_wp2_with fail
        refine (HC.out _ HB.out).mono ?_
        rintro e w1 ⟨rfl, b1⟩
        have hb1 := HB.out.trans (b1.mono HB.out.size)
        clear b1 hx
        go_wp2_with fail
        go_ret
        exact ⟨_, rfl, ⟨fun _ => (by omega), fun h => absurd h (by rw [HE.out]; decide)⟩, hb1⟩
      | false =>
        have HE := Lib.hid (HNO.out hp)
        rw [hp] at HC
        clear hp
        go_wp2_with fail
        refine (HC.out _ HB.out).mono ?_
        rintro e w1 ⟨rfl, b1⟩
        have hb1 := HB.out.trans (b1.mono HB.out.size)
        clear b1 hx
        go_wp2_with fail
        go_roundw
        case rel => exact ⟨k + 1, by omega, by go_num, HE, hb1⟩
        case measure => simp [intOf]; omega
    · obtain rfl : k = l.length := by omega
      go_wp2_with fail
      go_ret
      exact ⟨_, rfl, ⟨fun h => absurd h (by have := hno.out; rw [List.take_length] at this; rw [this]; decide), fun _ => rfl⟩, hb⟩
theorem containsEn_any (v c1 : Value) (p : Int → Bool) (l : List Int) (w : World) (hr : ReadI w v l) (hl : l.length ≤ 1048576)
    (HP : ∀ x, x ∈ l → ∀ w', Below w.heap.size w w' → Calls Tryz.prog 52 #[.int .i64 x, c1] w' fun e w'' => e = .returned (.bool (p x)) ∧ Below w'.heap.size w' w'') :
    Calls Tryz.prog 51 #[v, .func (.func 52) #[] #[c1]] w fun e w' => e = .returned (.bool (l.any p)) ∧ Below w.heap.size w w' := by
  have HI := Lib.hid (indexEn_any v c1 p l w hr hl HP)
  clear hr HP
  go_enter Tryz.func51, Tryz.ntmps51
  go_wp2_with fail
  refine HI.out.mono ?_
  rintro e w' ⟨i, rfl, hi, hb⟩
  have HX : Hid (l.any p = decide (0 ≤ i)) := Lib.hid (by
    cases h : l.any p with
    | true => exact (decide_eq_true (hi.1 h)).symm
    | false => rw [hi.2 h]; rfl)
  clear hi
  go_wp2_with fail
  go_ret
  exact ⟨ret_b HX.out, hb⟩
theorem enlSet_any (L R X : Nat) (hL : L < 32) (hR : R < 5) (hX : X < 32) (b : Nat) (w : World) (h0 : w.cell? ⟨b, 0, none⟩ = some (.int .i64 (L : Int))) (h1 : w.cell? ⟨b, 1, none⟩ = some (.int .i64 (R : Int))) :
    Calls Tryz.prog 52 #[.int .i64 (X : Int), .pointer (some ⟨b, 0, none⟩)] w fun e w' => e = .returned (.bool (subN L X && !bitB X R)) ∧ Below w.heap.size w w' := by
  have HC := Lib.hid (fun w' => enlarges10_any L R X hL hR hX w')
  go_enter Tryz.func52, Tryz.ntmps52
  go_wp2_with fail
  refine (HC.out _).mono ?_
  rintro e w2 ⟨rfl, b2⟩
  clear h0 h1
  go_wp2_with fail
  go_ret
  exact ⟨rfl, b2⟩
/-- Whether no agree set would be enlarged. -/
def noE (ag : List Int) (d : Int × Int) : Bool := !ag.any (fun a => subN d.1.toNat a.toNat && !bitB a.toNat d.2.toNat)
theorem das_g (ag : List Int) (x r : Nat) : dasG ag x r = (!bitB x r && noE ag ((x : Int), (r : Int))) := by
  unfold dasG noE
  rw [List.not_any_eq_all_not]
  congr 1
  have : (aB x r) = (fun a => !(fun a : Int => subN ((x : Int)).toNat a.toNat && !bitB a.toNat ((r : Int)).toNat) a) := by
    funext a
    show (!subN x a.toNat || bitB a.toNat r) = !(subN x a.toNat && !bitB a.toNat r)
    cases subN x a.toNat <;> cases bitB a.toNat r <;> rfl
  rw [this]
theorem enlDep_any (v : Value) (ag : List Int) (hag : ∀ a ∈ ag, ∃ X : Nat, a = (X : Int) ∧ X < 32) (L R : Nat) (hL : L < 32) (hR : R < 5) (b : Nat) (w : World) (hr : ReadI w v ag) (hl : ag.length ≤ 1048576) (h0 : w.cell? ⟨b, 0, none⟩ = some v) :
    Calls Tryz.prog 50 #[.agg #[.int .i64 (L : Int), .int .i64 (R : Int)], .pointer (some ⟨b, 0, none⟩)] w fun e w' => e = .returned (.bool (noE ag ((L : Int), (R : Int)))) ∧ Below w.heap.size w w' := by
  have hb1 := (Below.refl w.heap.size w).alloc (Nat.le_refl _) (.cells #[.int .i64 (L : Int), .int .i64 (R : Int)] 35)
  have HB := Lib.hid hb1
  obtain ⟨c0, c1⟩ := zero2 w 35 (.int .i64 (L : Int)) (.int .i64 (R : Int))
  have HC := Lib.hid (containsEn_any v (.pointer (some ⟨w.heap.size, 0, none⟩)) (fun a => subN L a.toNat && !bitB a.toNat R) ag (w.alloc (.cells #[.int .i64 (L : Int), .int .i64 (R : Int)] 35)) (hr.kept hb1) hl
    (fun x hx w' hb => by
      obtain ⟨X, rfl, hX⟩ := hag x hx
      exact enlSet_any L R X hL hR hX w.heap.size w' (keep_in c0 hb) (keep_in c1 hb)))
  replace h0 := keep_in h0 hb1
  have HE : Hid (noE ag ((L : Int), (R : Int)) = !ag.any (fun a => subN L a.toNat && !bitB a.toNat R)) := Lib.hid rfl
  obtain ⟨q, hq⟩ : ∃ q, q = ag.any (fun a => subN L a.toNat && !bitB a.toNat R) := ⟨_, rfl⟩
  rw [← hq] at HC HE
  rw [HE.out]
  obtain ⟨a, cap, rfl, -⟩ := hr
  clear hb1 c0 c1 hq hag
  go_enter Tryz.func50, Tryz.ntmps50
  go_wp2_with fail
  refine HC.out.mono ?_
  rintro e w2 ⟨rfl, b2⟩
  have hb2 := HB.out.trans (b2.mono HB.out.size)
  clear b2 h0
  go_wp2_with fail
  go_ret
  exact ⟨rfl, hb2⟩
theorem candL_at12 {C : Nat} {x : Int × Int} (h : x ∈ candL C) : ∃ L R : Nat, x = ((L : Int), (R : Int)) ∧ L < 32 ∧ R < C := by
  obtain ⟨r, r1, S, r2, -, rfl⟩ := (mdOut_mem _ _ _ _).1 h
  obtain ⟨X, rfl, hX⟩ := parts_small _ S r2
  exact ⟨X, r, rfl, hX, r1⟩
theorem implDas_any0 (v : Value) (n : Int) (ag : List Int) (hbd : I64s ag) (w : World) (hr : ReadI w v ag) (hl : ag.length ≤ 1048576) :
    Calls Tryz.prog 18 #[.int .i64 n, v] w (RetD (dasL n ag) w) := by
  have hb1 := (Below.refl w.heap.size w).alloc (Nat.le_refl _) (.cells #[v] 40)
  have c0 := one_at w 40 v
  have HB1 := Lib.hid hb1
  have HC1 := Lib.hid c0
  have HAS := Lib.hid (fun w' (hb : Below w.heap.size w w') => areSets_any v n ag hbd w' (hr.kept hb) hl)
  cases hq : (decide (0 ≤ n ∧ n ≤ 5) && ag.all (isA n)) with
  | false =>
    rw [hq] at HAS
    have HE : Hid (dasL n ag = []) := Lib.hid (by
      have h : dasOk n ag = false := by
        unfold dasOk
        cases ha : ag.all (isA n) with
        | false => rw [Bool.and_false]
        | true =>
          rw [ha, Bool.and_true, decide_eq_false_iff_not] at hq
          rw [decide_eq_false (by omega), Bool.false_and]
      unfold dasL
      rw [h]
      rfl)
    rw [HE.out]
    obtain ⟨a, cap, rfl, -⟩ := hr
    clear hq hbd hb1
    go_enter Tryz.func18, Tryz.ntmps18
    go_wp2_with fail
    refine (HAS.out _ HB1.out).mono ?_
    rintro e w4 ⟨rfl, b4⟩
    have HB4 := Lib.hid (HB1.out.trans (b4.mono HB1.out.size))
    clear b4 c0
    go_wp2_with fail
    go_ret
    exact ⟨_, rfl, OwnD.nil _ _, HB4.out⟩
  | true =>
    rw [hq] at HAS
    rw [Bool.and_eq_true, decide_eq_true_iff] at hq
    obtain ⟨hn, hall⟩ := hq
    obtain ⟨C, rfl⟩ : ∃ C : Nat, n = (C : Int) := ⟨n.toNat, by omega⟩
    have hC : C ≤ 5 := by omega
    have hag : ∀ a ∈ ag, ∃ X : Nat, a = (X : Int) ∧ X < 32 := fun a ha => by
      obtain ⟨X, e, hX, -⟩ := isA_lt12 hC (List.all_eq_true.1 hall a ha)
      exact ⟨X, e, hX⟩
    have HE : Hid (uncL ((candL C).filter (noE ag)) = dasL (C : Int) ag) := Lib.hid (by
      by_cases h0 : C = 0
      · subst h0
        unfold dasL dasOk
        rw [decide_eq_false (by omega), Bool.false_and]
        rfl
      · unfold dasL dasOk
        rw [hall, decide_eq_true (by omega), Bool.true_and, if_pos rfl]
        exact acc_unc (g := dasG ag) hC (noE ag) (fun x r _ _ => das_g ag x r))
    have HLD := Lib.hid (fun w' (hb : Below w.heap.size w w') (k0 : w'.cell? ⟨w.heap.size, 0, none⟩ = some v) => leastDA_any (.pointer (some ⟨w.heap.size, 0, none⟩)) (noE ag) C hC w'
      (fun x hx w'' hb' => by
        obtain ⟨L, R, rfl, hL, hR⟩ := candL_at12 hx
        exact enlDep_any v ag hag L R hL (by omega) w.heap.size w'' (hr.kept (hb.trans (hb'.mono hb.size))) hl (keep_in k0 hb')))
    rw [HE.out] at HLD
    obtain ⟨a, cap, rfl, -⟩ := hr
    clear hbd hb1 hn HE hag hall
    go_enter Tryz.func18, Tryz.ntmps18
    go_wp2_with fail
    refine (HAS.out _ HB1.out).mono ?_
    rintro e w4 ⟨rfl, b4⟩
    have HB4 := Lib.hid (HB1.out.trans (b4.mono HB1.out.size))
    have HC4 := Lib.hid (keep_in HC1.out b4)
    clear b4 c0 HC1
    have c0 := HC4.out
    go_wp2_with fail
    refine (HLD.out _ HB4.out c0).mono ?_
    rintro e w5 ⟨v5, rfl, o5, b5⟩
    have HB5 := Lib.hid (HB4.out.trans (b5.mono HB4.out.size))
    have HO5 := Lib.hid (o5.base HB4.out.size)
    clear b5 o5 c0
    go_wp2_with fail
    go_ret
    exact ⟨_, rfl, HO5.out, HB5.out⟩
theorem implDas_any (v : Value) (n : Int) (ag : List Int) (_w0 : (Lit.int .i64 n).wf = true) (hbd : I64s ag) (w : World) (hr : ReadI w v ag) (hl : ag.length ≤ 1048576) :
    Calls Tryz.prog 18 #[.int .i64 n, v] w (RetD (dasL n ag) w) := implDas_any0 v n ag hbd w hr hl
end
end Go.Proofs.YtnbjcelfdppkcadGreat
