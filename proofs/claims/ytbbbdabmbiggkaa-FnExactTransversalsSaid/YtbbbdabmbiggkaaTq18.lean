/- Texts of this claim, merged: ArS, TpT, FltI, CvA. Conditions: as stated. -/
import Derived.Test.YtbbbdabmbiggkaaTq10
import Derived.Test.YtbbbdabmbiggkaaTq13
import Derived.Test.YtbbbdabmbiggkaaTpHm
import Derived.Maps.AppendAt
import Derived.Test.YtbbbdabmbiggkaaTq11
import Derived.Test.YtbbbdabmbiggkaaTq15
import Derived.Deep.Quiet
import Derived.Deep.RegionLaw
namespace Go.Proofs.Ytbbbdabmbiggkaa
open Go.RowKit

def IxOkS (b : Bool) (i : Int) : Prop := (b = true → 0 ≤ i) ∧ (b = false → i = -1)
theorem keepS {w w' : World} {p : Addr} {v : Value} (h : w.cell? p = some v) (b : Below w.heap.size w w') : w'.cell? p = some v := (b.cell (World.block_lt_of_cell? w _ h)).trans h
theorem oneS (w : World) (T : TypeId) (a : Value) : (w.alloc (.cells #[a] T)).cell? ⟨w.heap.size, 0, none⟩ = some a := World.cell?_alloc_mark w #[a] T (0, 0) 0
theorem any_noS {α : Type} (p : α → Bool) (l : List α) (d : α) (k : Nat) (h : k < l.length) (h0 : (l.take k).any p = false) (h1 : p (l.getD k d) = false) : (l.take (k + 1)).any p = false := by
  rw [List.take_succ_eq_append_getElem h, List.any_append, h0]
  rw [List.getD_eq_getElem?_getD, List.getElem?_eq_getElem h] at h1
  simpa using h1
theorem any_yesS {α : Type} (p : α → Bool) (l : List α) (d : α) (k : Nat) (h : k < l.length) (h1 : p (l.getD k d) = true) : l.any p = true := by
  rw [List.getD_eq_getElem?_getD, List.getElem?_eq_getElem h] at h1
  exact List.any_eq_true.2 ⟨_, List.getElem_mem h, h1⟩
section
set_option maxRecDepth 20000
set_option maxHeartbeats 3200000
theorem indexNo_any (v c1 : Value) (p : Int → Bool) (l : List Int) (w : World) (hr : ReadI w v l) (hl : l.length ≤ 1048576)
    (HP : ∀ x, x ∈ l → ∀ w', Below w.heap.size w w' → Calls Try.prog 51 #[.int .i64 x, c1] w' fun e w'' => e = .returned (.bool (p x)) ∧ Below w'.heap.size w' w'') :
    Calls Try.prog 71 #[v, .func (.func 51) #[] #[c1]] w fun e w' => ∃ i, e = .returned (.int .i64 i) ∧ IxOkS (l.any p) i ∧ Below w.heap.size w w' := by
  have HQ := Lib.hid HP
  obtain ⟨a, cap, rfl, ha⟩ := hr
  have HA := Lib.hid ha
  clear ha HP
  go_enter Try.func71, Try.ntmps71
  go_wp2_with fail
  go_loopw [8] (fun iv wr => ∃ (k : Nat), k ≤ l.length ∧ iv = .int .i64 (k : Int) ∧ Hid ((l.take k).any p = false) ∧ Below w.heap.size w wr) (fun iv _ => l.length - (intOf iv).toNat)
  case atStart => exact ⟨0, by omega, rfl, Lib.hid rfl, Below.refl _ _⟩
  case round =>
    obtain ⟨k, hk, rfl, hno, hb⟩ := hrel
    by_cases hlt : k < l.length
    · obtain ⟨x0, rfl, hx⟩ := HA.out k hlt
      replace hx := (hb.cell (World.block_lt_of_cell? w _ hx)).trans hx
      have hm : l[k] ∈ l := List.getElem_mem hlt
      have hgd : l.getD k 0 = l[k] := by rw [List.getD_eq_getElem?_getD, List.getElem?_eq_getElem hlt]; rfl
      have HNO := Lib.hid (any_noS p l 0 k hlt hno.out)
      have HYE := Lib.hid (any_yesS p l 0 k hlt)
      rw [hgd] at HNO HYE
      obtain ⟨y, hy⟩ : ∃ y, y = l[k] := ⟨_, rfl⟩
      rw [← hy] at hx hm HNO HYE
      have HC := Lib.hid (HQ.out y hm)
      have HB := Lib.hid hb
      clear hy hm hb hgd
      have z0 : (0 : Int) ≤ (k : Int) := by omega
      have z1 : (k : Int) < (l.length : Int) := by omega
      cases hp : p y with
      | true =>
        have HE := Lib.hid (HYE.out hp)
        rw [hp] at HC
        clear hp
        go_wp2_with fail
        refine (HC.out _ HB.out).mono ?_
        rintro e w1 ⟨rfl, b1⟩
        have hb1 := HB.out.trans (b1.mono HB.out.size)
        clear b1 hx
        go_wp2_with fail
        go_ret
        exact ⟨_, rfl, ⟨fun _ => (by omega), fun h => absurd h (by rw [HE.out]; decide)⟩, hb1⟩
      | false =>
        have HE := Lib.hid (HNO.out hp)
        rw [hp] at HC
        clear hp
        go_wp2_with fail
        refine (HC.out _ HB.out).mono ?_
        rintro e w1 ⟨rfl, b1⟩
        have hb1 := HB.out.trans (b1.mono HB.out.size)
        clear b1 hx
        go_wp2_with fail
        go_roundw
        case rel => exact ⟨k + 1, by omega, by go_num, HE, hb1⟩
        case measure => simp [intOf]; omega
    · obtain rfl : k = l.length := by omega
      go_wp2_with fail
      go_ret
      exact ⟨_, rfl, ⟨fun h => absurd h (by have := hno.out; rw [List.take_length] at this; rw [this]; decide), fun _ => rfl⟩, hb⟩
theorem containsNo_any (v c1 : Value) (p : Int → Bool) (l : List Int) (w : World) (hr : ReadI w v l) (hl : l.length ≤ 1048576)
    (HP : ∀ x, x ∈ l → ∀ w', Below w.heap.size w w' → Calls Try.prog 51 #[.int .i64 x, c1] w' fun e w'' => e = .returned (.bool (p x)) ∧ Below w'.heap.size w' w'') :
    Calls Try.prog 50 #[v, .func (.func 51) #[] #[c1]] w fun e w' => e = .returned (.bool (l.any p)) ∧ Below w.heap.size w w' := by
  have HI := Lib.hid (indexNo_any v c1 p l w hr hl HP)
  clear hr HP
  go_enter Try.func50, Try.ntmps50
  go_wp2_with fail
  refine HI.out.mono ?_
  rintro e w' ⟨i, rfl, hi, hb⟩
  have HX : Hid (l.any p = decide (0 ≤ i)) := Lib.hid (by
    cases h : l.any p with
    | true => exact (decide_eq_true (hi.1 h)).symm
    | false => rw [hi.2 h]; rfl)
  clear hi
  go_wp2_with fail
  go_ret
  exact ⟨ret_b HX.out, hb⟩
theorem noSet_any (n x : Int) (hx : -9223372036854775808 ≤ x ∧ x ≤ 9223372036854775807) (b : Nat) (w : World) (h0 : w.cell? ⟨b, 0, none⟩ = some (.int .i64 n)) :
    Calls Try.prog 51 #[.int .i64 x, .pointer (some ⟨b, 0, none⟩)] w fun e w' => e = .returned (.bool (!isA n x)) ∧ Below w.heap.size w w' := by
  have HH := Lib.hid (fun w' => implIsA_any n x hx.1 hx.2 w')
  obtain ⟨q, hq⟩ : ∃ q, q = isA n x := ⟨_, rfl⟩
  rw [← hq] at HH ⊢
  clear hq
  go_enter Try.func51, Try.ntmps51
  go_wp2_with fail
  refine (HH.out _).mono ?_
  rintro e w2 ⟨rfl, b2⟩
  clear h0
  go_wp2_with fail
  go_ret
  exact ⟨rfl, b2⟩
theorem areSets_any (v : Value) (n : Int) (ag : List Int) (hbd : I64s ag) (w : World) (hr : ReadI w v ag) (hl : ag.length ≤ 1048576) :
    Calls Try.prog 26 #[.int .i64 n, v] w fun e w' => e = .returned (.bool (decide (0 ≤ n ∧ n ≤ 5) && ag.all (isA n))) ∧ Below w.heap.size w w' := by
  have hb1 := (Below.refl w.heap.size w).alloc (Nat.le_refl _) (.cells #[.int .i64 n] 3)
  have c0 := oneS w 3 (.int .i64 n)
  have HB1 := Lib.hid hb1
  have HCC := Lib.hid (fun w' => colCount_any n w')
  have HNO := Lib.hid (fun w' (hb : Below w.heap.size w w') (k0 : w'.cell? ⟨w.heap.size, 0, none⟩ = some (.int .i64 n)) => containsNo_any v (.pointer (some ⟨w.heap.size, 0, none⟩)) (fun x => !isA n x) ag w' (hr.kept hb) hl
    (fun x hx w'' hb' => noSet_any n x (hbd x hx) w.heap.size w'' (keepS k0 hb')))
  have HE : Hid (ag.all (isA n) = !ag.any (fun x => !isA n x)) := Lib.hid (by rw [List.all_eq_not_any_not])
  obtain ⟨q, hq⟩ : ∃ q, q = ag.any (fun x => !isA n x) := ⟨_, rfl⟩
  rw [← hq] at HNO HE
  rw [HE.out]
  obtain ⟨a, cap, rfl, -⟩ := hr
  clear hq hbd hb1 HE
  by_cases hn : 0 ≤ n ∧ n ≤ 5
  · rw [decide_eq_true hn] at HCC ⊢
    clear hn
    go_enter Try.func26, Try.ntmps26
    go_wp2_with fail
    refine (HCC.out _).mono ?_
    rintro e w3 ⟨rfl, rfl⟩
    go_wp2_with fail
    refine (HNO.out _ HB1.out c0).mono ?_
    rintro e w4 ⟨rfl, b4⟩
    have HB4 := Lib.hid (HB1.out.trans (b4.mono HB1.out.size))
    clear b4 c0
    go_wp2_with fail
    go_ret
    exact ⟨ret_b (by rw [Bool.true_and]), HB4.out⟩
  · rw [decide_eq_false hn] at HCC ⊢
    clear hn
    go_enter Try.func26, Try.ntmps26
    go_wp2_with fail
    refine (HCC.out _).mono ?_
    rintro e w3 ⟨rfl, rfl⟩
    clear c0
    go_wp2_with fail
    go_ret
    exact ⟨ret_b (by rw [Bool.false_and]), HB1.out⟩
end
end Go.Proofs.Ytbbbdabmbiggkaa
namespace Go.Proofs.Ytbbbdabmbiggkaa
open Go.RowKit

theorem minS_val {l : List Int} {z : Int} (h : z ∈ minS l) : valB z = true := by
  rw [← minS_eq] at h
  unfold unsS at h
  split at h
  · obtain ⟨j, hj, -, rfl⟩ := (lstF_mem _ _).1 h
    exact val_nat hj
  · cases h
theorem grwL_val {l : List Int} {e z : Int} (h : z ∈ grwL l e) : valB z = true := by
  unfold grwL at h
  split at h
  · exact minS_val h
  · cases h
theorem trTo_val (E : List Int) : ∀ i, ∀ z ∈ trTo E i, valB z = true
  | 0, z, h => by
    have h : z ∈ [(0 : Int)] := h
    rw [List.mem_singleton.1 h]
    decide
  | _ + 1, _, h => grwL_val h
theorem trL_val {E : List Int} {n z : Int} (h : z ∈ trL E n) : valB z = true := by
  unfold trL at h
  split at h
  · exact trTo_val E _ z h
  · cases h
section
set_option maxRecDepth 20000
set_option maxHeartbeats 3200000
theorem implTrans_any (v : Value) (E : List Int) (n : Int) (w : World) (hr : ReadI w v E) (hl : E.length ≤ 1048576) (hbd : I64s E) :
    Calls Try.prog 8 #[v, .int .i64 n] w (RetI (trL E n) w) := by
  have HAS := Lib.hid (areSets_any v n E hbd w hr hl)
  have HG := Lib.hid (fun (v : Value) (l : List Int) (e : Int) w' (h : ReadI w' v l) (hl : l.length ≤ 1048576) (hb : I64s l) h0 h1 => implGrow_any v l e w' h hl hb h0 h1)
  have HBD := Lib.hid hbd
  obtain ⟨a, cap, rfl, ha⟩ := hr
  have HA := Lib.hid ha
  clear ha hbd
  by_cases h100 : E.length ≤ 100
  · have hgt : ¬ ((100 : Int) < (E.length : Int)) := by omega
    cases hq : (decide (0 ≤ n ∧ n ≤ 5) && E.all (isA n)) with
    | false =>
      rw [hq] at HAS
      have HF : Hid (trL E n = []) := Lib.hid (by
        have h : (decide ((0 ≤ n ∧ n ≤ 5) ∧ E.length ≤ 100) && E.all (isA n)) = false := by
          rw [Bool.and_eq_false_iff] at hq ⊢
          rcases hq with h | h
          · exact .inl (decide_eq_false fun h2 => (of_decide_eq_false h) h2.1)
          · exact .inr h
        unfold trL; rw [h]; rfl)
      clear hq
      go_enter Try.func8, Try.ntmps8
      go_wp2_with fail
      refine HAS.out.mono ?_
      rintro e' w1 ⟨rfl, b1⟩
      have HB1 := Lib.hid b1
      clear b1
      go_wp2_with fail
      go_ret
      exact ⟨_, rfl, by rw [HF.out]; exact World.ownsRow_nil _ _ _ _, HB1.out⟩
    | true =>
      rw [hq] at HAS
      rw [Bool.and_eq_true, decide_eq_true_iff] at hq
      have HE : Hid (trL E n = trTo E E.length) := Lib.hid (by unfold trL; rw [hq.2, decide_eq_true (show (0 ≤ n ∧ n ≤ 5) ∧ E.length ≤ 100 from ⟨hq.1, h100⟩)]; rfl)
      clear hq
      go_enter Try.func8, Try.ntmps8
      go_wp2_with fail
      refine HAS.out.mono ?_
      rintro e' w1 ⟨rfl, b1⟩
      have HO0 : Hid (OwnI (w1.alloc (.cells #[.int .i64 0] 3)) w.heap.size (.slice (some ⟨w1.heap.size, 0, none⟩) 1 1) [0]) := Lib.hid (World.ownsRow_lit w1 #[.int .i64 0] 1 b1.size (by unfold maxLen; omega) rfl)
      have HB0 : Hid (Below w.heap.size w (w1.alloc (.cells #[.int .i64 0] 3))) := Lib.hid (b1.alloc b1.size _)
      clear b1
      go_wp2_with fail
      go_loopw [5, 20] (fun ov iv wr => ∃ (i : Nat) (q : List Int), i ≤ E.length ∧ iv = .int .i64 (i : Int) ∧ Hid (q = trTo E i) ∧ Hid (OwnI wr w.heap.size ov q) ∧ Hid (Below w.heap.size w wr)) (fun _ iv _ => E.length - (intOf iv).toNat)
      case atStart => exact ⟨0, [0], by omega, rfl, Lib.hid rfl, HO0, HB0⟩
      case round =>
        clear HO0 HB0
        obtain ⟨i, q, hi, rfl, hq, HO, HB⟩ := hrel
        obtain ⟨w3, hw3⟩ : ∃ w', w' = wr := ⟨_, rfl⟩
        rw [← hw3] at HO HB ⊢
        clear hw3
        have z0 : (0 : Int) ≤ (i : Int) := by omega
        have hql : q.length ≤ 1048576 := by rw [hq.out]; have := trTo_len E i; omega
        have HQI : Hid (I64s q) := Lib.hid (by rw [hq.out]; exact setsOk_i64 (trTo_val E i))
        by_cases hlt : i < E.length
        · obtain ⟨b, rfl, hb⟩ := HA.out i hlt
          have z1 : (i : Int) < (E.length : Int) := by omega
          have HS : Hid (trTo E (i + 1) = grwL q E[i]) := Lib.hid (by rw [hq.out, get_getD E i hlt]; rfl)
          have HY := Lib.hid (HBD.out _ (List.getElem_mem hlt))
          obtain ⟨y, hy⟩ : ∃ y, y = E[i] := ⟨_, rfl⟩
          rw [← hy] at hb HS HY
          have hb3 := (HB.out.cell (World.block_lt_of_cell? _ _ hb)).trans hb
          clear hy hq hb
          go_wp2_with fail
          refine (HG.out _ q y _ HO.out.read hql HQI.out HY.out.1 HY.out.2).mono ?_
          rintro e' w5 ⟨v5, rfl, o5, b5⟩
          have HB5 := Lib.hid (HB.out.trans (b5.mono HB.out.size))
          have HO5 := Lib.hid (o5.base HB.out.size)
          clear o5 b5 hb3
          go_wp2_with fail
          go_roundw
          case rel => exact ⟨i + 1, _, by omega, by go_num, Lib.hid HS.out.symm, HO5, HB5⟩
          case measure => simp [intOf]; omega
        · obtain rfl : i = E.length := by omega
          have HX : Hid (trL E n = q) := Lib.hid (by rw [HE.out, hq.out])
          clear hq
          go_wp2_with fail
          go_ret
          exact ⟨_, rfl, by rw [HX.out]; exact HO.out, HB.out⟩
  · have hgt : (100 : Int) < (E.length : Int) := by omega
    have HF : Hid (trL E n = []) := Lib.hid (by unfold trL; rw [decide_eq_false (fun h => h100 h.2), Bool.false_and]; rfl)
    go_enter Try.func8, Try.ntmps8
    go_wp2_with fail
    go_ret
    exact ⟨_, rfl, by rw [HF.out]; exact World.ownsRow_nil _ _ _ _, Below.refl _ _⟩
end
end Go.Proofs.Ytbbbdabmbiggkaa
namespace Go.Proofs.Ytbbbdabmbiggkaa
open Go.RowKit

end Go.Proofs.Ytbbbdabmbiggkaa
namespace Go.Proofs.Ytbbbdabmbiggkaa
open Go.RowKit

set_option maxHeartbeats 1600000 in
theorem inMode_any (c m : Int) (v : Value) (ll : List (List Int)) (w : World) (hr : ReadSS w v ll) (hl : ll.length ≤ 1048576) (ht : ∀ i, i < ll.length → (ll.getD i []).length ≤ 1048576) :
    Calls Try.prog 34 #[.agg #[.int .i64 c, v], .int .i64 m] w fun e w' => e = .returned (.bool (fineT c ll m)) ∧ Below w.heap.size w w' := by
  have HO := Lib.hid (eqOf_any m)
  have hb1 := (Below.refl w.heap.size w).alloc (Nat.le_refl _) (.cells #[.int .i64 c, v] 34)
  have HV := Lib.hid (fun w' (hb : Below w.heap.size w w') => implIsTable_any c v ll w' (hr.kept hb) hl ht)
  have HB1 := Lib.hid hb1
  obtain ⟨c0, c1⟩ := zero2 w 34 (.int .i64 c) v
  obtain ⟨a, cap, rfl, -⟩ := hr
  obtain ⟨F, hF⟩ : ∃ F, eqFn m = F := ⟨_, rfl⟩
  rw [hF] at HO
  clear hb1 hF
  cases hm : modeOk m with
  | false =>
    have HE : Hid (fineT c ll m = false) := Lib.hid (by unfold fineT; rw [hm]; simp)
    rw [hm] at HO
    clear hm
    go_enter Try.func34, Try.ntmps34
    go_wp2_with fail
    refine (HO.out _).mono ?_
    rintro e w' ⟨rfl, rfl⟩
    go_wp2_with fail
    go_ret
    exact ⟨ret_b HE.out, HB1.out⟩
  | true =>
    have HE : Hid (fineT c ll m = isT c ll) := Lib.hid (by unfold fineT; rw [hm]; simp)
    rw [hm] at HO
    clear hm
    go_enter Try.func34, Try.ntmps34
    go_wp2_with fail
    refine (HO.out _).mono ?_
    rintro e w' ⟨rfl, rfl⟩
    go_wp2_with fail
    refine (HV.out _ HB1.out).mono ?_
    rintro e w2 ⟨rfl, b2⟩
    have hb2 := HB1.out.trans (b2.mono HB1.out.size)
    go_wp2_with fail
    go_ret
    exact ⟨ret_b HE.out, hb2⟩
theorem pw_next (ps : List Int) (r k : Nat) (h : k < ps.length) : (ps.take (k + 1)).map (fun S => (S, (r : Int))) = (ps.take k).map (fun S => (S, (r : Int))) ++ [(ps.getD k 0, (r : Int))] := by
  rw [take_succ_getD ps 0 k h, List.map_append]; rfl
theorem cand_len (C r : Nat) (hC : C ≤ 5) (hr : r ≤ C) : (mdOut (fun S r => !bitB S.toNat r) (parts (C : Int)) r).length ≤ 160 := by
  have h1 := mdOut_len (fun S r => !bitB S.toNat r) (parts (C : Int)) r
  have h2 := parts_len32 hC
  have h3 : r * (parts (C : Int)).length ≤ 5 * 32 := Nat.mul_le_mul (by omega) h2
  omega
end Go.Proofs.Ytbbbdabmbiggkaa
