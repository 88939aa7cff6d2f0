/- Texts of this claim, merged: ArS, TpT, TrS, FltI, CvA, TpK. Conditions: as stated. -/
import Derived.Test.YtnbjcelfdppkcaaGreatTc11
import Derived.Test.YtnbjcelfdppkcaaGreatTc12
import Derived.Test.YtnbjcelfdppkcaaGreatTpHm
import Derived.Test.YtnbjcelfdppkcaaGreatTc22
import Derived.Shelf.SlSortCmp.Insertion
import Derived.Test.YtnbjcelfdppkcaaGreatTc20
import Derived.Maps.AppendAt
import Derived.Test.YtnbjcelfdppkcaaGreatTc21
import Derived.Test.YtnbjcelfdppkcaaGreatTc23
import Derived.Deep.Quiet
import Derived.Deep.RegionLaw
namespace Go.Proofs.YtnbjcelfdppkcaaGreat
open Go.RowKit

def IxOkS (b : Bool) (i : Int) : Prop := (b = true → 0 ≤ i) ∧ (b = false → i = -1)
theorem keepS {w w' : World} {p : Addr} {v : Value} (h : w.cell? p = some v) (b : Below w.heap.size w w') : w'.cell? p = some v := (b.cell (World.block_lt_of_cell? w _ h)).trans h
theorem oneS (w : World) (T : TypeId) (a : Value) : (w.alloc (.cells #[a] T)).cell? ⟨w.heap.size, 0, none⟩ = some a := World.cell?_alloc_mark w #[a] T (0, 0) 0
theorem any_noS {α : Type} (p : α → Bool) (l : List α) (d : α) (k : Nat) (h : k < l.length) (h0 : (l.take k).any p = false) (h1 : p (l.getD k d) = false) : (l.take (k + 1)).any p = false := by
  rw [List.take_succ_eq_append_getElem h, List.any_append, h0]
  rw [List.getD_eq_getElem?_getD, List.getElem?_eq_getElem h] at h1
  simpa using h1
theorem any_yesS {α : Type} (p : α → Bool) (l : List α) (d : α) (k : Nat) (h : k < l.length) (h1 : p (l.getD k d) = true) : l.any p = true := by
  rw [List.getD_eq_getElem?_getD, List.getElem?_eq_getElem h] at h1
  exact List.any_eq_true.2 ⟨_, List.getElem_mem h, h1⟩
section
set_option maxRecDepth 20000
set_option maxHeartbeats 3200000
theorem indexNo_any (v c1 : Value) (p : Int → Bool) (l : List Int) (w : World) (hr : ReadI w v l) (hl : l.length ≤ 1048576)
    (HP : ∀ x, x ∈ l → ∀ w', Below w.heap.size w w' → Calls Tryz.prog 69 #[.int .i64 x, c1] w' fun e w'' => e = .returned (.bool (p x)) ∧ Below w'.heap.size w' w'') :
    Calls Tryz.prog 80 #[v, .func (.func 69) #[] #[c1]] w fun e w' => ∃ i, e = .returned (.int .i64 i) ∧ IxOkS (l.any p) i ∧ Below w.heap.size w w' := by
  have HQ := Lib.hid HP
  obtain ⟨a, cap, rfl, ha⟩ := hr
  have HA := Lib.hid ha
  clear ha HP
  go_enter Tryz.func80, Tryz.ntmps80
  go_wp2_with fail
  go_loopw [8] (fun iv wr => ∃ (k : Nat), k ≤ l.length ∧ iv = .int .i64 (k : Int) ∧ Hid ((l.take k).any p = false) ∧ Below w.heap.size w wr) (fun iv _ => l.length - (intOf iv).toNat)
  case atStart => exact ⟨0, by omega, rfl, Lib.hid rfl, Below.refl _ _⟩
  case round =>
    obtain ⟨k, hk, rfl, hno, hb⟩ := hrel
    by_cases hlt : k < l.length
    · obtain ⟨x0, rfl, hx⟩ := HA.out k hlt
      replace hx := (hb.cell (World.block_lt_of_cell? w _ hx)).trans hx
      have hm : l[k] ∈ l := List.getElem_mem hlt
      have hgd : l.getD k 0 = l[k] := by rw [List.getD_eq_getElem?_getD, List.getElem?_eq_getElem hlt]; rfl
      have HNO := Lib.hid (any_noS p l 0 k hlt hno.out)
      have HYE := Lib.hid (any_yesS p l 0 k hlt)
      rw [hgd] at HNO HYE
      obtain ⟨y, hy⟩ : ∃ y, y = l[k] := ⟨_, rfl⟩
      rw [← hy] at hx hm HNO HYE
      have HC := Lib.hid (HQ.out y hm)
      have HB := Lib.hid hb
      clear hy hm hb hgd
      have z0 : (0 : Int) ≤ (k : Int) := by omega
      have z1 : (k : Int) < (l.length : Int) := by omega
      cases hp : p y with
      | true =>
        have HE := Lib.hid (HYE.out hp)
        rw [hp] at HC
        clear hp
        go_wp2_with fail
        refine (HC.out _ HB.out).mono ?_
        rintro e w1 ⟨rfl, b1⟩
        have hb1 := HB.out.trans (b1.mono HB.out.size)
        clear b1 hx
        go_wp2_with fail
        go_ret
        exact ⟨_, rfl, ⟨fun _ => (by omega), fun h => absurd h (by rw [HE.out]; decide)⟩, hb1⟩
      | false =>
        have HE := Lib.hid (HNO.out hp)
        rw [hp] at HC
        clear hp
        go_wp2_with fail
        refine (HC.out _ HB.out).mono ?_
        rintro e w1 ⟨rfl, b1⟩
        have hb1 := HB.out.trans (b1.mono HB.out.size)
        clear b1 hx
        go_wp2_with fail
        go_roundw
        case rel => exact ⟨k + 1, by omega, by go_num, HE, hb1⟩
        case measure => simp [intOf]; omega
    · obtain rfl : k = l.length := by omega
      go_wp2_with fail
      go_ret
      exact ⟨_, rfl, ⟨fun h => absurd h (by have := hno.out; rw [List.take_length] at this; rw [this]; decide), fun _ => rfl⟩, hb⟩
theorem containsNo_any (v c1 : Value) (p : Int → Bool) (l : List Int) (w : World) (hr : ReadI w v l) (hl : l.length ≤ 1048576)
    (HP : ∀ x, x ∈ l → ∀ w', Below w.heap.size w w' → Calls Tryz.prog 69 #[.int .i64 x, c1] w' fun e w'' => e = .returned (.bool (p x)) ∧ Below w'.heap.size w' w'') :
    Calls Tryz.prog 68 #[v, .func (.func 69) #[] #[c1]] w fun e w' => e = .returned (.bool (l.any p)) ∧ Below w.heap.size w w' := by
  have HI := Lib.hid (indexNo_any v c1 p l w hr hl HP)
  clear hr HP
  go_enter Tryz.func68, Tryz.ntmps68
  go_wp2_with fail
  refine HI.out.mono ?_
  rintro e w' ⟨i, rfl, hi, hb⟩
  have HX : Hid (l.any p = decide (0 ≤ i)) := Lib.hid (by
    cases h : l.any p with
    | true => exact (decide_eq_true (hi.1 h)).symm
    | false => rw [hi.2 h]; rfl)
  clear hi
  go_wp2_with fail
  go_ret
  exact ⟨ret_b HX.out, hb⟩
theorem noSet_any (n x : Int) (hx : -9223372036854775808 ≤ x ∧ x ≤ 9223372036854775807) (b : Nat) (w : World) (h0 : w.cell? ⟨b, 0, none⟩ = some (.int .i64 n)) :
    Calls Tryz.prog 69 #[.int .i64 x, .pointer (some ⟨b, 0, none⟩)] w fun e w' => e = .returned (.bool (!isA n x)) ∧ Below w.heap.size w w' := by
  have HH := Lib.hid (fun w' => implIsA_any n x hx.1 hx.2 w')
  obtain ⟨q, hq⟩ : ∃ q, q = isA n x := ⟨_, rfl⟩
  rw [← hq] at HH ⊢
  clear hq
  go_enter Tryz.func69, Tryz.ntmps69
  go_wp2_with fail
  refine (HH.out _).mono ?_
  rintro e w2 ⟨rfl, b2⟩
  clear h0
  go_wp2_with fail
  go_ret
  exact ⟨rfl, b2⟩
theorem areSets_any (v : Value) (n : Int) (ag : List Int) (hbd : I64s ag) (w : World) (hr : ReadI w v ag) (hl : ag.length ≤ 1048576) :
    Calls Tryz.prog 51 #[.int .i64 n, v] w fun e w' => e = .returned (.bool (decide (0 ≤ n ∧ n ≤ 5) && ag.all (isA n))) ∧ Below w.heap.size w w' := by
  have hb1 := (Below.refl w.heap.size w).alloc (Nat.le_refl _) (.cells #[.int .i64 n] 3)
  have c0 := oneS w 3 (.int .i64 n)
  have HB1 := Lib.hid hb1
  have HCC := Lib.hid (fun w' => colCount_any n w')
  have HNO := Lib.hid (fun w' (hb : Below w.heap.size w w') (k0 : w'.cell? ⟨w.heap.size, 0, none⟩ = some (.int .i64 n)) => containsNo_any v (.pointer (some ⟨w.heap.size, 0, none⟩)) (fun x => !isA n x) ag w' (hr.kept hb) hl
    (fun x hx w'' hb' => noSet_any n x (hbd x hx) w.heap.size w'' (keepS k0 hb')))
  have HE : Hid (ag.all (isA n) = !ag.any (fun x => !isA n x)) := Lib.hid (by rw [List.all_eq_not_any_not])
  obtain ⟨q, hq⟩ : ∃ q, q = ag.any (fun x => !isA n x) := ⟨_, rfl⟩
  rw [← hq] at HNO HE
  rw [HE.out]
  obtain ⟨a, cap, rfl, -⟩ := hr
  clear hq hbd hb1 HE
  by_cases hn : 0 ≤ n ∧ n ≤ 5
  · rw [decide_eq_true hn] at HCC ⊢
    clear hn
    go_enter Tryz.func51, Tryz.ntmps51
    go_wp2_with fail
    refine (HCC.out _).mono ?_
    rintro e w3 ⟨rfl, rfl⟩
    go_wp2_with fail
    refine (HNO.out _ HB1.out c0).mono ?_
    rintro e w4 ⟨rfl, b4⟩
    have HB4 := Lib.hid (HB1.out.trans (b4.mono HB1.out.size))
    clear b4 c0
    go_wp2_with fail
    go_ret
    exact ⟨ret_b (by rw [Bool.true_and]), HB4.out⟩
  · rw [decide_eq_false hn] at HCC ⊢
    clear hn
    go_enter Tryz.func51, Tryz.ntmps51
    go_wp2_with fail
    refine (HCC.out _).mono ?_
    rintro e w3 ⟨rfl, rfl⟩
    clear c0
    go_wp2_with fail
    go_ret
    exact ⟨ret_b (by rw [Bool.false_and]), HB1.out⟩
end
end Go.Proofs.YtnbjcelfdppkcaaGreat
namespace Go.Proofs.YtnbjcelfdppkcaaGreat
open Go.RowKit

theorem minS_val {l : List Int} {z : Int} (h : z ∈ minS l) : valB z = true := by
  rw [← minS_eq] at h
  unfold unsS at h
  split at h
  · obtain ⟨j, hj, -, rfl⟩ := (lstF_mem _ _).1 h
    exact val_nat hj
  · cases h
theorem grwL_val {l : List Int} {e z : Int} (h : z ∈ grwL l e) : valB z = true := by
  unfold grwL at h
  split at h
  · exact minS_val h
  · cases h
theorem trTo_val (E : List Int) : ∀ i, ∀ z ∈ trTo E i, valB z = true
  | 0, z, h => by
    have h : z ∈ [(0 : Int)] := h
    rw [List.mem_singleton.1 h]
    decide
  | _ + 1, _, h => grwL_val h
theorem trL_val {E : List Int} {n z : Int} (h : z ∈ trL E n) : valB z = true := by
  unfold trL at h
  split at h
  · exact trTo_val E _ z h
  · cases h
section
set_option maxRecDepth 20000
set_option maxHeartbeats 3200000
theorem implTrans_any (v : Value) (E : List Int) (n : Int) (w : World) (hr : ReadI w v E) (hl : E.length ≤ 1048576) (hbd : I64s E) :
    Calls Tryz.prog 26 #[v, .int .i64 n] w (RetI (trL E n) w) := by
  have HAS := Lib.hid (areSets_any v n E hbd w hr hl)
  have HG := Lib.hid (fun (v : Value) (l : List Int) (e : Int) w' (h : ReadI w' v l) (hl : l.length ≤ 1048576) (hb : I64s l) h0 h1 => implGrow_any v l e w' h hl hb h0 h1)
  have HBD := Lib.hid hbd
  obtain ⟨a, cap, rfl, ha⟩ := hr
  have HA := Lib.hid ha
  clear ha hbd
  by_cases h100 : E.length ≤ 100
  · have hgt : ¬ ((100 : Int) < (E.length : Int)) := by omega
    cases hq : (decide (0 ≤ n ∧ n ≤ 5) && E.all (isA n)) with
    | false =>
      rw [hq] at HAS
      have HF : Hid (trL E n = []) := Lib.hid (by
        have h : (decide ((0 ≤ n ∧ n ≤ 5) ∧ E.length ≤ 100) && E.all (isA n)) = false := by
          rw [Bool.and_eq_false_iff] at hq ⊢
          rcases hq with h | h
          · exact .inl (decide_eq_false fun h2 => (of_decide_eq_false h) h2.1)
          · exact .inr h
        unfold trL; rw [h]; rfl)
      clear hq
      go_enter Tryz.func26, Tryz.ntmps26
      go_wp2_with fail
      refine HAS.out.mono ?_
      rintro e' w1 ⟨rfl, b1⟩
      have HB1 := Lib.hid b1
      clear b1
      go_wp2_with fail
      go_ret
      exact ⟨_, rfl, by rw [HF.out]; exact World.ownsRow_nil _ _ _ _, HB1.out⟩
    | true =>
      rw [hq] at HAS
      rw [Bool.and_eq_true, decide_eq_true_iff] at hq
      have HE : Hid (trL E n = trTo E E.length) := Lib.hid (by unfold trL; rw [hq.2, decide_eq_true (show (0 ≤ n ∧ n ≤ 5) ∧ E.length ≤ 100 from ⟨hq.1, h100⟩)]; rfl)
      clear hq
      go_enter Tryz.func26, Tryz.ntmps26
      go_wp2_with fail
      refine HAS.out.mono ?_
      rintro e' w1 ⟨rfl, b1⟩
      have HO0 : Hid (OwnI (w1.alloc (.cells #[.int .i64 0] 3)) w.heap.size (.slice (some ⟨w1.heap.size, 0, none⟩) 1 1) [0]) := Lib.hid (World.ownsRow_lit w1 #[.int .i64 0] 1 b1.size (by unfold maxLen; omega) rfl)
      have HB0 : Hid (Below w.heap.size w (w1.alloc (.cells #[.int .i64 0] 3))) := Lib.hid (b1.alloc b1.size _)
      clear b1
      go_wp2_with fail
      go_loopw [5, 20] (fun ov iv wr => ∃ (i : Nat) (q : List Int), i ≤ E.length ∧ iv = .int .i64 (i : Int) ∧ Hid (q = trTo E i) ∧ Hid (OwnI wr w.heap.size ov q) ∧ Hid (Below w.heap.size w wr)) (fun _ iv _ => E.length - (intOf iv).toNat)
      case atStart => exact ⟨0, [0], by omega, rfl, Lib.hid rfl, HO0, HB0⟩
      case round =>
        clear HO0 HB0
        obtain ⟨i, q, hi, rfl, hq, HO, HB⟩ := hrel
        obtain ⟨w3, hw3⟩ : ∃ w', w' = wr := ⟨_, rfl⟩
        rw [← hw3] at HO HB ⊢
        clear hw3
        have z0 : (0 : Int) ≤ (i : Int) := by omega
        have hql : q.length ≤ 1048576 := by rw [hq.out]; have := trTo_len E i; omega
        have HQI : Hid (I64s q) := Lib.hid (by rw [hq.out]; exact setsOk_i64 (trTo_val E i))
        by_cases hlt : i < E.length
        · obtain ⟨b, rfl, hb⟩ := HA.out i hlt
          have z1 : (i : Int) < (E.length : Int) := by omega
          have HS : Hid (trTo E (i + 1) = grwL q E[i]) := Lib.hid (by rw [hq.out, get_getD E i hlt]; rfl)
          have HY := Lib.hid (HBD.out _ (List.getElem_mem hlt))
          obtain ⟨y, hy⟩ : ∃ y, y = E[i] := ⟨_, rfl⟩
          rw [← hy] at hb HS HY
          have hb3 := (HB.out.cell (World.block_lt_of_cell? _ _ hb)).trans hb
          clear hy hq hb
          go_wp2_with fail
          refine (HG.out _ q y _ HO.out.read hql HQI.out HY.out.1 HY.out.2).mono ?_
          rintro e' w5 ⟨v5, rfl, o5, b5⟩
          have HB5 := Lib.hid (HB.out.trans (b5.mono HB.out.size))
          have HO5 := Lib.hid (o5.base HB.out.size)
          clear o5 b5 hb3
          go_wp2_with fail
          go_roundw
          case rel => exact ⟨i + 1, _, by omega, by go_num, Lib.hid HS.out.symm, HO5, HB5⟩
          case measure => simp [intOf]; omega
        · obtain rfl : i = E.length := by omega
          have HX : Hid (trL E n = q) := Lib.hid (by rw [HE.out, hq.out])
          clear hq
          go_wp2_with fail
          go_ret
          exact ⟨_, rfl, by rw [HX.out]; exact HO.out, HB.out⟩
  · have hgt : (100 : Int) < (E.length : Int) := by omega
    have HF : Hid (trL E n = []) := Lib.hid (by unfold trL; rw [decide_eq_false (fun h => h100 h.2), Bool.false_and]; rfl)
    go_enter Tryz.func26, Tryz.ntmps26
    go_wp2_with fail
    go_ret
    exact ⟨_, rfl, by rw [HF.out]; exact World.ownsRow_nil _ _ _ _, Below.refl _ _⟩
end
end Go.Proofs.YtnbjcelfdppkcaaGreat
namespace Go.Proofs.YtnbjcelfdppkcaaGreat
open Go.RowKit
open Go.Sort (insInner insOuter swp SWO PermIn SortedIn)

instance : Inhabited (Fin 32) := ⟨⟨0, by omega⟩⟩
def enc9 (x : Fin 32) : Value := .int .i64 ((x.val : Nat) : Int)
def cf9 (x y : Fin 32) : Int := (cnt ((x.val : Nat) : Int) : Int) - (cnt ((y.val : Nat) : Int) : Int)
def key9 (x : Fin 32) : Nat := cnt ((x.val : Nat) : Int) * 32 + x.val
def lk9 (x y : Fin 32) : Bool := decide (key9 x < key9 y)
theorem lt_lk (x y : Fin 32) (h : y.val < x.val) : ltOf cf9 x y = lk9 x y := by
  unfold ltOf cf9 lk9 key9
  have := x.isLt
  have := y.isLt
  rw [Bool.eq_iff_iff, decide_eq_true_iff, decide_eq_true_iff]
  omega
theorem swo9 : SWO lk9 where
  irrefl x := by unfold lk9; rw [decide_eq_false_iff_not]; omega
  trans x y z h1 h2 := by unfold lk9 at *; rw [decide_eq_true_iff] at *; omega
  ntrans x y z h1 h2 := by unfold lk9 at *; rw [decide_eq_false_iff_not] at *; omega
theorem insInner_same9 : ∀ (j : Nat) (d : Array (Fin 32)), j < d.size → (∀ p, p < j → (d[p]!).val < (d[j]!).val) → insInner (ltOf cf9) 0 j d = insInner lk9 0 j d
  | 0, d, _, _ => by unfold insInner; rfl
  | j + 1, d, hj, h => by
    unfold insInner
    rw [lt_lk _ _ (h j (by omega))]
    split
    · refine insInner_same9 j (swp d (j + 1) j) (by rw [Go.Sort.size_swp]; omega) fun p hp => ?_
      rw [Go.Sort.swp_other d (j + 1) j p (by omega) (by omega), Go.Sort.swp_right d (j + 1) j (by omega)]
      exact h p (by omega)
    · rfl
theorem insInner_at9 : ∀ (j : Nat) (d : Array (Fin 32)), j < d.size → (insInner lk9 0 j d).size = d.size ∧ (∀ q, j < q → (insInner lk9 0 j d)[q]! = d[q]!) ∧ ∀ p, p ≤ j → ∃ p', p' ≤ j ∧ (insInner lk9 0 j d)[p]! = d[p']!
  | 0, d, _ => by unfold insInner; exact ⟨rfl, fun _ _ => rfl, fun p hp => ⟨p, hp, rfl⟩⟩
  | j + 1, d, hj => by
    unfold insInner
    split
    · obtain ⟨h1, h2, h3⟩ := insInner_at9 j (swp d (j + 1) j) (by rw [Go.Sort.size_swp]; omega)
      refine ⟨h1.trans (Go.Sort.size_swp _ _ _), fun q hq => ?_, fun p hp => ?_⟩
      · rw [h2 q (by omega), Go.Sort.swp_other d (j + 1) j q (by omega) (by omega)]
      · by_cases e : p = j + 1
        · subst e
          refine ⟨j, by omega, ?_⟩
          rw [h2 (j + 1) (by omega), Go.Sort.swp_left d (j + 1) j hj (by omega)]
        · obtain ⟨p', hp', e'⟩ := h3 p (by omega)
          rw [e']
          by_cases e2 : p' = j
          · subst e2
            exact ⟨p' + 1, Nat.le_refl _, Go.Sort.swp_right d (p' + 1) p' (by omega)⟩
          · exact ⟨p', by omega, Go.Sort.swp_other d (j + 1) j p' (by omega) (by omega)⟩
    · exact ⟨rfl, fun _ _ => rfl, fun p hp => ⟨p, hp, rfl⟩⟩
theorem insOuter_same9 (b : Nat) : ∀ (n i : Nat) (d : Array (Fin 32)), b - i = n → b ≤ d.size → (∀ p q, p < q → i ≤ q → q < b → (d[p]!).val < (d[q]!).val) → insOuter (ltOf cf9) 0 b i d = insOuter lk9 0 b i d
  | 0, i, d, hn, _, _ => by rw [Go.Proofs.insOuter_stop _ _ _ _ _ (by omega), Go.Proofs.insOuter_stop _ _ _ _ _ (by omega)]
  | n + 1, i, d, hn, hb, h => by
    rw [Go.Proofs.insOuter_go _ _ _ _ _ (show i < b by omega), Go.Proofs.insOuter_go _ _ _ _ _ (show i < b by omega)]
    rw [insInner_same9 i d (by omega) fun p hp => h p i hp (Nat.le_refl _) (by omega)]
    obtain ⟨h1, h2, h3⟩ := insInner_at9 i d (by omega)
    refine insOuter_same9 b n (i + 1) _ (by omega) (by rw [h1]; exact hb) fun p q hpq hiq hq => ?_
    rw [h2 q (by omega)]
    by_cases hp : p ≤ i
    · obtain ⟨p', hp', e⟩ := h3 p hp
      rw [e]
      exact h p' q (by omega) (by omega) hq
    · rw [h2 p (by omega)]
      exact h p q hpq (by omega) hq
theorem getB {l : List (Fin 32)} {j : Nat} (h : j < l.length) : l.toArray[j]! = l[j] := by
  rw [getElem!_pos l.toArray j (by simpa using h)]
  simp
/-- The sort of an ascending list: the same members, in ascending order of the key. -/
theorem sort_key9 (L : List (Fin 32)) (h : L.Pairwise fun x y => x.val < y.val) : ∃ L' : List (Fin 32), Go.Sort.insertionSort (ltOf cf9) L.toArray 0 L.length = L'.toArray ∧ L'.Perm L ∧ L'.Pairwise fun x y => key9 x < key9 y := by
  have e : Go.Sort.insertionSort (ltOf cf9) L.toArray 0 L.length = Go.Sort.insertionSort lk9 L.toArray 0 L.length := by
    unfold Go.Sort.insertionSort
    refine insOuter_same9 L.length _ _ _ rfl (by simp) fun p q hpq _ hq => ?_
    rw [getB (by omega), getB hq]
    exact (List.pairwise_iff_getElem.1 h) p q (by omega) hq hpq
  rw [e]
  obtain ⟨⟨h1, -, h2⟩, h3⟩ := Go.Sort.insertionSort_holds swo9 L.toArray 0 L.length (Nat.zero_le _) (by simp)
  obtain ⟨d, hd⟩ : ∃ d, d = Go.Sort.insertionSort lk9 L.toArray 0 L.length := ⟨_, rfl⟩
  rw [← hd] at h1 h2 h3 ⊢
  have hs : d.size = L.length := by rw [h1]; simp
  rw [Array.extract_eq_self_of_le (by omega), Array.extract_eq_self_of_le (by simp)] at h2
  have hp : d.toList.Perm L := h2
  refine ⟨d.toList, rfl, hp, ?_⟩
  have hnd : d.toList.Nodup := hp.nodup_iff.2 (h.imp fun h1 h2 => by rw [h2] at h1; omega)
  rw [List.pairwise_iff_getElem]
  intro i j hi hj hij
  have h4 := h3 i j (Nat.zero_le _) hij (by rw [← hs]; simpa using hj)
  rw [getElem!_pos d j (by simpa using hj), getElem!_pos d i (by simpa using hi)] at h4
  unfold lk9 at h4
  rw [decide_eq_false_iff_not] at h4
  have hne : d.toList[i] ≠ d.toList[j] := fun e => by
    have := (List.pairwise_iff_getElem.1 hnd) i j hi hj hij
    exact this e
  simp only [Array.getElem_toList] at hne ⊢
  have hk : key9 d[i] ≠ key9 d[j] := fun e => hne (by
    unfold key9 at e
    have a1 := (d[i]).isLt
    have a2 := (d[j]).isLt
    apply Fin.ext
    omega)
  omega
def keyJ9 (x : Int) : Int := (cnt x : Int) * 32 + x
theorem parts_key : ∀ C : Fin 6, List.Pairwise (· < ·) ((parts ((C.val : Nat) : Int)).map keyJ9) := by decide +kernel
theorem key_back {a b : List Int} (ha : ∀ x ∈ a, 0 ≤ x ∧ x < 32) (hb : ∀ x ∈ b, 0 ≤ x ∧ x < 32) (h : a.map keyJ9 = b.map keyJ9) : a = b := by
  have e : ∀ l : List Int, (∀ x ∈ l, 0 ≤ x ∧ x < 32) → (l.map keyJ9).map (· % 32) = l := fun l hl => by
    rw [List.map_map]
    refine (List.map_congr_left fun x hx => ?_).trans (List.map_id l)
    show keyJ9 x % 32 = x
    unfold keyJ9
    have := hl x hx
    omega
  rw [← e a ha, ← e b hb, h]
/-- Those of the parts that a list has, in the order of PartsBySize. -/
def partsIn (C : Nat) (M : List Int) : List Int := (parts (C : Int)).filter fun S => decide (S ∈ M)
theorem sort_parts {C : Nat} (hC : C ≤ 5) {M : List Int} (hM : ∀ y ∈ M, ∃ X : Nat, y = (X : Int) ∧ X < 2 ^ C) {L' L : List (Fin 32)} (hL : L.map (fun x => ((x.val : Nat) : Int)) = M) (hp : L'.Perm L) (hk : L'.Pairwise fun x y => key9 x < key9 y) :
    L'.map (fun x => ((x.val : Nat) : Int)) = partsIn C M := by
  have h32 := two5 hC
  have hm : ∀ z, z ∈ L'.map (fun x => ((x.val : Nat) : Int)) ↔ z ∈ M := fun z => by rw [← hL]; exact (hp.map _).mem_iff
  have hf : ∀ z, z ∈ partsIn C M ↔ z ∈ M := fun z => by
    unfold partsIn
    rw [List.mem_filter, decide_eq_true_iff]
    refine ⟨fun h => h.2, fun h => ⟨?_, h⟩⟩
    obtain ⟨X, rfl, hX⟩ := hM z h
    exact (parts_mem hC _).2 ⟨X, hX, rfl⟩
  have hb : ∀ l : List Int, (∀ z, z ∈ l → z ∈ M) → ∀ x ∈ l, 0 ≤ x ∧ x < 32 := fun l h x hx => by
    obtain ⟨X, rfl, hX⟩ := hM x (h x hx)
    omega
  refine key_back (hb _ fun z h => (hm z).1 h) (hb _ fun z h => (hf z).1 h) (ascI_unique _ _ ?_ ?_ fun z => ?_)
  · unfold AscI
    rw [List.map_map, List.pairwise_map]
    refine hk.imp fun {x y} h => ?_
    show (cnt ((x.val : Nat) : Int) : Int) * 32 + ((x.val : Nat) : Int) < (cnt ((y.val : Nat) : Int) : Int) * 32 + ((y.val : Nat) : Int)
    unfold key9 at h
    omega
  · unfold AscI
    have h := parts_key ⟨C, by omega⟩
    rw [List.pairwise_map] at h ⊢
    exact h.filter _
  · rw [List.mem_map, List.mem_map]
    exact ⟨fun ⟨y, h1, h2⟩ => ⟨y, (hf y).2 ((hm y).1 h1), h2⟩, fun ⟨y, h1, h2⟩ => ⟨y, (hm y).2 ((hf y).1 h1), h2⟩⟩
/-- Ten chains hold all sets of five columns. -/
def chn : Fin 32 → Nat := fun x => [0, 0, 1, 0, 2, 2, 1, 0, 3, 3, 4, 3, 5, 2, 1, 0, 6, 6, 7, 6, 8, 8, 7, 6, 9, 9, 4, 3, 5, 2, 1, 0].getD x.val 0
theorem chn_fin : ∀ x y : Fin 32, chn x = chn y → subN x.val y.val = true ∨ subN y.val x.val = true := by decide +kernel
theorem chn_lt : ∀ x : Fin 32, chn x < 10 := by decide +kernel
theorem nodup_len : ∀ (n : Nat) (l : List Nat), l.Nodup → (∀ x ∈ l, x < n) → l.length ≤ n
  | 0, l, _, h => by
    cases l with
    | nil => exact Nat.le_refl _
    | cons x l => exact absurd (h x (List.mem_cons_self ..)) (by omega)
  | n + 1, l, hd, h => by
    have h1 := nodup_len n (l.erase n) (hd.erase n) fun x hx => by
      have := (hd.mem_erase_iff).1 hx
      have := h x this.2
      omega
    by_cases hm : n ∈ l
    · have := List.length_erase_of_mem hm
      omega
    · rw [List.erase_of_not_mem hm] at h1
      omega
theorem trL_ten (E : List Int) (n : Int) : (trL E n).length ≤ 10 := by
  by_cases hok : (decide ((0 ≤ n ∧ n ≤ 5) ∧ E.length ≤ 100) && E.all (isA n)) = true
  · have hmem : ∀ z, z ∈ trL E n ↔ ∃ x : Nat, x < 32 ∧ hitTo E x E.length = true ∧ z = (x : Int) ∧ ∀ y, y < 32 → hitTo E y E.length = true → subN y x = true → y = x := fun z => by rw [trL_eq hok]; exact minS_brd _ (Nat.le_refl _) z
    have hasc : AscI (trL E n) := by rw [trL_eq hok]; exact minS_asc _
    obtain ⟨L, hL⟩ : ∃ L : List (Fin 32), L.map (fun x => ((x.val : Nat) : Int)) = trL E n := by
      refine ⟨(trL E n).attach.map fun z => ⟨z.1.toNat, ?_⟩, ?_⟩
      · obtain ⟨x, h1, -, h2, -⟩ := (hmem z.1).1 z.2
        omega
      · rw [List.map_map]
        refine (List.map_congr_left fun z _ => ?_).trans (List.attach_map_subtype_val (trL E n))
        obtain ⟨x, h1, -, h2, -⟩ := (hmem z.1).1 z.2
        show ((z.1.toNat : Nat) : Int) = z.1
        omega
    rw [← hL, List.length_map]
    have h1 : (L.map chn).length ≤ 10 := nodup_len 10 _ (by
      unfold List.Nodup
      rw [List.pairwise_map]
      rw [← hL] at hasc
      unfold AscI at hasc
      rw [List.pairwise_map] at hasc
      refine hasc.imp_of_mem fun {x y} hx hy hlt he => ?_
      obtain ⟨X, hX, fX, eX, mX⟩ := (hmem ((x.val : Nat) : Int)).1 (by rw [← hL]; exact List.mem_map.2 ⟨x, hx, rfl⟩)
      obtain ⟨Y, hY, fY, eY, mY⟩ := (hmem ((y.val : Nat) : Int)).1 (by rw [← hL]; exact List.mem_map.2 ⟨y, hy, rfl⟩)
      obtain rfl : x.val = X := by omega
      obtain rfl : y.val = Y := by omega
      rcases chn_fin x y he with h | h
      · have := mY _ hX fX h
        omega
      · have := mX _ hY fY h
        omega) fun z hz => by
      obtain ⟨x, -, rfl⟩ := List.mem_map.1 hz
      exact chn_lt x
    rwa [List.length_map] at h1
  · unfold trL
    rw [if_neg hok]
    exact Nat.zero_le _
end Go.Proofs.YtnbjcelfdppkcaaGreat
namespace Go.Proofs.YtnbjcelfdppkcaaGreat
open Go.RowKit

set_option maxHeartbeats 1600000 in
theorem filtMK_any (c1 c2 : Value) (p : Int → Bool) (v : Value) (l : List Int) (w : World) (hr : ReadI w v l) (hl : l.length ≤ 1048576)
    (HP : ∀ x, x ∈ l → ∀ w', Below w.heap.size w w' → Calls Tryz.prog 18 #[.int .i64 x, c1, c2] w' fun e w'' => e = .returned (.bool (p x)) ∧ Below w'.heap.size w' w'') :
    Calls Tryz.prog 16 #[v, .func (.func 18) #[] #[c1, c2]] w (RetI (l.filter p) w) := by
  obtain ⟨i0, hi, hz0, hz1, hz2⟩ := info_parts info3i
  have HI : Hid (_ ∧ _ ∧ _ ∧ _) := Lib.hid ⟨hi, hz0, hz1, hz2⟩
  clear hi hz0 hz1 hz2
  have HQ := Lib.hid HP
  have HN := Lib.hid (fun k hk => filter_next p l 0 k hk)
  have HL := Lib.hid (fun k => List.length_filter_le p (l.take k))
  obtain ⟨a, cap, rfl, ha⟩ := hr
  have HA := Lib.hid ha
  clear ha HP
  go_enter Tryz.func16, Tryz.ntmps16
  go_wp2_with (at_make; refine wpList_make_own _ rfl _ _ 29 rfl w.heap.size 3 i0 (.int .i64 0) 1 Tryz.underlying29 HI.out.1 HI.out.2.1 HI.out.2.2.1 .i64 .i64 _ l.length rfl rfl rfl (by rw [HI.out.2.2.2]; omega) (by unfold maxLen; omega) (Nat.le_refl _) ?_; intro w0 hown0 hgrow0)
  have hb0 := (Below.refl w.heap.size w).grown hgrow0 (Nat.le_refl _) (by simp)
  have hown := OwnI.made hown0
  clear hown0 hgrow0
  go_loopw [5, 13] (fun ov iv wr => ∃ (k : Nat) (q : List Int), k ≤ l.length ∧ iv = .int .i64 (k : Int) ∧ Hid (q = (l.take k).filter p) ∧ OwnI wr w.heap.size ov q ∧ Below w.heap.size w wr) (fun _ iv _ => l.length - (intOf iv).toNat)
  case atStart => exact ⟨0, [], by omega, rfl, Lib.hid rfl, hown, hb0⟩
  case round =>
    clear hown hb0
    obtain ⟨k, q, hk, rfl, hq, ho, hb⟩ := hrel
    by_cases hlt : k < l.length
    · obtain ⟨x, rfl, hx⟩ := HA.out k hlt
      replace hx := (hb.cell (World.block_lt_of_cell? w _ hx)).trans hx
      rw [get_getD l k hlt] at hx
      have hm : l.getD k 0 ∈ l := by rw [← get_getD l k hlt]; exact List.getElem_mem hlt
      have hll : q.length ≤ 1048576 := by rw [hq.out]; have := HL.out k; rw [List.length_take] at this; omega
      have HS := Lib.hid (HN.out k hlt)
      obtain ⟨y, hy⟩ : ∃ y, y = l.getD k 0 := ⟨_, rfl⟩
      rw [← hy] at hx HS hm
      have HC := Lib.hid (HQ.out y hm)
      have HB := Lib.hid hb
      have HO := Lib.hid ho
      clear hy hm ho
      have z0 : (0 : Int) ≤ (k : Int) := by omega
      have z1 : (k : Int) < (l.length : Int) := by omega
      cases hp : p y with
      | true =>
        rw [hp] at HC HS
        rw [if_pos rfl] at HS
        clear hp
        go_wp2_with fail
        refine (HC.out _ HB.out).mono ?_
        rintro e w1 ⟨rfl, b1⟩
        have ho1 := HO.out.kept b1 (fun k hk => (HO.out.lt k hk).2)
        have hb1 := HB.out.trans (b1.mono HB.out.size)
        clear b1
        go_wp2_with (at_builtin; refine wpList_append_own _ rfl _ _ 29 rfl w.heap.size 3 i0 (.int .i64 0) 1 8 Tryz.underlying29 HI.out.1 HI.out.2.1 HI.out.2.2.1 HI.out.2.2.2 rfl (by decide) _ _ _ rfl (World.ownsRow.alloc ho1 _) ⟨w1.heap.size, 0, none⟩ 1 1 [.int .i64 y] rfl rfl (cell_one_new _ _ _) (one_i64 _) (by unfold maxLen; omega) (by omega) (le_alloc hb1 (Nat.le_refl _) _) ?_; intro v1 w2 hown1 hgrow1 _)
        have ho2 := OwnI.snoc hown1
        have hb2 := (hb1.alloc hb1.size (.cells #[.int .i64 y] 3)).grown hgrow1 (by simp; have := hb1.size; omega) (fun k hk => (OwnI.lt ho1 k hk).1)
        clear hown1 hgrow1
        go_wp2_with fail
        go_roundw
        case rel => exact ⟨k + 1, _, by omega, by go_num, Lib.hid (by rw [HS.out, ← hq.out]), ho2, hb2⟩
        case measure => simp [intOf]; omega
      | false =>
        rw [hp] at HC HS
        rw [if_neg (by decide)] at HS
        clear hp
        go_wp2_with fail
        refine (HC.out _ HB.out).mono ?_
        rintro e w1 ⟨rfl, b1⟩
        have ho1 := HO.out.kept b1 (fun k hk => (HO.out.lt k hk).2)
        have hb1 := HB.out.trans (b1.mono HB.out.size)
        clear b1
        go_wp2_with fail
        go_roundw
        case rel => exact ⟨k + 1, _, by omega, by go_num, Lib.hid (by rw [HS.out, ← hq.out]), ho1, hb1⟩
        case measure => simp [intOf]; omega
    · obtain rfl : k = l.length := by omega
      go_wp2_with fail
      go_ret
      exact ⟨_, rfl, by have := hq.out; rw [List.take_length] at this; rw [← this]; exact ho, hb⟩
end Go.Proofs.YtnbjcelfdppkcaaGreat
namespace Go.Proofs.YtnbjcelfdppkcaaGreat
open Go.RowKit

set_option maxHeartbeats 1600000 in
theorem inMode_any (c m : Int) (v : Value) (ll : List (List Int)) (w : World) (hr : ReadSS w v ll) (hl : ll.length ≤ 1048576) (ht : ∀ i, i < ll.length → (ll.getD i []).length ≤ 1048576) :
    Calls Tryz.prog 23 #[.agg #[.int .i64 c, v], .int .i64 m] w fun e w' => e = .returned (.bool (fineT c ll m)) ∧ Below w.heap.size w w' := by
  have HO := Lib.hid (eqOf_any m)
  have hb1 := (Below.refl w.heap.size w).alloc (Nat.le_refl _) (.cells #[.int .i64 c, v] 26)
  have HV := Lib.hid (fun w' (hb : Below w.heap.size w w') => implIsTable_any c v ll w' (hr.kept hb) hl ht)
  have HB1 := Lib.hid hb1
  obtain ⟨c0, c1⟩ := zero2 w 26 (.int .i64 c) v
  obtain ⟨a, cap, rfl, -⟩ := hr
  obtain ⟨F, hF⟩ : ∃ F, eqFn m = F := ⟨_, rfl⟩
  rw [hF] at HO
  clear hb1 hF
  cases hm : modeOk m with
  | false =>
    have HE : Hid (fineT c ll m = false) := Lib.hid (by unfold fineT; rw [hm]; simp)
    rw [hm] at HO
    clear hm
    go_enter Tryz.func23, Tryz.ntmps23
    go_wp2_with fail
    refine (HO.out _).mono ?_
    rintro e w' ⟨rfl, rfl⟩
    go_wp2_with fail
    go_ret
    exact ⟨ret_b HE.out, HB1.out⟩
  | true =>
    have HE : Hid (fineT c ll m = isT c ll) := Lib.hid (by unfold fineT; rw [hm]; simp)
    rw [hm] at HO
    clear hm
    go_enter Tryz.func23, Tryz.ntmps23
    go_wp2_with fail
    refine (HO.out _).mono ?_
    rintro e w' ⟨rfl, rfl⟩
    go_wp2_with fail
    refine (HV.out _ HB1.out).mono ?_
    rintro e w2 ⟨rfl, b2⟩
    have hb2 := HB1.out.trans (b2.mono HB1.out.size)
    go_wp2_with fail
    go_ret
    exact ⟨ret_b HE.out, hb2⟩
theorem pw_next (ps : List Int) (r k : Nat) (h : k < ps.length) : (ps.take (k + 1)).map (fun S => (S, (r : Int))) = (ps.take k).map (fun S => (S, (r : Int))) ++ [(ps.getD k 0, (r : Int))] := by
  rw [take_succ_getD ps 0 k h, List.map_append]; rfl
theorem cand_len (C r : Nat) (hC : C ≤ 5) (hr : r ≤ C) : (mdOut (fun S r => !bitB S.toNat r) (parts (C : Int)) r).length ≤ 160 := by
  have h1 := mdOut_len (fun S r => !bitB S.toNat r) (parts (C : Int)) r
  have h2 := parts_len32 hC
  have h3 : r * (parts (C : Int)).length ≤ 5 * 32 := Nat.mul_le_mul (by omega) h2
  omega
end Go.Proofs.YtnbjcelfdppkcaaGreat
namespace Go.Proofs.YtnbjcelfdppkcaaGreat
open Go.RowKit

theorem ktL_len (c : Int) (ll : List (List Int)) (m : Int) : (ktL c ll m).length ≤ 10 := by
  unfold ktL
  split
  · exact trL_ten _ _
  · exact Nat.zero_le _
section
set_option maxRecDepth 20000
set_option maxHeartbeats 3200000
theorem implKeysT_any (c m : Int) (v : Value) (ll : List (List Int)) (w : World) (hr : ReadSS w v ll) (hl : ll.length ≤ 1048576) (ht : ∀ i, i < ll.length → (ll.getD i []).length ≤ 1048576) (hcap : CapOk v) :
    Calls Tryz.prog 9 #[.agg #[.int .i64 c, v], .int .i64 m] w (RetI (ktL c ll m) w) := by
  obtain ⟨i0, hi, hz0, hz1, hz2⟩ := info_parts info3i
  have HI : Hid (_ ∧ _ ∧ _ ∧ _) := Lib.hid ⟨hi, hz0, hz1, hz2⟩
  clear hi hz0 hz1 hz2
  have hb1 := (Below.refl w.heap.size w).alloc (Nat.le_refl _) (.cells #[.int .i64 c, v] 26)
  have HF := Lib.hid (fun w' (hb : Below w.heap.size w w') => inMode_any c m v ll w' (hr.kept hb) hl ht)
  have HAS := Lib.hid (fun w' (hb : Below w.heap.size w w') => implAgreeSetsM_any c m v ll w' (hr.kept hb) hl ht hcap)
  have HTR := Lib.hid (fun (v : Value) (E : List Int) w' (h : ReadI w' v E) (hl : E.length ≤ 1048576) (hb : I64s E) => implTrans_any v E c w' h hl hb)
  have HB1 := Lib.hid hb1
  obtain ⟨c0, c1⟩ := zero2 w 26 (.int .i64 c) v
  obtain ⟨a, cap, rfl, -⟩ := hr
  clear hb1 ht hcap
  cases hf : fineT c ll m with
  | false =>
    have HE : Hid (ktL c ll m = []) := Lib.hid (by unfold ktL; rw [hf]; rfl)
    rw [hf] at HF
    clear hf
    go_enter Tryz.func9, Tryz.ntmps9
    go_wp2_with fail
    refine (HF.out _ HB1.out).mono ?_
    rintro e w1 ⟨rfl, b1⟩
    have HN := Lib.hid (HB1.out.trans (b1.mono HB1.out.size))
    clear b1
    go_wp2_with fail
    go_ret
    exact ⟨_, rfl, by rw [HE.out]; exact World.ownsRow_nil _ _ _ _, HN.out⟩
  | true =>
    rw [hf] at HF
    have hT := fineT_isT hf
    obtain ⟨hc1, hc5, h40⟩ := isT_bd hT
    obtain ⟨C, rfl⟩ : ∃ C : Nat, c = (C : Int) := ⟨c.toNat, by omega⟩
    have HE : Hid (ktL (C : Int) ll m = trL ((agrS (C : Int) ll m).map (coV C)) (C : Int)) := Lib.hid (by unfold ktL; rw [if_pos hf]; rfl)
    have hval : ∀ y ∈ agrS (C : Int) ll m, valB y = true := fun y hy => by
      obtain ⟨a, b, -, -, rfl⟩ := (agrS_mem9 hf (by omega) y).1 hy
      exact val_nat (agX_eq (by omega) ll m a b).2.2.1
    have hA : (agrS (C : Int) ll m).length ≤ 32 := asc_len (agrS_asc9 _ _ _) hval
    have HIQ : Hid (I64s ((agrS (C : Int) ll m).map (coV C))) := Lib.hid (setsOk_i64 fun z hz => by
      obtain ⟨y, hy, rfl⟩ := List.mem_map.1 hz
      obtain ⟨Y, rfl, hY⟩ := valN (hval y hy)
      have h := co_fin ⟨C, by omega⟩ ⟨Y, hY⟩
      have h32 := two5 (show C ≤ 5 by omega)
      simp only at h
      rw [h.1]
      exact val_nat (by omega))
    have HAL : Hid (∀ w', Calls Tryz.prog 25 #[.int .i64 (C : Int)] w' fun e w'' => e = .returned (.int .i64 (2 ^ C - 1)) ∧ w' = w'') := Lib.hid (fun w' => first_any (C : Int) w' (by omega) (by omega))
    obtain ⟨A, hAA⟩ : ∃ A, A = agrS (C : Int) ll m := ⟨_, rfl⟩
    rw [← hAA] at HE hA HAS HIQ
    clear hf hT hAA hval
    go_enter Tryz.func9, Tryz.ntmps9
    go_wp2_with fail
    refine (HF.out _ HB1.out).mono ?_
    rintro e w1 ⟨rfl, b1⟩
    have hb1 := HB1.out.trans (b1.mono HB1.out.size)
    replace c0 := (b1.cell (World.block_lt_of_cell? _ _ c0)).trans c0
    replace c1 := (b1.cell (World.block_lt_of_cell? _ _ c1)).trans c1
    have hs1 := b1.size
    rw [World.size_alloc] at hs1
    clear b1
    go_wp2_with fail
    refine (HAS.out _ hb1).mono ?_
    rintro e w2 ⟨va, rfl, oa, b2⟩
    have HB := Lib.hid (hb1.trans (b2.mono hb1.size))
    have HBX := Lib.hid ((b2.cell (World.block_lt_of_cell? _ _ c0)).trans c0)
    have HB2S := Lib.hid (Nat.le_trans hs1 b2.size)
    obtain ⟨aa, ca, hva, hca⟩ := oa.read
    subst hva
    have HCA := Lib.hid hca
    clear b2 oa hb1 c0 c1 hca hs1
    go_wp2_with fail
    go_loopw [5, 16] (fun ov iv wr => ∃ (i : Nat) (q : List Int), i ≤ A.length ∧ iv = .int .i64 (i : Int) ∧ Hid (q = (A.take i).map (coV C)) ∧ Hid (OwnI wr w2.heap.size ov q) ∧ Hid (Below w2.heap.size w2 wr)) (fun _ iv _ => A.length - (intOf iv).toNat)
    case atStart => exact ⟨0, [], by omega, rfl, Lib.hid rfl, Lib.hid (World.ownsRow_nil _ _ _ _), Lib.hid (Below.refl _ _)⟩
    case round =>
      obtain ⟨i, q, hi, rfl, hq, HO, HBW⟩ := hrel
      obtain ⟨w4, hw4⟩ : ∃ w', w' = wr := ⟨_, rfl⟩
      rw [← hw4] at HO HBW ⊢
      clear hw4
      have c0 := cell_inB HBX.out HBW.out
      have z0 : (0 : Int) ≤ (i : Int) := by omega
      have hql : q.length ≤ 32 := by rw [hq.out, List.length_map, List.length_take]; omega
      by_cases hlt : i < A.length
      · obtain ⟨b, rfl, hb4⟩ := HCA.out i hlt
        have z1 : (i : Int) < (A.length : Int) := by omega
        have HX : Hid ((A.take (i + 1)).map (coV C) = q ++ [coV C A[i]]) := Lib.hid (by rw [List.take_succ_eq_append_getElem hlt, List.map_append, hq.out]; rfl)
        obtain ⟨y, hy⟩ : ∃ y, y = A[i] := ⟨_, rfl⟩
        rw [← hy] at hb4 HX
        have hb5 := cell_inB hb4 HBW.out
        clear hy hb4 hq
        go_wp2_with fail
        refine (HAL.out _).mono ?_
        rintro e w' ⟨rfl, rfl⟩
        have ho6 := HO.out
        go_wp2_with (at_builtin; refine wpList_append_own _ rfl _ _ 29 rfl w2.heap.size 3 i0 (.int .i64 0) 1 8 Tryz.underlying29 HI.out.1 HI.out.2.1 HI.out.2.2.1 HI.out.2.2.2 rfl (by decide) _ _ _ rfl (World.ownsRow.alloc ho6 _) ⟨w4.heap.size, 0, none⟩ 1 1 [.int .i64 (coV C y)] rfl rfl (cell_one_new _ _ _) (one_i64 _) (by unfold maxLen; omega) (by omega) (by have := HBW.out.size; simp; omega) ?_; intro v7 w7 hown7 hgrow7 _; have HO7 := Lib.hid (OwnI.snoc hown7); have HB7 := Lib.hid ((HBW.out.alloc HBW.out.size (.cells #[.int .i64 (coV C y)] 3)).grown hgrow7 (by rw [World.size_alloc]; have := HBW.out.size; omega) (fun k hk => (OwnI.lt HO.out k hk).1)); clear hown7 hgrow7 ho6 c0 hb5)
        go_roundw
        case rel => exact ⟨i + 1, _, by omega, by go_num, Lib.hid HX.out.symm, HO7, HB7⟩
        case measure => simp [intOf]; omega
      · obtain rfl : i = A.length := by omega
        have hq2 : q = A.map (coV C) := by rw [hq.out, List.take_length]
        have HE2 : Hid (ktL (C : Int) ll m = trL q (C : Int)) := Lib.hid (by rw [HE.out, ← hq2])
        have HI2 : Hid (I64s q) := Lib.hid (by rw [hq2]; exact HIQ.out)
        have HB4 := Lib.hid (HB.out.trans (HBW.out.mono HB.out.size))
        clear hq2 hq
        go_wp2_with fail
        refine (HTR.out _ q _ HO.out.read (by omega) HI2.out).mono ?_
        rintro e w5 ⟨v5, rfl, o5, b5⟩
        have hb5 := HB4.out.trans (b5.mono HB4.out.size)
        have o6 := o5.base HB4.out.size
        clear o5 b5
        go_wp2_with fail
        go_ret
        exact ⟨_, rfl, by rw [HE2.out]; exact o6, hb5⟩
end
end Go.Proofs.YtnbjcelfdppkcaaGreat
