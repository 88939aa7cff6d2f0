/- Texts of this claim, merged: ArS, TpT, TrS, TpS, FltI, CvA. Conditions: as stated. -/
import Derived.Test.YtnbjcelfdppkcabTz11
import Derived.Test.YtnbjcelfdppkcabTz12
import Derived.Test.YtnbjcelfdppkcabTpHm
import Derived.Test.YtnbjcelfdppkcabTz21
import Derived.Shelf.SlSortCmp.Insertion
import Derived.Test.YtnbjcelfdppkcabTz22
import Derived.Test.YtnbjcelfdppkcabInsL
import Derived.Lib.OwnBridge
import Derived.Test.YtnbjcelfdppkcabTz19
import Derived.Maps.AppendAt
import Derived.Test.YtnbjcelfdppkcabTz20
import Derived.Deep.Quiet
import Derived.Deep.RegionLaw
namespace Go.Proofs.Ytnbjcelfdppkcab
open Go.RowKit

def IxOkS (b : Bool) (i : Int) : Prop := (b = true → 0 ≤ i) ∧ (b = false → i = -1)
theorem keepS {w w' : World} {p : Addr} {v : Value} (h : w.cell? p = some v) (b : Below w.heap.size w w') : w'.cell? p = some v := (b.cell (World.block_lt_of_cell? w _ h)).trans h
theorem oneS (w : World) (T : TypeId) (a : Value) : (w.alloc (.cells #[a] T)).cell? ⟨w.heap.size, 0, none⟩ = some a := World.cell?_alloc_mark w #[a] T (0, 0) 0
theorem any_noS {α : Type} (p : α → Bool) (l : List α) (d : α) (k : Nat) (h : k < l.length) (h0 : (l.take k).any p = false) (h1 : p (l.getD k d) = false) : (l.take (k + 1)).any p = false := by
  rw [List.take_succ_eq_append_getElem h, List.any_append, h0]
  rw [List.getD_eq_getElem?_getD, List.getElem?_eq_getElem h] at h1
  simpa using h1
theorem any_yesS {α : Type} (p : α → Bool) (l : List α) (d : α) (k : Nat) (h : k < l.length) (h1 : p (l.getD k d) = true) : l.any p = true := by
  rw [List.getD_eq_getElem?_getD, List.getElem?_eq_getElem h] at h1
  exact List.any_eq_true.2 ⟨_, List.getElem_mem h, h1⟩
section
set_option maxRecDepth 20000
set_option maxHeartbeats 3200000
theorem indexNo_any (v c1 : Value) (p : Int → Bool) (l : List Int) (w : World) (hr : ReadI w v l) (hl : l.length ≤ 1048576)
    (HP : ∀ x, x ∈ l → ∀ w', Below w.heap.size w w' → Calls Try.prog 49 #[.int .i64 x, c1] w' fun e w'' => e = .returned (.bool (p x)) ∧ Below w'.heap.size w' w'') :
    Calls Try.prog 71 #[v, .func (.func 49) #[] #[c1]] w fun e w' => ∃ i, e = .returned (.int .i64 i) ∧ IxOkS (l.any p) i ∧ Below w.heap.size w w' := by
  have HQ := Lib.hid HP
  obtain ⟨a, cap, rfl, ha⟩ := hr
  have HA := Lib.hid ha
  clear ha HP
  go_enter Try.func71, Try.ntmps71
  go_wp2_with fail
  go_loopw [8] (fun iv wr => ∃ (k : Nat), k ≤ l.length ∧ iv = .int .i64 (k : Int) ∧ Hid ((l.take k).any p = false) ∧ Below w.heap.size w wr) (fun iv _ => l.length - (intOf iv).toNat)
  case atStart => exact ⟨0, by omega, rfl, Lib.hid rfl, Below.refl _ _⟩
  case round =>
    obtain ⟨k, hk, rfl, hno, hb⟩ := hrel
    by_cases hlt : k < l.length
    · obtain ⟨x0, rfl, hx⟩ := HA.out k hlt
      replace hx := (hb.cell (World.block_lt_of_cell? w _ hx)).trans hx
      have hm : l[k] ∈ l := List.getElem_mem hlt
      have hgd : l.getD k 0 = l[k] := by rw [List.getD_eq_getElem?_getD, List.getElem?_eq_getElem hlt]; rfl
      have HNO := Lib.hid (any_noS p l 0 k hlt hno.out)
      have HYE := Lib.hid (any_yesS p l 0 k hlt)
      rw [hgd] at HNO HYE
      obtain ⟨y, hy⟩ : ∃ y, y = l[k] := ⟨_, rfl⟩
      rw [← hy] at hx hm HNO HYE
      have HC := Lib.hid (HQ.out y hm)
      have HB := Lib.hid hb
      clear hy hm hb hgd
      have z0 : (0 : Int) ≤ (k : Int) := by omega
      have z1 : (k : Int) < (l.length : Int) := by omega
      cases hp : p y with
      | true =>
        have HE := Lib.hid (HYE.out hp)
        rw [hp] at HC
        clear hp
        go_wp2_with fail
        refine (HC.out _ HB.out).mono ?_
        rintro e w1 ⟨rfl, b1⟩
        have hb1 := HB.out.trans (b1.mono HB.out.size)
        clear b1 hx
        go_wp2_with fail
        go_ret
        exact ⟨_, rfl, ⟨fun _ => (by omega), fun h => absurd h (by rw [HE.out]; decide)⟩, hb1⟩
      | false =>
        have HE := Lib.hid (HNO.out hp)
        rw [hp] at HC
        clear hp
        go_wp2_with fail
        refine (HC.out _ HB.out).mono ?_
        rintro e w1 ⟨rfl, b1⟩
        have hb1 := HB.out.trans (b1.mono HB.out.size)
        clear b1 hx
        go_wp2_with fail
        go_roundw
        case rel => exact ⟨k + 1, by omega, by go_num, HE, hb1⟩
        case measure => simp [intOf]; omega
    · obtain rfl : k = l.length := by omega
      go_wp2_with fail
      go_ret
      exact ⟨_, rfl, ⟨fun h => absurd h (by have := hno.out; rw [List.take_length] at this; rw [this]; decide), fun _ => rfl⟩, hb⟩
theorem containsNo_any (v c1 : Value) (p : Int → Bool) (l : List Int) (w : World) (hr : ReadI w v l) (hl : l.length ≤ 1048576)
    (HP : ∀ x, x ∈ l → ∀ w', Below w.heap.size w w' → Calls Try.prog 49 #[.int .i64 x, c1] w' fun e w'' => e = .returned (.bool (p x)) ∧ Below w'.heap.size w' w'') :
    Calls Try.prog 48 #[v, .func (.func 49) #[] #[c1]] w fun e w' => e = .returned (.bool (l.any p)) ∧ Below w.heap.size w w' := by
  have HI := Lib.hid (indexNo_any v c1 p l w hr hl HP)
  clear hr HP
  go_enter Try.func48, Try.ntmps48
  go_wp2_with fail
  refine HI.out.mono ?_
  rintro e w' ⟨i, rfl, hi, hb⟩
  have HX : Hid (l.any p = decide (0 ≤ i)) := Lib.hid (by
    cases h : l.any p with
    | true => exact (decide_eq_true (hi.1 h)).symm
    | false => rw [hi.2 h]; rfl)
  clear hi
  go_wp2_with fail
  go_ret
  exact ⟨ret_b HX.out, hb⟩
theorem noSet_any (n x : Int) (hx : -9223372036854775808 ≤ x ∧ x ≤ 9223372036854775807) (b : Nat) (w : World) (h0 : w.cell? ⟨b, 0, none⟩ = some (.int .i64 n)) :
    Calls Try.prog 49 #[.int .i64 x, .pointer (some ⟨b, 0, none⟩)] w fun e w' => e = .returned (.bool (!isA n x)) ∧ Below w.heap.size w w' := by
  have HH := Lib.hid (fun w' => implIsA_any n x hx.1 hx.2 w')
  obtain ⟨q, hq⟩ : ∃ q, q = isA n x := ⟨_, rfl⟩
  rw [← hq] at HH ⊢
  clear hq
  go_enter Try.func49, Try.ntmps49
  go_wp2_with fail
  refine (HH.out _).mono ?_
  rintro e w2 ⟨rfl, b2⟩
  clear h0
  go_wp2_with fail
  go_ret
  exact ⟨rfl, b2⟩
theorem areSets_any (v : Value) (n : Int) (ag : List Int) (hbd : I64s ag) (w : World) (hr : ReadI w v ag) (hl : ag.length ≤ 1048576) :
    Calls Try.prog 22 #[.int .i64 n, v] w fun e w' => e = .returned (.bool (decide (0 ≤ n ∧ n ≤ 5) && ag.all (isA n))) ∧ Below w.heap.size w w' := by
  have hb1 := (Below.refl w.heap.size w).alloc (Nat.le_refl _) (.cells #[.int .i64 n] 3)
  have c0 := oneS w 3 (.int .i64 n)
  have HB1 := Lib.hid hb1
  have HCC := Lib.hid (fun w' => colCount_any n w')
  have HNO := Lib.hid (fun w' (hb : Below w.heap.size w w') (k0 : w'.cell? ⟨w.heap.size, 0, none⟩ = some (.int .i64 n)) => containsNo_any v (.pointer (some ⟨w.heap.size, 0, none⟩)) (fun x => !isA n x) ag w' (hr.kept hb) hl
    (fun x hx w'' hb' => noSet_any n x (hbd x hx) w.heap.size w'' (keepS k0 hb')))
  have HE : Hid (ag.all (isA n) = !ag.any (fun x => !isA n x)) := Lib.hid (by rw [List.all_eq_not_any_not])
  obtain ⟨q, hq⟩ : ∃ q, q = ag.any (fun x => !isA n x) := ⟨_, rfl⟩
  rw [← hq] at HNO HE
  rw [HE.out]
  obtain ⟨a, cap, rfl, -⟩ := hr
  clear hq hbd hb1 HE
  by_cases hn : 0 ≤ n ∧ n ≤ 5
  · rw [decide_eq_true hn] at HCC ⊢
    clear hn
    go_enter Try.func22, Try.ntmps22
    go_wp2_with fail
    refine (HCC.out _).mono ?_
    rintro e w3 ⟨rfl, rfl⟩
    go_wp2_with fail
    refine (HNO.out _ HB1.out c0).mono ?_
    rintro e w4 ⟨rfl, b4⟩
    have HB4 := Lib.hid (HB1.out.trans (b4.mono HB1.out.size))
    clear b4 c0
    go_wp2_with fail
    go_ret
    exact ⟨ret_b (by rw [Bool.true_and]), HB4.out⟩
  · rw [decide_eq_false hn] at HCC ⊢
    clear hn
    go_enter Try.func22, Try.ntmps22
    go_wp2_with fail
    refine (HCC.out _).mono ?_
    rintro e w3 ⟨rfl, rfl⟩
    clear c0
    go_wp2_with fail
    go_ret
    exact ⟨ret_b (by rw [Bool.false_and]), HB1.out⟩
end
end Go.Proofs.Ytnbjcelfdppkcab
namespace Go.Proofs.Ytnbjcelfdppkcab
open Go.RowKit

theorem minS_val {l : List Int} {z : Int} (h : z ∈ minS l) : valB z = true := by
  rw [← minS_eq] at h
  unfold unsS at h
  split at h
  · obtain ⟨j, hj, -, rfl⟩ := (lstF_mem _ _).1 h
    exact val_nat hj
  · cases h
theorem grwL_val {l : List Int} {e z : Int} (h : z ∈ grwL l e) : valB z = true := by
  unfold grwL at h
  split at h
  · exact minS_val h
  · cases h
theorem trTo_val (E : List Int) : ∀ i, ∀ z ∈ trTo E i, valB z = true
  | 0, z, h => by
    have h : z ∈ [(0 : Int)] := h
    rw [List.mem_singleton.1 h]
    decide
  | _ + 1, _, h => grwL_val h
theorem trL_val {E : List Int} {n z : Int} (h : z ∈ trL E n) : valB z = true := by
  unfold trL at h
  split at h
  · exact trTo_val E _ z h
  · cases h
section
set_option maxRecDepth 20000
set_option maxHeartbeats 3200000
theorem implTrans_any (v : Value) (E : List Int) (n : Int) (w : World) (hr : ReadI w v E) (hl : E.length ≤ 1048576) (hbd : I64s E) :
    Calls Try.prog 6 #[v, .int .i64 n] w (RetI (trL E n) w) := by
  have HAS := Lib.hid (areSets_any v n E hbd w hr hl)
  have HG := Lib.hid (fun (v : Value) (l : List Int) (e : Int) w' (h : ReadI w' v l) (hl : l.length ≤ 1048576) (hb : I64s l) h0 h1 => implGrow_any v l e w' h hl hb h0 h1)
  have HBD := Lib.hid hbd
  obtain ⟨a, cap, rfl, ha⟩ := hr
  have HA := Lib.hid ha
  clear ha hbd
  by_cases h100 : E.length ≤ 100
  · have hgt : ¬ ((100 : Int) < (E.length : Int)) := by omega
    cases hq : (decide (0 ≤ n ∧ n ≤ 5) && E.all (isA n)) with
    | false =>
      rw [hq] at HAS
      have HF : Hid (trL E n = []) := Lib.hid (by
        have h : (decide ((0 ≤ n ∧ n ≤ 5) ∧ E.length ≤ 100) && E.all (isA n)) = false := by
          rw [Bool.and_eq_false_iff] at hq ⊢
          rcases hq with h | h
          · exact .inl (decide_eq_false fun h2 => (of_decide_eq_false h) h2.1)
          · exact .inr h
        unfold trL; rw [h]; rfl)
      clear hq
      go_enter Try.func6, Try.ntmps6
      go_wp2_with fail
      refine HAS.out.mono ?_
      rintro e' w1 ⟨rfl, b1⟩
      have HB1 := Lib.hid b1
      clear b1
      go_wp2_with fail
      go_ret
      exact ⟨_, rfl, by rw [HF.out]; exact World.ownsRow_nil _ _ _ _, HB1.out⟩
    | true =>
      rw [hq] at HAS
      rw [Bool.and_eq_true, decide_eq_true_iff] at hq
      have HE : Hid (trL E n = trTo E E.length) := Lib.hid (by unfold trL; rw [hq.2, decide_eq_true (show (0 ≤ n ∧ n ≤ 5) ∧ E.length ≤ 100 from ⟨hq.1, h100⟩)]; rfl)
      clear hq
      go_enter Try.func6, Try.ntmps6
      go_wp2_with fail
      refine HAS.out.mono ?_
      rintro e' w1 ⟨rfl, b1⟩
      have HO0 : Hid (OwnI (w1.alloc (.cells #[.int .i64 0] 3)) w.heap.size (.slice (some ⟨w1.heap.size, 0, none⟩) 1 1) [0]) := Lib.hid (World.ownsRow_lit w1 #[.int .i64 0] 1 b1.size (by unfold maxLen; omega) rfl)
      have HB0 : Hid (Below w.heap.size w (w1.alloc (.cells #[.int .i64 0] 3))) := Lib.hid (b1.alloc b1.size _)
      clear b1
      go_wp2_with fail
      go_loopw [5, 20] (fun ov iv wr => ∃ (i : Nat) (q : List Int), i ≤ E.length ∧ iv = .int .i64 (i : Int) ∧ Hid (q = trTo E i) ∧ Hid (OwnI wr w.heap.size ov q) ∧ Hid (Below w.heap.size w wr)) (fun _ iv _ => E.length - (intOf iv).toNat)
      case atStart => exact ⟨0, [0], by omega, rfl, Lib.hid rfl, HO0, HB0⟩
      case round =>
        clear HO0 HB0
        obtain ⟨i, q, hi, rfl, hq, HO, HB⟩ := hrel
        obtain ⟨w3, hw3⟩ : ∃ w', w' = wr := ⟨_, rfl⟩
        rw [← hw3] at HO HB ⊢
        clear hw3
        have z0 : (0 : Int) ≤ (i : Int) := by omega
        have hql : q.length ≤ 1048576 := by rw [hq.out]; have := trTo_len E i; omega
        have HQI : Hid (I64s q) := Lib.hid (by rw [hq.out]; exact setsOk_i64 (trTo_val E i))
        by_cases hlt : i < E.length
        · obtain ⟨b, rfl, hb⟩ := HA.out i hlt
          have z1 : (i : Int) < (E.length : Int) := by omega
          have HS : Hid (trTo E (i + 1) = grwL q E[i]) := Lib.hid (by rw [hq.out, get_getD E i hlt]; rfl)
          have HY := Lib.hid (HBD.out _ (List.getElem_mem hlt))
          obtain ⟨y, hy⟩ : ∃ y, y = E[i] := ⟨_, rfl⟩
          rw [← hy] at hb HS HY
          have hb3 := (HB.out.cell (World.block_lt_of_cell? _ _ hb)).trans hb
          clear hy hq hb
          go_wp2_with fail
          refine (HG.out _ q y _ HO.out.read hql HQI.out HY.out.1 HY.out.2).mono ?_
          rintro e' w5 ⟨v5, rfl, o5, b5⟩
          have HB5 := Lib.hid (HB.out.trans (b5.mono HB.out.size))
          have HO5 := Lib.hid (o5.base HB.out.size)
          clear o5 b5 hb3
          go_wp2_with fail
          go_roundw
          case rel => exact ⟨i + 1, _, by omega, by go_num, Lib.hid HS.out.symm, HO5, HB5⟩
          case measure => simp [intOf]; omega
        · obtain rfl : i = E.length := by omega
          have HX : Hid (trL E n = q) := Lib.hid (by rw [HE.out, hq.out])
          clear hq
          go_wp2_with fail
          go_ret
          exact ⟨_, rfl, by rw [HX.out]; exact HO.out, HB.out⟩
  · have hgt : (100 : Int) < (E.length : Int) := by omega
    have HF : Hid (trL E n = []) := Lib.hid (by unfold trL; rw [decide_eq_false (fun h => h100 h.2), Bool.false_and]; rfl)
    go_enter Try.func6, Try.ntmps6
    go_wp2_with fail
    go_ret
    exact ⟨_, rfl, by rw [HF.out]; exact World.ownsRow_nil _ _ _ _, Below.refl _ _⟩
end
end Go.Proofs.Ytnbjcelfdppkcab
namespace Go.Proofs.Ytnbjcelfdppkcab
open Go.RowKit
open Go.Sort (insInner insOuter swp SWO PermIn SortedIn)

instance : Inhabited (Fin 32) := ⟨⟨0, by omega⟩⟩
def enc9 (x : Fin 32) : Value := .int .i64 ((x.val : Nat) : Int)
def cf9 (x y : Fin 32) : Int := (cnt ((x.val : Nat) : Int) : Int) - (cnt ((y.val : Nat) : Int) : Int)
def key9 (x : Fin 32) : Nat := cnt ((x.val : Nat) : Int) * 32 + x.val
def lk9 (x y : Fin 32) : Bool := decide (key9 x < key9 y)
theorem lt_lk (x y : Fin 32) (h : y.val < x.val) : ltOf cf9 x y = lk9 x y := by
  unfold ltOf cf9 lk9 key9
  have := x.isLt
  have := y.isLt
  rw [Bool.eq_iff_iff, decide_eq_true_iff, decide_eq_true_iff]
  omega
theorem swo9 : SWO lk9 where
  irrefl x := by unfold lk9; rw [decide_eq_false_iff_not]; omega
  trans x y z h1 h2 := by unfold lk9 at *; rw [decide_eq_true_iff] at *; omega
  ntrans x y z h1 h2 := by unfold lk9 at *; rw [decide_eq_false_iff_not] at *; omega
theorem insInner_same9 : ∀ (j : Nat) (d : Array (Fin 32)), j < d.size → (∀ p, p < j → (d[p]!).val < (d[j]!).val) → insInner (ltOf cf9) 0 j d = insInner lk9 0 j d
  | 0, d, _, _ => by unfold insInner; rfl
  | j + 1, d, hj, h => by
    unfold insInner
    rw [lt_lk _ _ (h j (by omega))]
    split
    · refine insInner_same9 j (swp d (j + 1) j) (by rw [Go.Sort.size_swp]; omega) fun p hp => ?_
      rw [Go.Sort.swp_other d (j + 1) j p (by omega) (by omega), Go.Sort.swp_right d (j + 1) j (by omega)]
      exact h p (by omega)
    · rfl
theorem insInner_at9 : ∀ (j : Nat) (d : Array (Fin 32)), j < d.size → (insInner lk9 0 j d).size = d.size ∧ (∀ q, j < q → (insInner lk9 0 j d)[q]! = d[q]!) ∧ ∀ p, p ≤ j → ∃ p', p' ≤ j ∧ (insInner lk9 0 j d)[p]! = d[p']!
  | 0, d, _ => by unfold insInner; exact ⟨rfl, fun _ _ => rfl, fun p hp => ⟨p, hp, rfl⟩⟩
  | j + 1, d, hj => by
    unfold insInner
    split
    · obtain ⟨h1, h2, h3⟩ := insInner_at9 j (swp d (j + 1) j) (by rw [Go.Sort.size_swp]; omega)
      refine ⟨h1.trans (Go.Sort.size_swp _ _ _), fun q hq => ?_, fun p hp => ?_⟩
      · rw [h2 q (by omega), Go.Sort.swp_other d (j + 1) j q (by omega) (by omega)]
      · by_cases e : p = j + 1
        · subst e
          refine ⟨j, by omega, ?_⟩
          rw [h2 (j + 1) (by omega), Go.Sort.swp_left d (j + 1) j hj (by omega)]
        · obtain ⟨p', hp', e'⟩ := h3 p (by omega)
          rw [e']
          by_cases e2 : p' = j
          · subst e2
            exact ⟨p' + 1, Nat.le_refl _, Go.Sort.swp_right d (p' + 1) p' (by omega)⟩
          · exact ⟨p', by omega, Go.Sort.swp_other d (j + 1) j p' (by omega) (by omega)⟩
    · exact ⟨rfl, fun _ _ => rfl, fun p hp => ⟨p, hp, rfl⟩⟩
theorem insOuter_same9 (b : Nat) : ∀ (n i : Nat) (d : Array (Fin 32)), b - i = n → b ≤ d.size → (∀ p q, p < q → i ≤ q → q < b → (d[p]!).val < (d[q]!).val) → insOuter (ltOf cf9) 0 b i d = insOuter lk9 0 b i d
  | 0, i, d, hn, _, _ => by rw [Go.Proofs.insOuter_stop _ _ _ _ _ (by omega), Go.Proofs.insOuter_stop _ _ _ _ _ (by omega)]
  | n + 1, i, d, hn, hb, h => by
    rw [Go.Proofs.insOuter_go _ _ _ _ _ (show i < b by omega), Go.Proofs.insOuter_go _ _ _ _ _ (show i < b by omega)]
    rw [insInner_same9 i d (by omega) fun p hp => h p i hp (Nat.le_refl _) (by omega)]
    obtain ⟨h1, h2, h3⟩ := insInner_at9 i d (by omega)
    refine insOuter_same9 b n (i + 1) _ (by omega) (by rw [h1]; exact hb) fun p q hpq hiq hq => ?_
    rw [h2 q (by omega)]
    by_cases hp : p ≤ i
    · obtain ⟨p', hp', e⟩ := h3 p hp
      rw [e]
      exact h p' q (by omega) (by omega) hq
    · rw [h2 p (by omega)]
      exact h p q hpq (by omega) hq
theorem getB {l : List (Fin 32)} {j : Nat} (h : j < l.length) : l.toArray[j]! = l[j] := by
  rw [getElem!_pos l.toArray j (by simpa using h)]
  simp
/-- The sort of an ascending list: the same members, in ascending order of the key. -/
theorem sort_key9 (L : List (Fin 32)) (h : L.Pairwise fun x y => x.val < y.val) : ∃ L' : List (Fin 32), Go.Sort.insertionSort (ltOf cf9) L.toArray 0 L.length = L'.toArray ∧ L'.Perm L ∧ L'.Pairwise fun x y => key9 x < key9 y := by
  have e : Go.Sort.insertionSort (ltOf cf9) L.toArray 0 L.length = Go.Sort.insertionSort lk9 L.toArray 0 L.length := by
    unfold Go.Sort.insertionSort
    refine insOuter_same9 L.length _ _ _ rfl (by simp) fun p q hpq _ hq => ?_
    rw [getB (by omega), getB hq]
    exact (List.pairwise_iff_getElem.1 h) p q (by omega) hq hpq
  rw [e]
  obtain ⟨⟨h1, -, h2⟩, h3⟩ := Go.Sort.insertionSort_holds swo9 L.toArray 0 L.length (Nat.zero_le _) (by simp)
  obtain ⟨d, hd⟩ : ∃ d, d = Go.Sort.insertionSort lk9 L.toArray 0 L.length := ⟨_, rfl⟩
  rw [← hd] at h1 h2 h3 ⊢
  have hs : d.size = L.length := by rw [h1]; simp
  rw [Array.extract_eq_self_of_le (by omega), Array.extract_eq_self_of_le (by simp)] at h2
  have hp : d.toList.Perm L := h2
  refine ⟨d.toList, rfl, hp, ?_⟩
  have hnd : d.toList.Nodup := hp.nodup_iff.2 (h.imp fun h1 h2 => by rw [h2] at h1; omega)
  rw [List.pairwise_iff_getElem]
  intro i j hi hj hij
  have h4 := h3 i j (Nat.zero_le _) hij (by rw [← hs]; simpa using hj)
  rw [getElem!_pos d j (by simpa using hj), getElem!_pos d i (by simpa using hi)] at h4
  unfold lk9 at h4
  rw [decide_eq_false_iff_not] at h4
  have hne : d.toList[i] ≠ d.toList[j] := fun e => by
    have := (List.pairwise_iff_getElem.1 hnd) i j hi hj hij
    exact this e
  simp only [Array.getElem_toList] at hne ⊢
  have hk : key9 d[i] ≠ key9 d[j] := fun e => hne (by
    unfold key9 at e
    have a1 := (d[i]).isLt
    have a2 := (d[j]).isLt
    apply Fin.ext
    omega)
  omega
def keyJ9 (x : Int) : Int := (cnt x : Int) * 32 + x
theorem parts_key : ∀ C : Fin 6, List.Pairwise (· < ·) ((parts ((C.val : Nat) : Int)).map keyJ9) := by decide +kernel
theorem key_back {a b : List Int} (ha : ∀ x ∈ a, 0 ≤ x ∧ x < 32) (hb : ∀ x ∈ b, 0 ≤ x ∧ x < 32) (h : a.map keyJ9 = b.map keyJ9) : a = b := by
  have e : ∀ l : List Int, (∀ x ∈ l, 0 ≤ x ∧ x < 32) → (l.map keyJ9).map (· % 32) = l := fun l hl => by
    rw [List.map_map]
    refine (List.map_congr_left fun x hx => ?_).trans (List.map_id l)
    show keyJ9 x % 32 = x
    unfold keyJ9
    have := hl x hx
    omega
  rw [← e a ha, ← e b hb, h]
/-- Those of the parts that a list has, in the order of PartsBySize. -/
def partsIn (C : Nat) (M : List Int) : List Int := (parts (C : Int)).filter fun S => decide (S ∈ M)
theorem sort_parts {C : Nat} (hC : C ≤ 5) {M : List Int} (hM : ∀ y ∈ M, ∃ X : Nat, y = (X : Int) ∧ X < 2 ^ C) {L' L : List (Fin 32)} (hL : L.map (fun x => ((x.val : Nat) : Int)) = M) (hp : L'.Perm L) (hk : L'.Pairwise fun x y => key9 x < key9 y) :
    L'.map (fun x => ((x.val : Nat) : Int)) = partsIn C M := by
  have h32 := two5 hC
  have hm : ∀ z, z ∈ L'.map (fun x => ((x.val : Nat) : Int)) ↔ z ∈ M := fun z => by rw [← hL]; exact (hp.map _).mem_iff
  have hf : ∀ z, z ∈ partsIn C M ↔ z ∈ M := fun z => by
    unfold partsIn
    rw [List.mem_filter, decide_eq_true_iff]
    refine ⟨fun h => h.2, fun h => ⟨?_, h⟩⟩
    obtain ⟨X, rfl, hX⟩ := hM z h
    exact (parts_mem hC _).2 ⟨X, hX, rfl⟩
  have hb : ∀ l : List Int, (∀ z, z ∈ l → z ∈ M) → ∀ x ∈ l, 0 ≤ x ∧ x < 32 := fun l h x hx => by
    obtain ⟨X, rfl, hX⟩ := hM x (h x hx)
    omega
  refine key_back (hb _ fun z h => (hm z).1 h) (hb _ fun z h => (hf z).1 h) (ascI_unique _ _ ?_ ?_ fun z => ?_)
  · unfold AscI
    rw [List.map_map, List.pairwise_map]
    refine hk.imp fun {x y} h => ?_
    show (cnt ((x.val : Nat) : Int) : Int) * 32 + ((x.val : Nat) : Int) < (cnt ((y.val : Nat) : Int) : Int) * 32 + ((y.val : Nat) : Int)
    unfold key9 at h
    omega
  · unfold AscI
    have h := parts_key ⟨C, by omega⟩
    rw [List.pairwise_map] at h ⊢
    exact h.filter _
  · rw [List.mem_map, List.mem_map]
    exact ⟨fun ⟨y, h1, h2⟩ => ⟨y, (hf y).2 ((hm y).1 h1), h2⟩, fun ⟨y, h1, h2⟩ => ⟨y, (hm y).2 ((hf y).1 h1), h2⟩⟩
/-- Ten chains hold all sets of five columns. -/
def chn : Fin 32 → Nat := fun x => [0, 0, 1, 0, 2, 2, 1, 0, 3, 3, 4, 3, 5, 2, 1, 0, 6, 6, 7, 6, 8, 8, 7, 6, 9, 9, 4, 3, 5, 2, 1, 0].getD x.val 0
theorem chn_fin : ∀ x y : Fin 32, chn x = chn y → subN x.val y.val = true ∨ subN y.val x.val = true := by decide +kernel
theorem chn_lt : ∀ x : Fin 32, chn x < 10 := by decide +kernel
theorem nodup_len : ∀ (n : Nat) (l : List Nat), l.Nodup → (∀ x ∈ l, x < n) → l.length ≤ n
  | 0, l, _, h => by
    cases l with
    | nil => exact Nat.le_refl _
    | cons x l => exact absurd (h x (List.mem_cons_self ..)) (by omega)
  | n + 1, l, hd, h => by
    have h1 := nodup_len n (l.erase n) (hd.erase n) fun x hx => by
      have := (hd.mem_erase_iff).1 hx
      have := h x this.2
      omega
    by_cases hm : n ∈ l
    · have := List.length_erase_of_mem hm
      omega
    · rw [List.erase_of_not_mem hm] at h1
      omega
theorem trL_ten (E : List Int) (n : Int) : (trL E n).length ≤ 10 := by
  by_cases hok : (decide ((0 ≤ n ∧ n ≤ 5) ∧ E.length ≤ 100) && E.all (isA n)) = true
  · have hmem : ∀ z, z ∈ trL E n ↔ ∃ x : Nat, x < 32 ∧ hitTo E x E.length = true ∧ z = (x : Int) ∧ ∀ y, y < 32 → hitTo E y E.length = true → subN y x = true → y = x := fun z => by rw [trL_eq hok]; exact minS_brd _ (Nat.le_refl _) z
    have hasc : AscI (trL E n) := by rw [trL_eq hok]; exact minS_asc _
    obtain ⟨L, hL⟩ : ∃ L : List (Fin 32), L.map (fun x => ((x.val : Nat) : Int)) = trL E n := by
      refine ⟨(trL E n).attach.map fun z => ⟨z.1.toNat, ?_⟩, ?_⟩
      · obtain ⟨x, h1, -, h2, -⟩ := (hmem z.1).1 z.2
        omega
      · rw [List.map_map]
        refine (List.map_congr_left fun z _ => ?_).trans (List.attach_map_subtype_val (trL E n))
        obtain ⟨x, h1, -, h2, -⟩ := (hmem z.1).1 z.2
        show ((z.1.toNat : Nat) : Int) = z.1
        omega
    rw [← hL, List.length_map]
    have h1 : (L.map chn).length ≤ 10 := nodup_len 10 _ (by
      unfold List.Nodup
      rw [List.pairwise_map]
      rw [← hL] at hasc
      unfold AscI at hasc
      rw [List.pairwise_map] at hasc
      refine hasc.imp_of_mem fun {x y} hx hy hlt he => ?_
      obtain ⟨X, hX, fX, eX, mX⟩ := (hmem ((x.val : Nat) : Int)).1 (by rw [← hL]; exact List.mem_map.2 ⟨x, hx, rfl⟩)
      obtain ⟨Y, hY, fY, eY, mY⟩ := (hmem ((y.val : Nat) : Int)).1 (by rw [← hL]; exact List.mem_map.2 ⟨y, hy, rfl⟩)
      obtain rfl : x.val = X := by omega
      obtain rfl : y.val = Y := by omega
      rcases chn_fin x y he with h | h
      · have := mY _ hX fX h
        omega
      · have := mX _ hY fY h
        omega) fun z hz => by
      obtain ⟨x, -, rfl⟩ := List.mem_map.1 hz
      exact chn_lt x
    rwa [List.length_map] at h1
  · unfold trL
    rw [if_neg hok]
    exact Nat.zero_le _
end Go.Proofs.Ytnbjcelfdppkcab
namespace Go.Proofs.Ytnbjcelfdppkcab
open Go.RowKit

theorem count9_any (X : Nat) (hX : X < 32) (w : World) :
    Calls Try.prog 66 #[.int .i64 (X : Int)] w fun e w' => e = .returned (.int .i64 (cnt (X : Int) : Int)) ∧ w = w' := by
  have HV := Lib.hid (isValid_any (X : Int) (by omega) (by omega))
  have hv : valB (X : Int) = true := val_nat hX
  have HS := Lib.hid (size_any X hX)
  go_enter Try.func66, Try.ntmps66
  go_wp2_with fail
  refine (HV.out _).mono ?_
  rintro e w' ⟨rfl, rfl⟩
  go_wp2_with fail
  refine (HS.out _).mono ?_
  rintro e w' ⟨rfl, rfl⟩
  go_wp2_with fail
  go_ret
  exact ⟨rfl, rfl⟩
theorem bySize_any (x y : Fin 32) (w : World) :
    Calls Try.prog 41 #[enc9 x, enc9 y] w fun e w' => e = .returned (.int .i64 (cf9 x y)) ∧ w = w' := by
  have HX := Lib.hid (count9_any x.val x.isLt)
  have HY := Lib.hid (count9_any y.val y.isLt)
  have HC : Hid (cf9 x y = (cnt ((x.val : Nat) : Int) : Int) - (cnt ((y.val : Nat) : Int) : Int)) := Lib.hid rfl
  have cx := cnt_le ((x.val : Nat) : Int)
  have cy := cnt_le ((y.val : Nat) : Int)
  unfold enc9
  obtain ⟨a, ha⟩ : ∃ a, a = cnt ((x.val : Nat) : Int) := ⟨_, rfl⟩
  obtain ⟨b, hb⟩ : ∃ b, b = cnt ((y.val : Nat) : Int) := ⟨_, rfl⟩
  rw [← ha] at cx HX HC
  rw [← hb] at cy HY HC
  clear ha hb
  go_enter Try.func41, Try.ntmps41
  go_wp2_with fail
  refine (HX.out _).mono ?_
  rintro e w' ⟨rfl, rfl⟩
  go_wp2_with fail
  refine (HY.out _).mono ?_
  rintro e w' ⟨rfl, rfl⟩
  go_wp2_with fail
  go_ret
  exact ⟨ret_int (by rw [HC.out]), rfl⟩
theorem insSort_some (B g cap : Nat) (L : List (Fin 32)) (w : World) (ho : OwnI w B (.slice (some ⟨g, 0, none⟩) L.length cap) (L.map fun x => ((x.val : Nat) : Int))) (hasc : L.Pairwise fun x y => x.val < y.val) (hl : L.length ≤ 32) :
    Calls Try.prog 77 #[.slice (some ⟨g, 0, none⟩) L.length cap, .int .i64 0, .int .i64 (L.length : Int), .func (.func 41) #[] #[]] w fun e w' =>
      e = .returned (.tuple #[]) ∧ ∃ L' : List (Fin 32), L'.Perm L ∧ (L'.Pairwise fun x y => key9 x < key9 y) ∧ OwnI w' B (.slice (some ⟨g, 0, none⟩) L.length cap) (L'.map fun x => ((x.val : Nat) : Int)) ∧ Below B w w' := by
  have eg : ∀ args w, (callFunc 41 args).run Try.prog w = .ok (.enter 41 args) w := enters_of Try.func41 (by kernel_rfl) rfl
  have he : intsV (L.map fun x => ((x.val : Nat) : Int)) = L.map enc9 := by unfold intsV; rw [List.map_map]; rfl
  have ho' : w.ownsRow B 3 1 (.slice (some ⟨g, 0, none⟩) L.length cap) L.length (L.map enc9) := by
    have h := ho
    unfold OwnI at h
    rw [he, List.length_map] at h
    exact h
  obtain ⟨g', cap', hv, hB, -, -, -, -, hH⟩ := Lib.holds_of_ownsRow ho' (by intro h; cases h)
  injection hv with e1 _ _
  injection e1 with e1
  injection e1 with e1
  subst e1
  have hs : L.toArray.size = L.length := by simp
  have hcmp : CmpReads Try.prog 41 #[] enc9 cf9 g 0 L.toArray.size w := fun m os dk _ x y =>
    (bySize_any x y _).mono fun _ _ ⟨a, b⟩ => ⟨a, 0, b.symm⟩
  have h := Any.insertionSortCmpFunc_one insL enc9 (fun x => rfl) cf9 41 #[] g 0 cap 0 L.length L.toArray w eg hcmp hH (Nat.zero_le _) (by omega) (by omega)
  rw [hs] at h
  obtain ⟨L', hL, hp, hk⟩ := sort_key9 L hasc
  rw [hL] at h
  change Calls Try.prog 77 _ _ _ at h
  refine h.mono ?_
  rintro e w' ⟨rfl, n, rfl⟩
  have ew : (Sort.putRow enc9 w g 0 L'.toArray).drewN n = Sort.putRow enc9 (Sort.ahead w n) g 0 L'.toArray := (Sort.putRow_ahead enc9 w n g 0 L'.toArray).symm
  rw [ew]
  refine ⟨rfl, L', hp, hk, ?_, Lib.below_putRow (Below.refl B w) hB⟩
  have h2 := Lib.ownsRow_putRow (q := n) ho' (ys := L') hp.length_eq (Nat.le_refl _)
  rw [← hp.length_eq, List.take_length] at h2
  unfold OwnI
  have he' : intsV (L'.map fun x => ((x.val : Nat) : Int)) = L'.map enc9 := by unfold intsV; rw [List.map_map]; rfl
  rw [he', List.length_map, ← hp.length_eq]
  exact h2
set_option maxHeartbeats 800000 in
theorem insSort_none (w : World) :
    Calls Try.prog 77 #[.slice none 0 0, .int .i64 0, .int .i64 0, .func (.func 41) #[] #[]] w fun e w' => e = .returned (.tuple #[]) ∧ w = w' := by
  go_enter Try.func77, Try.ntmps77
  go_wp2_with fail
  go_loop [8] (fun iv => iv = .int .i64 1) (fun _ => 0)
  case atStart => rfl
  case round =>
    subst hrel
    go_wp2_with fail
    go_end0
    exact ⟨rfl, rfl⟩
/-- The list in which the sort leaves a row. -/
theorem insSort_any (C : Nat) (hC : C ≤ 5) (v : Value) (M : List Int) (B : Nat) (w : World) (ho : OwnI w B v M) (hasc : AscI M) (hM : ∀ y ∈ M, ∃ X : Nat, y = (X : Int) ∧ X < 2 ^ C) (hl : M.length ≤ 10) :
    Calls Try.prog 77 #[v, .int .i64 0, .int .i64 (M.length : Int), .func (.func 41) #[] #[]] w fun e w' => e = .returned (.tuple #[]) ∧ OwnI w' B v (partsIn C M) ∧ Below B w w' := by
  have h32 := two5 hC
  rcases ho.shape with ⟨rfl, rfl⟩ | ⟨g, cap, rfl, -, hB, -⟩
  · refine (insSort_none w).mono ?_
    rintro e w' ⟨rfl, rfl⟩
    refine ⟨rfl, ?_, Below.refl _ _⟩
    have : partsIn C [] = [] := by
      unfold partsIn
      rw [List.filter_eq_nil_iff]
      intro x _
      simp
    rw [this]
    exact World.ownsRow_nil _ _ _ _
  · obtain ⟨L, hL⟩ : ∃ L : List (Fin 32), L.map (fun x => ((x.val : Nat) : Int)) = M := by
      refine ⟨M.attach.map fun z => ⟨z.1.toNat, ?_⟩, ?_⟩
      · obtain ⟨x, h1, h2⟩ := hM z.1 z.2
        omega
      · rw [List.map_map]
        refine (List.map_congr_left fun z _ => ?_).trans (List.attach_map_subtype_val M)
        obtain ⟨x, h1, h2⟩ := hM z.1 z.2
        show ((z.1.toNat : Nat) : Int) = z.1
        omega
    have hlen : L.length = M.length := by rw [← hL, List.length_map]
    have ha : L.Pairwise fun x y => x.val < y.val := by
      rw [← hL] at hasc
      unfold AscI at hasc
      rw [List.pairwise_map] at hasc
      exact hasc.imp fun {x y} h => by omega
    rw [← hlen] at ho ⊢
    refine (insSort_some B g cap L w (by rw [hL]; exact ho) ha (by omega)).mono ?_
    rintro e w' ⟨rfl, L', hp, hk, ho', hb'⟩
    rw [sort_parts hC hM hL hp hk] at ho'
    exact ⟨rfl, ho', hb'⟩
set_option maxRecDepth 100000 in
set_option maxHeartbeats 1600000 in
theorem stable_any (C : Nat) (hC : C ≤ 5) (v : Value) (M : List Int) (B : Nat) (w : World) (ho : OwnI w B v M) (hasc : AscI M) (hM : ∀ y ∈ M, ∃ X : Nat, y = (X : Int) ∧ X < 2 ^ C) (hl : M.length ≤ 10) :
    Calls Try.prog 65 #[v, .int .i64 (M.length : Int), .func (.func 41) #[] #[]] w fun e w' => e = .returned (.tuple #[]) ∧ OwnI w' B v (partsIn C M) ∧ Below B w w' := by
  have HI := Lib.hid (insSort_any C hC v M B w ho hasc hM hl)
  have g1 : ¬ ((20 : Int) ≤ (M.length : Int)) := by omega
  have g2 : ¬ ((20 : Int) < (M.length : Int)) := by omega
  clear ho hasc hM
  go_enter Try.func65, Try.ntmps65
  go_wp2_with fail
  go_loop [7, 8] (fun av iv => av = .int .i64 0 ∧ iv = .int .i64 20) (fun _ _ => 0)
  case atStart => exact ⟨rfl, rfl⟩
  case round =>
    obtain ⟨rfl, rfl⟩ := hrel
    go_wp2_with fail
    refine HI.out.mono ?_
    rintro e w' ⟨rfl, ho', hb'⟩
    have HO := Lib.hid ho'
    have HB := Lib.hid hb'
    clear ho' hb'
    go_wp2_with fail
    go_loop [6] (fun iv => iv = .int .i64 20) (fun _ => 0)
    case atStart => rfl
    case round =>
      subst hrel
      go_wp2_with fail
      go_end0
      exact ⟨rfl, HO.out, HB.out⟩
theorem sortStable_any (C : Nat) (hC : C ≤ 5) (v : Value) (M : List Int) (B : Nat) (w : World) (ho : OwnI w B v M) (hasc : AscI M) (hM : ∀ y ∈ M, ∃ X : Nat, y = (X : Int) ∧ X < 2 ^ C) (hl : M.length ≤ 10) :
    Calls Try.prog 40 #[v, .func (.func 41) #[] #[]] w fun e w' => e = .returned (.tuple #[]) ∧ OwnI w' B v (partsIn C M) ∧ Below B w w' := by
  have HI := Lib.hid (stable_any C hC v M B w ho hasc hM hl)
  obtain ⟨a, cap, rfl, -⟩ := ho.read
  clear ho hasc hM
  go_enter Try.func40, Try.ntmps40
  go_wp2_with fail
  refine HI.out.mono ?_
  rintro e w' ⟨rfl, ho', hb'⟩
  go_wp2_with fail
  go_end0
  exact ⟨rfl, ho', hb'⟩
end Go.Proofs.Ytnbjcelfdppkcab
namespace Go.Proofs.Ytnbjcelfdppkcab
open Go.RowKit

end Go.Proofs.Ytnbjcelfdppkcab
namespace Go.Proofs.Ytnbjcelfdppkcab
open Go.RowKit

set_option maxHeartbeats 1600000 in
theorem inMode_any (c m : Int) (v : Value) (ll : List (List Int)) (w : World) (hr : ReadSS w v ll) (hl : ll.length ≤ 1048576) (ht : ∀ i, i < ll.length → (ll.getD i []).length ≤ 1048576) :
    Calls Try.prog 38 #[.agg #[.int .i64 c, v], .int .i64 m] w fun e w' => e = .returned (.bool (fineT c ll m)) ∧ Below w.heap.size w w' := by
  have HO := Lib.hid (eqOf_any m)
  have hb1 := (Below.refl w.heap.size w).alloc (Nat.le_refl _) (.cells #[.int .i64 c, v] 32)
  have HV := Lib.hid (fun w' (hb : Below w.heap.size w w') => implIsTable_any c v ll w' (hr.kept hb) hl ht)
  have HB1 := Lib.hid hb1
  obtain ⟨c0, c1⟩ := zero2 w 32 (.int .i64 c) v
  obtain ⟨a, cap, rfl, -⟩ := hr
  obtain ⟨F, hF⟩ : ∃ F, eqFn m = F := ⟨_, rfl⟩
  rw [hF] at HO
  clear hb1 hF
  cases hm : modeOk m with
  | false =>
    have HE : Hid (fineT c ll m = false) := Lib.hid (by unfold fineT; rw [hm]; simp)
    rw [hm] at HO
    clear hm
    go_enter Try.func38, Try.ntmps38
    go_wp2_with fail
    refine (HO.out _).mono ?_
    rintro e w' ⟨rfl, rfl⟩
    go_wp2_with fail
    go_ret
    exact ⟨ret_b HE.out, HB1.out⟩
  | true =>
    have HE : Hid (fineT c ll m = isT c ll) := Lib.hid (by unfold fineT; rw [hm]; simp)
    rw [hm] at HO
    clear hm
    go_enter Try.func38, Try.ntmps38
    go_wp2_with fail
    refine (HO.out _).mono ?_
    rintro e w' ⟨rfl, rfl⟩
    go_wp2_with fail
    refine (HV.out _ HB1.out).mono ?_
    rintro e w2 ⟨rfl, b2⟩
    have hb2 := HB1.out.trans (b2.mono HB1.out.size)
    go_wp2_with fail
    go_ret
    exact ⟨ret_b HE.out, hb2⟩
theorem pw_next (ps : List Int) (r k : Nat) (h : k < ps.length) : (ps.take (k + 1)).map (fun S => (S, (r : Int))) = (ps.take k).map (fun S => (S, (r : Int))) ++ [(ps.getD k 0, (r : Int))] := by
  rw [take_succ_getD ps 0 k h, List.map_append]; rfl
theorem cand_len (C r : Nat) (hC : C ≤ 5) (hr : r ≤ C) : (mdOut (fun S r => !bitB S.toNat r) (parts (C : Int)) r).length ≤ 160 := by
  have h1 := mdOut_len (fun S r => !bitB S.toNat r) (parts (C : Int)) r
  have h2 := parts_len32 hC
  have h3 : r * (parts (C : Int)).length ≤ 5 * 32 := Nat.mul_le_mul (by omega) h2
  omega
end Go.Proofs.Ytnbjcelfdppkcab
