/- Texts of this claim, merged: CvC, ArS. Conditions: as stated. -/
import Derived.Test.YtnbjcelfdppkcadGreatXz40
import Derived.Test.YtnbjcelfdppkcadGreatXz44
import Derived.Test.YtnbjcelfdppkcadGreatDdRm
import Derived.Test.YtnbjcelfdppkcadGreatXz28
import Derived.Test.YtnbjcelfdppkcadGreatXz13
import Derived.Test.YtnbjcelfdppkcadGreatXz16
namespace Go.Proofs.YtnbjcelfdppkcadGreat
open Go.RowKit

theorem candL_len (C : Nat) (hC : C ≤ 5) : (candL C).length ≤ 160 := cand_len C C hC (Nat.le_refl _)
/-- A table in a block of its own, a number in the next one; a third behind it. -/
structure Env2 (w : World) (b : Nat) (c m : Int) (v : Value) (ll : List (List Int)) : Prop where
  t0 : w.cell? ⟨b, 0, none⟩ = some (.int .i64 c)
  t1 : w.cell? ⟨b, 1, none⟩ = some v
  m0 : w.cell? ⟨b + 1, 0, none⟩ = some (.int .i64 m)
  s : ReadSS w v ll
theorem Env2.kept {w w' : World} {b : Nat} {c m : Int} {v : Value} {ll : List (List Int)} (h : Env2 w b c m v ll) (hb : Below w.heap.size w w') : Env2 w' b c m v ll :=
  ⟨(hb.cell (World.block_lt_of_cell? _ _ h.t0)).trans h.t0, (hb.cell (World.block_lt_of_cell? _ _ h.t1)).trans h.t1, (hb.cell (World.block_lt_of_cell? _ _ h.m0)).trans h.m0, h.s.kept hb⟩
theorem Env2.mk' {w : World} {c m : Int} {v : Value} {ll : List (List Int)} (h : ReadSS w v ll) (T T' : TypeId) : Env2 ((w.alloc (.cells #[.int .i64 c, v] T)).alloc (.cells #[.int .i64 m] T')) w.heap.size c m v ll := by
  have hb1 := (Below.refl w.heap.size w).alloc (Nat.le_refl _) (.cells #[.int .i64 c, v] T)
  obtain ⟨c0, c1⟩ := zero2 w T (.int .i64 c) v
  have hb2 := (Below.refl (w.alloc (.cells #[.int .i64 c, v] T)).heap.size (w.alloc (.cells #[.int .i64 c, v] T))).alloc (Nat.le_refl _) (.cells #[.int .i64 m] T')
  have hm := one_at (w.alloc (.cells #[.int .i64 c, v] T)) T' (.int .i64 m)
  rw [World.size_alloc] at hm
  exact ⟨(hb2.cell (World.block_lt_of_cell? _ _ c0)).trans c0, (hb2.cell (World.block_lt_of_cell? _ _ c1)).trans c1, hm, (h.kept hb1).kept hb2⟩
theorem cand_wf {C : Nat} (hC : C ≤ 5) {x : Int × Int} (h : x ∈ candL C) : (Lit.int .i64 x.1).wf = true ∧ (Lit.int .i64 x.2).wf = true := by
  obtain ⟨r, r1, S, r2, -, rfl⟩ := (mdOut_mem _ _ _ _).1 h
  obtain ⟨X, rfl, hX⟩ := parts_small _ S r2
  have k1 : ∀ X : Fin 32, (Lit.int .i64 ((X.val : Nat) : Int)).wf = true := by decide +kernel
  exact ⟨k1 ⟨X, hX⟩, k1 ⟨r, by omega⟩⟩
end Go.Proofs.YtnbjcelfdppkcadGreat
namespace Go.Proofs.YtnbjcelfdppkcadGreat
open Go.RowKit

def IxOkS (b : Bool) (i : Int) : Prop := (b = true → 0 ≤ i) ∧ (b = false → i = -1)
theorem keepS {w w' : World} {p : Addr} {v : Value} (h : w.cell? p = some v) (b : Below w.heap.size w w') : w'.cell? p = some v := (b.cell (World.block_lt_of_cell? w _ h)).trans h
theorem oneS (w : World) (T : TypeId) (a : Value) : (w.alloc (.cells #[a] T)).cell? ⟨w.heap.size, 0, none⟩ = some a := World.cell?_alloc_mark w #[a] T (0, 0) 0
theorem any_noS {α : Type} (p : α → Bool) (l : List α) (d : α) (k : Nat) (h : k < l.length) (h0 : (l.take k).any p = false) (h1 : p (l.getD k d) = false) : (l.take (k + 1)).any p = false := by
  rw [List.take_succ_eq_append_getElem h, List.any_append, h0]
  rw [List.getD_eq_getElem?_getD, List.getElem?_eq_getElem h] at h1
  simpa using h1
theorem any_yesS {α : Type} (p : α → Bool) (l : List α) (d : α) (k : Nat) (h : k < l.length) (h1 : p (l.getD k d) = true) : l.any p = true := by
  rw [List.getD_eq_getElem?_getD, List.getElem?_eq_getElem h] at h1
  exact List.any_eq_true.2 ⟨_, List.getElem_mem h, h1⟩
section
set_option maxRecDepth 20000
set_option maxHeartbeats 3200000
theorem indexNo_any (v c1 : Value) (p : Int → Bool) (l : List Int) (w : World) (hr : ReadI w v l) (hl : l.length ≤ 1048576)
    (HP : ∀ x, x ∈ l → ∀ w', Below w.heap.size w w' → Calls Tryz.prog 84 #[.int .i64 x, c1] w' fun e w'' => e = .returned (.bool (p x)) ∧ Below w'.heap.size w' w'') :
    Calls Tryz.prog 88 #[v, .func (.func 84) #[] #[c1]] w fun e w' => ∃ i, e = .returned (.int .i64 i) ∧ IxOkS (l.any p) i ∧ Below w.heap.size w w' := by
  have HQ := Lib.hid HP
  obtain ⟨a, cap, rfl, ha⟩ := hr
  have HA := Lib.hid ha
  clear ha HP
  go_enter Tryz.func88, Tryz.ntmps88
  go_wp2_with fail
  go_loopw [8] (fun iv wr => ∃ (k : Nat), k ≤ l.length ∧ iv = .int .i64 (k : Int) ∧ Hid ((l.take k).any p = false) ∧ Below w.heap.size w wr) (fun iv _ => l.length - (intOf iv).toNat)
  case atStart => exact ⟨0, by omega, rfl, Lib.hid rfl, Below.refl _ _⟩
  case round =>
    obtain ⟨k, hk, rfl, hno, hb⟩ := hrel
    by_cases hlt : k < l.length
    · obtain ⟨x0, rfl, hx⟩ := HA.out k hlt
      replace hx := (hb.cell (World.block_lt_of_cell? w _ hx)).trans hx
      have hm : l[k] ∈ l := List.getElem_mem hlt
      have hgd : l.getD k 0 = l[k] := by rw [List.getD_eq_getElem?_getD, List.getElem?_eq_getElem hlt]; rfl
      have HNO := Lib.hid (any_noS p l 0 k hlt hno.out)
      have HYE := Lib.hid (any_yesS p l 0 k hlt)
      rw [hgd] at HNO HYE
      obtain ⟨y, hy⟩ : ∃ y, y = l[k] := ⟨_, rfl⟩
      rw [← hy] at hx hm HNO HYE
      have HC := Lib.hid (HQ.out y hm)
      have HB := Lib.hid hb
      clear hy hm hb hgd
      have z0 : (0 : Int) ≤ (k : Int) := by omega
      have z1 : (k : Int) < (l.length : Int) := by omega
      cases hp : p y with
      | true =>
        have HE := Lib.hid (HYE.out hp)
        rw [hp] at HC
        clear hp
        go_wp2_with fail
        refine (HC.out _ HB.out).mono ?_
        rintro e w1 ⟨rfl, b1⟩
        have hb1 := HB.out.trans (b1.mono HB.out.size)
        clear b1 hx
        go_wp2_with fail
        go_ret
        exact ⟨_, rfl, ⟨fun _ => (by omega), fun h => absurd h (by rw [HE.out]; decide)⟩, hb1⟩
      | false =>
        have HE := Lib.hid (HNO.out hp)
        rw [hp] at HC
        clear hp
        go_wp2_with fail
        refine (HC.out _ HB.out).mono ?_
        rintro e w1 ⟨rfl, b1⟩
        have hb1 := HB.out.trans (b1.mono HB.out.size)
        clear b1 hx
        go_wp2_with fail
        go_roundw
        case rel => exact ⟨k + 1, by omega, by go_num, HE, hb1⟩
        case measure => simp [intOf]; omega
    · obtain rfl : k = l.length := by omega
      go_wp2_with fail
      go_ret
      exact ⟨_, rfl, ⟨fun h => absurd h (by have := hno.out; rw [List.take_length] at this; rw [this]; decide), fun _ => rfl⟩, hb⟩
theorem containsNo_any (v c1 : Value) (p : Int → Bool) (l : List Int) (w : World) (hr : ReadI w v l) (hl : l.length ≤ 1048576)
    (HP : ∀ x, x ∈ l → ∀ w', Below w.heap.size w w' → Calls Tryz.prog 84 #[.int .i64 x, c1] w' fun e w'' => e = .returned (.bool (p x)) ∧ Below w'.heap.size w' w'') :
    Calls Tryz.prog 51 #[v, .func (.func 84) #[] #[c1]] w fun e w' => e = .returned (.bool (l.any p)) ∧ Below w.heap.size w w' := by
  have HI := Lib.hid (indexNo_any v c1 p l w hr hl HP)
  clear hr HP
  go_enter Tryz.func51, Tryz.ntmps51
  go_wp2_with fail
  refine HI.out.mono ?_
  rintro e w' ⟨i, rfl, hi, hb⟩
  have HX : Hid (l.any p = decide (0 ≤ i)) := Lib.hid (by
    cases h : l.any p with
    | true => exact (decide_eq_true (hi.1 h)).symm
    | false => rw [hi.2 h]; rfl)
  clear hi
  go_wp2_with fail
  go_ret
  exact ⟨ret_b HX.out, hb⟩
theorem noSet_any (n x : Int) (hx : -9223372036854775808 ≤ x ∧ x ≤ 9223372036854775807) (b : Nat) (w : World) (h0 : w.cell? ⟨b, 0, none⟩ = some (.int .i64 n)) :
    Calls Tryz.prog 84 #[.int .i64 x, .pointer (some ⟨b, 0, none⟩)] w fun e w' => e = .returned (.bool (!isA n x)) ∧ Below w.heap.size w w' := by
  have HH := Lib.hid (fun w' => implIsA_any n x hx.1 hx.2 w')
  obtain ⟨q, hq⟩ : ∃ q, q = isA n x := ⟨_, rfl⟩
  rw [← hq] at HH ⊢
  clear hq
  go_enter Tryz.func84, Tryz.ntmps84
  go_wp2_with fail
  refine (HH.out _).mono ?_
  rintro e w2 ⟨rfl, b2⟩
  clear h0
  go_wp2_with fail
  go_ret
  exact ⟨rfl, b2⟩
theorem areSets_any (v : Value) (n : Int) (ag : List Int) (hbd : I64s ag) (w : World) (hr : ReadI w v ag) (hl : ag.length ≤ 1048576) :
    Calls Tryz.prog 48 #[.int .i64 n, v] w fun e w' => e = .returned (.bool (decide (0 ≤ n ∧ n ≤ 5) && ag.all (isA n))) ∧ Below w.heap.size w w' := by
  have hb1 := (Below.refl w.heap.size w).alloc (Nat.le_refl _) (.cells #[.int .i64 n] 3)
  have c0 := oneS w 3 (.int .i64 n)
  have HB1 := Lib.hid hb1
  have HCC := Lib.hid (fun w' => colCount_any n w')
  have HNO := Lib.hid (fun w' (hb : Below w.heap.size w w') (k0 : w'.cell? ⟨w.heap.size, 0, none⟩ = some (.int .i64 n)) => containsNo_any v (.pointer (some ⟨w.heap.size, 0, none⟩)) (fun x => !isA n x) ag w' (hr.kept hb) hl
    (fun x hx w'' hb' => noSet_any n x (hbd x hx) w.heap.size w'' (keepS k0 hb')))
  have HE : Hid (ag.all (isA n) = !ag.any (fun x => !isA n x)) := Lib.hid (by rw [List.all_eq_not_any_not])
  obtain ⟨q, hq⟩ : ∃ q, q = ag.any (fun x => !isA n x) := ⟨_, rfl⟩
  rw [← hq] at HNO HE
  rw [HE.out]
  obtain ⟨a, cap, rfl, -⟩ := hr
  clear hq hbd hb1 HE
  by_cases hn : 0 ≤ n ∧ n ≤ 5
  · rw [decide_eq_true hn] at HCC ⊢
    clear hn
    go_enter Tryz.func48, Tryz.ntmps48
    go_wp2_with fail
    refine (HCC.out _).mono ?_
    rintro e w3 ⟨rfl, rfl⟩
    go_wp2_with fail
    refine (HNO.out _ HB1.out c0).mono ?_
    rintro e w4 ⟨rfl, b4⟩
    have HB4 := Lib.hid (HB1.out.trans (b4.mono HB1.out.size))
    clear b4 c0
    go_wp2_with fail
    go_ret
    exact ⟨ret_b (by rw [Bool.true_and]), HB4.out⟩
  · rw [decide_eq_false hn] at HCC ⊢
    clear hn
    go_enter Tryz.func48, Tryz.ntmps48
    go_wp2_with fail
    refine (HCC.out _).mono ?_
    rintro e w3 ⟨rfl, rfl⟩
    clear c0
    go_wp2_with fail
    go_ret
    exact ⟨ret_b (by rw [Bool.false_and]), HB1.out⟩
end
end Go.Proofs.YtnbjcelfdppkcadGreat
