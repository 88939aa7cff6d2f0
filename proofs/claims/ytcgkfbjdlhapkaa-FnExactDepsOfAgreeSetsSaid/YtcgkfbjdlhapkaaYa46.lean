/- Texts of this claim, merged: PdH, ArS. Conditions: as stated. -/
import Derived.Test.YtcgkfbjdlhapkaaPdGm
import Derived.Test.YtcgkfbjdlhapkaaYa12
import Derived.Test.YtcgkfbjdlhapkaaYa17
namespace Go.Proofs.Ytcgkfbjdlhapkaa
open Go.RowKit

theorem dedTo_wf {n : Int} {l : List (Int × Int)} (ha : arD n l = true) : ∀ d ∈ dedTo n l l.length, (Lit.int .i64 d.1).wf = true ∧ (Lit.int .i64 d.2).wf = true := by
  intro d hd
  obtain ⟨C, rfl, h1, hC, -, hl⟩ := arD_n ha
  obtain ⟨j, hj, rfl⟩ := (dedTo_mem (n := (C : Int)) (l := l) l.length).1 hd
  obtain ⟨L, R, -, hLC, hL, hR, -, he⟩ := red_of hC ha hl hj
  rw [he]
  exact ⟨wf_small11 _ (redN_facts hC hl hL (show R < 5 by omega) 5 (Nat.le_refl _)).1, wf_small11 R (by omega)⟩
section
set_option maxRecDepth 20000
set_option maxHeartbeats 3200000
theorem implCoverOf_any (v : Value) (n : Int) (l : List (Int × Int)) (_w0 : (Lit.int .i64 n).wf = true) (bd : ∀ d ∈ l, (Lit.int .i64 d.1).wf = true ∧ (Lit.int .i64 d.2).wf = true) (w : World) (hr : ReadD w v l) (hl : l.length ≤ 1048576) :
    Calls Try.prog 70 #[.int .i64 n, v] w (RetD (coL11 n l) w) := by
  have HAD := Lib.hid (implAreDeps_any v n l _w0 bd w hr hl)
  cases ha : arD n l with
  | false =>
    rw [ha] at HAD
    have HE : Hid (coL11 n l = []) := Lib.hid (by unfold coL11; rw [ha]; rfl)
    rw [HE.out]
    obtain ⟨a, cap, rfl, -⟩ := hr
    clear ha HE bd
    go_enter Try.func70, Try.ntmps70
    go_wp2_with fail
    refine HAD.out.mono ?_
    rintro e w2 ⟨rfl, b2⟩
    have HB2 := Lib.hid b2
    clear b2
    go_wp2_with fail
    go_ret
    exact ⟨_, rfl, OwnD.nil _ _, HB2.out⟩
  | true =>
    rw [ha] at HAD
    obtain ⟨-, -, -, -, hl20, -⟩ := arD_n ha
    have HRD := Lib.hid (fun w' (hb : Below w.heap.size w w') => reduced_any v n l _w0 bd w' (hr.kept hb) (by omega))
    have HE : Hid (coL11 n l = rmL n (dedTo n l l.length).length (dedTo n l l.length) 0) := Lib.hid (by unfold coL11; rw [ha]; rfl)
    have HWF := Lib.hid (dedTo_wf ha)
    have hdl := dedTo_len n l l.length
    rw [HE.out]
    obtain ⟨q, hq⟩ : ∃ q, q = dedTo n l l.length := ⟨_, rfl⟩
    rw [← hq] at HRD HWF hdl ⊢
    obtain ⟨a, cap, rfl, -⟩ := hr
    clear ha HE bd hq
    go_enter Try.func70, Try.ntmps70
    go_wp2_with fail
    refine HAD.out.mono ?_
    rintro e w2 ⟨rfl, b2⟩
    have HB2 := Lib.hid b2
    clear b2
    go_wp2_with fail
    refine (HRD.out _ HB2.out).mono ?_
    rintro e w3 ⟨v3, rfl, o3, b3⟩
    have HB3 := Lib.hid (HB2.out.trans (b3.mono HB2.out.size))
    have HO3 := Lib.hid (o3.base HB2.out.size)
    clear b3 o3
    go_wp2_with fail
    go_loopw [5, 6] (fun ov iv wr => ∃ (i : Nat) (r : List (Int × Int)), i ≤ r.length ∧ r.length ≤ 20 ∧ iv = .int .i64 (i : Int) ∧ Hid (rmL n (r.length - i) r i = rmL n q.length q 0) ∧ Hid (∀ d ∈ r, (Lit.int .i64 d.1).wf = true ∧ (Lit.int .i64 d.2).wf = true) ∧ Hid (OwnD wr w.heap.size ov r) ∧ Hid (Below w.heap.size w wr)) (fun ov iv _ => lenOf11 ov - (intOf iv).toNat)
    case atStart => exact ⟨0, q, by omega, by omega, rfl, Lib.hid rfl, HWF, HO3, HB3⟩
    case round =>
      clear HO3 HB3 HWF hdl
      obtain ⟨i, r, hi, hr20, rfl, HF, HWF, HO, HB⟩ := hrel
      obtain ⟨w4, hw⟩ : ∃ w', w' = wr := ⟨_, rfl⟩
      rw [← hw] at HO HB ⊢
      clear hw
      have hcap := HO.out.capOk
      have hrd := HO.out.read
      obtain ⟨a4, c4, hov⟩ := HO.out.shape
      by_cases hlt : i < r.length
      · have z0 : (0 : Int) ≤ (i : Int) := by omega
        have z1 : (i : Int) < (r.length : Int) := by omega
        have HSW := Lib.hid (spareWhole_any _ n r _w0 HWF.out i hlt w4 hrd (by omega) hcap)
        have HOT := Lib.hid (fun w' (hb : Below w4.heap.size w4 w') => others_any _ i r w' (hrd.kept hb) (by omega) hlt hcap)
        have HST := Lib.hid ((rm_step (n := n) hlt).symm.trans HF.out)
        have HEL := Lib.hid (erase_len hlt)
        have HWE := Lib.hid (erase_wf HWF.out i)
        subst hov
        clear hrd hcap
        cases hm : impB n (r.eraseIdx i) (r.getD i (0, 0)) with
        | true =>
          rw [hm] at HST HSW
          have HF5 := Lib.hid (by have h := HST.out; rw [if_pos rfl] at h; exact h)
          clear hm
          go_wp2_with fail
          refine HSW.out.mono ?_
          rintro e w5 ⟨rfl, b5⟩
          have HB5 := Lib.hid (HB.out.trans (b5.mono HB.out.size))
          have HO5 := Lib.hid (HOT.out _ b5)
          clear b5 HOT
          go_wp2_with fail
          refine HO5.out.mono ?_
          rintro e w6 ⟨v6, rfl, o6, b6⟩
          have HB6 := Lib.hid (HB5.out.trans (b6.mono HB5.out.size))
          have HO6 := Lib.hid (o6.base HB5.out.size)
          have hel := HEL.out
          obtain ⟨a6, c6, hv6⟩ := HO6.out.shape
          subst hv6
          clear o6 b6
          go_wp2_with fail
          go_roundw
          case rel => exact ⟨i, r.eraseIdx i, by omega, by omega, rfl, HF5, HWE, HO6, HB6⟩
          case measure => simp [intOf, lenOf11]; omega
        | false =>
          rw [hm] at HST HSW
          have HF5 := Lib.hid (by have h := HST.out; rw [if_neg (by decide)] at h; exact h)
          clear hm HOT
          go_wp2_with fail
          refine HSW.out.mono ?_
          rintro e w5 ⟨rfl, b5⟩
          have HB5 := Lib.hid (HB.out.trans (b5.mono HB.out.size))
          have HO5 := Lib.hid (HO.out.below b5 (fun k hk => (HO.out.lt k hk).2))
          clear b5
          go_wp2_with fail
          go_roundw
          case rel => exact ⟨i + 1, r, by omega, hr20, by go_num, HF5, HWF, HO5, HB5⟩
          case measure => simp [intOf, lenOf11]; omega
      · obtain rfl : i = r.length := by omega
        have z0 : ¬ (((r.length : Nat) : Int) < ((r.length : Nat) : Int)) := by omega
        have HE := Lib.hid ((rm_end (n := n) hlt).symm.trans HF.out)
        subst hov
        clear hrd hcap
        go_wp2_with fail
        go_ret
        exact ⟨.slice a4 r.length c4, by first | rfl | kernel_rfl, by rw [← HE.out]; exact HO.out, HB.out⟩
end
end Go.Proofs.Ytcgkfbjdlhapkaa
namespace Go.Proofs.Ytcgkfbjdlhapkaa
open Go.RowKit

def IxOkS (b : Bool) (i : Int) : Prop := (b = true → 0 ≤ i) ∧ (b = false → i = -1)
theorem keepS {w w' : World} {p : Addr} {v : Value} (h : w.cell? p = some v) (b : Below w.heap.size w w') : w'.cell? p = some v := (b.cell (World.block_lt_of_cell? w _ h)).trans h
theorem oneS (w : World) (T : TypeId) (a : Value) : (w.alloc (.cells #[a] T)).cell? ⟨w.heap.size, 0, none⟩ = some a := World.cell?_alloc_mark w #[a] T (0, 0) 0
theorem any_noS {α : Type} (p : α → Bool) (l : List α) (d : α) (k : Nat) (h : k < l.length) (h0 : (l.take k).any p = false) (h1 : p (l.getD k d) = false) : (l.take (k + 1)).any p = false := by
  rw [List.take_succ_eq_append_getElem h, List.any_append, h0]
  rw [List.getD_eq_getElem?_getD, List.getElem?_eq_getElem h] at h1
  simpa using h1
theorem any_yesS {α : Type} (p : α → Bool) (l : List α) (d : α) (k : Nat) (h : k < l.length) (h1 : p (l.getD k d) = true) : l.any p = true := by
  rw [List.getD_eq_getElem?_getD, List.getElem?_eq_getElem h] at h1
  exact List.any_eq_true.2 ⟨_, List.getElem_mem h, h1⟩
section
set_option maxRecDepth 20000
set_option maxHeartbeats 3200000
theorem indexNo_any (v c1 : Value) (p : Int → Bool) (l : List Int) (w : World) (hr : ReadI w v l) (hl : l.length ≤ 1048576)
    (HP : ∀ x, x ∈ l → ∀ w', Below w.heap.size w w' → Calls Try.prog 91 #[.int .i64 x, c1] w' fun e w'' => e = .returned (.bool (p x)) ∧ Below w'.heap.size w' w'') :
    Calls Try.prog 96 #[v, .func (.func 91) #[] #[c1]] w fun e w' => ∃ i, e = .returned (.int .i64 i) ∧ IxOkS (l.any p) i ∧ Below w.heap.size w w' := by
  have HQ := Lib.hid HP
  obtain ⟨a, cap, rfl, ha⟩ := hr
  have HA := Lib.hid ha
  clear ha HP
  go_enter Try.func96, Try.ntmps96
  go_wp2_with fail
  go_loopw [8] (fun iv wr => ∃ (k : Nat), k ≤ l.length ∧ iv = .int .i64 (k : Int) ∧ Hid ((l.take k).any p = false) ∧ Below w.heap.size w wr) (fun iv _ => l.length - (intOf iv).toNat)
  case atStart => exact ⟨0, by omega, rfl, Lib.hid rfl, Below.refl _ _⟩
  case round =>
    obtain ⟨k, hk, rfl, hno, hb⟩ := hrel
    by_cases hlt : k < l.length
    · obtain ⟨x0, rfl, hx⟩ := HA.out k hlt
      replace hx := (hb.cell (World.block_lt_of_cell? w _ hx)).trans hx
      have hm : l[k] ∈ l := List.getElem_mem hlt
      have hgd : l.getD k 0 = l[k] := by rw [List.getD_eq_getElem?_getD, List.getElem?_eq_getElem hlt]; rfl
      have HNO := Lib.hid (any_noS p l 0 k hlt hno.out)
      have HYE := Lib.hid (any_yesS p l 0 k hlt)
      rw [hgd] at HNO HYE
      obtain ⟨y, hy⟩ : ∃ y, y = l[k] := ⟨_, rfl⟩
      rw [← hy] at hx hm HNO HYE
      have HC := Lib.hid (HQ.out y hm)
      have HB := Lib.hid hb
      clear hy hm hb hgd
      have z0 : (0 : Int) ≤ (k : Int) := by omega
      have z1 : (k : Int) < (l.length : Int) := by omega
      cases hp : p y with
      | true =>
        have HE := Lib.hid (HYE.out hp)
        rw [hp] at HC
        clear hp
        go_wp2_with fail
        refine (HC.out _ HB.out).mono ?_
        rintro e w1 ⟨rfl, b1⟩
        have hb1 := HB.out.trans (b1.mono HB.out.size)
        clear b1 hx
        go_wp2_with fail
        go_ret
        exact ⟨_, rfl, ⟨fun _ => (by omega), fun h => absurd h (by rw [HE.out]; decide)⟩, hb1⟩
      | false =>
        have HE := Lib.hid (HNO.out hp)
        rw [hp] at HC
        clear hp
        go_wp2_with fail
        refine (HC.out _ HB.out).mono ?_
        rintro e w1 ⟨rfl, b1⟩
        have hb1 := HB.out.trans (b1.mono HB.out.size)
        clear b1 hx
        go_wp2_with fail
        go_roundw
        case rel => exact ⟨k + 1, by omega, by go_num, HE, hb1⟩
        case measure => simp [intOf]; omega
    · obtain rfl : k = l.length := by omega
      go_wp2_with fail
      go_ret
      exact ⟨_, rfl, ⟨fun h => absurd h (by have := hno.out; rw [List.take_length] at this; rw [this]; decide), fun _ => rfl⟩, hb⟩
theorem containsNo_any (v c1 : Value) (p : Int → Bool) (l : List Int) (w : World) (hr : ReadI w v l) (hl : l.length ≤ 1048576)
    (HP : ∀ x, x ∈ l → ∀ w', Below w.heap.size w w' → Calls Try.prog 91 #[.int .i64 x, c1] w' fun e w'' => e = .returned (.bool (p x)) ∧ Below w'.heap.size w' w'') :
    Calls Try.prog 53 #[v, .func (.func 91) #[] #[c1]] w fun e w' => e = .returned (.bool (l.any p)) ∧ Below w.heap.size w w' := by
  have HI := Lib.hid (indexNo_any v c1 p l w hr hl HP)
  clear hr HP
  go_enter Try.func53, Try.ntmps53
  go_wp2_with fail
  refine HI.out.mono ?_
  rintro e w' ⟨i, rfl, hi, hb⟩
  have HX : Hid (l.any p = decide (0 ≤ i)) := Lib.hid (by
    cases h : l.any p with
    | true => exact (decide_eq_true (hi.1 h)).symm
    | false => rw [hi.2 h]; rfl)
  clear hi
  go_wp2_with fail
  go_ret
  exact ⟨ret_b HX.out, hb⟩
theorem noSet_any (n x : Int) (hx : -9223372036854775808 ≤ x ∧ x ≤ 9223372036854775807) (b : Nat) (w : World) (h0 : w.cell? ⟨b, 0, none⟩ = some (.int .i64 n)) :
    Calls Try.prog 91 #[.int .i64 x, .pointer (some ⟨b, 0, none⟩)] w fun e w' => e = .returned (.bool (!isA n x)) ∧ Below w.heap.size w w' := by
  have HH := Lib.hid (fun w' => implIsA_any n x hx.1 hx.2 w')
  obtain ⟨q, hq⟩ : ∃ q, q = isA n x := ⟨_, rfl⟩
  rw [← hq] at HH ⊢
  clear hq
  go_enter Try.func91, Try.ntmps91
  go_wp2_with fail
  refine (HH.out _).mono ?_
  rintro e w2 ⟨rfl, b2⟩
  clear h0
  go_wp2_with fail
  go_ret
  exact ⟨rfl, b2⟩
theorem areSets_any (v : Value) (n : Int) (ag : List Int) (hbd : I64s ag) (w : World) (hr : ReadI w v ag) (hl : ag.length ≤ 1048576) :
    Calls Try.prog 50 #[.int .i64 n, v] w fun e w' => e = .returned (.bool (decide (0 ≤ n ∧ n ≤ 5) && ag.all (isA n))) ∧ Below w.heap.size w w' := by
  have hb1 := (Below.refl w.heap.size w).alloc (Nat.le_refl _) (.cells #[.int .i64 n] 3)
  have c0 := oneS w 3 (.int .i64 n)
  have HB1 := Lib.hid hb1
  have HCC := Lib.hid (fun w' => colCount_any n w')
  have HNO := Lib.hid (fun w' (hb : Below w.heap.size w w') (k0 : w'.cell? ⟨w.heap.size, 0, none⟩ = some (.int .i64 n)) => containsNo_any v (.pointer (some ⟨w.heap.size, 0, none⟩)) (fun x => !isA n x) ag w' (hr.kept hb) hl
    (fun x hx w'' hb' => noSet_any n x (hbd x hx) w.heap.size w'' (keepS k0 hb')))
  have HE : Hid (ag.all (isA n) = !ag.any (fun x => !isA n x)) := Lib.hid (by rw [List.all_eq_not_any_not])
  obtain ⟨q, hq⟩ : ∃ q, q = ag.any (fun x => !isA n x) := ⟨_, rfl⟩
  rw [← hq] at HNO HE
  rw [HE.out]
  obtain ⟨a, cap, rfl, -⟩ := hr
  clear hq hbd hb1 HE
  by_cases hn : 0 ≤ n ∧ n ≤ 5
  · rw [decide_eq_true hn] at HCC ⊢
    clear hn
    go_enter Try.func50, Try.ntmps50
    go_wp2_with fail
    refine (HCC.out _).mono ?_
    rintro e w3 ⟨rfl, rfl⟩
    go_wp2_with fail
    refine (HNO.out _ HB1.out c0).mono ?_
    rintro e w4 ⟨rfl, b4⟩
    have HB4 := Lib.hid (HB1.out.trans (b4.mono HB1.out.size))
    clear b4 c0
    go_wp2_with fail
    go_ret
    exact ⟨ret_b (by rw [Bool.true_and]), HB4.out⟩
  · rw [decide_eq_false hn] at HCC ⊢
    clear hn
    go_enter Try.func50, Try.ntmps50
    go_wp2_with fail
    refine (HCC.out _).mono ?_
    rintro e w3 ⟨rfl, rfl⟩
    clear c0
    go_wp2_with fail
    go_ret
    exact ⟨ret_b (by rw [Bool.false_and]), HB1.out⟩
end
end Go.Proofs.Ytcgkfbjdlhapkaa
