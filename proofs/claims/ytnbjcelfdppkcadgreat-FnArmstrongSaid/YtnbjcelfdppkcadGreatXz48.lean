/- Texts of this claim, merged: AxS, ExB, FnArB. Conditions: as stated. -/
import Derived.Test.YtnbjcelfdppkcadGreatXz35
import Derived.Test.YtnbjcelfdppkcadGreatXz46
import Derived.Test.YtnbjcelfdppkcadGreatXz44
import Derived.Test.YtnbjcelfdppkcadGreatExAm
import Derived.Test.YtnbjcelfdppkcadGreatXz3
import Derived.Test.YtnbjcelfdppkcadGreatArDrm
import Derived.Test.YtnbjcelfdppkcadGreatXz39
import Derived.Test.YtnbjcelfdppkcadGreatAxDm
import Derived.Test.YtnbjcelfdppkcadGreatXz34
import Derived.Test.YtnbjcelfdppkcadGreatXz15
import Derived.Test.YtnbjcelfdppkcadGreatPcCm
namespace Go.Proofs.YtnbjcelfdppkcadGreat
open Go.RowKit

set_option maxHeartbeats 1600000 in
theorem indexSat_any (v c1 c2 : Value) (p : Int × Int → Bool) (l : List (Int × Int)) (w : World) (hr : ReadD w v l) (hl : l.length ≤ 1048576)
    (HP : ∀ x, x ∈ l → ∀ w', Below w.heap.size w w' → Calls Tryz.prog 46 #[.agg #[.int .i64 x.1, .int .i64 x.2], c1, c2] w' fun e w'' => e = .returned (.bool (p x)) ∧ Below w'.heap.size w' w'') :
    Calls Tryz.prog 81 #[v, .func (.func 46) #[] #[c1, c2]] w fun e w' => ∃ i, e = .returned (.int .i64 i) ∧ IxOk (l.any p) i ∧ Below w.heap.size w w' := by
  have HQ := Lib.hid HP
  obtain ⟨a, cap, rfl, ha⟩ := hr
  have HA := Lib.hid ha
  clear ha HP
  go_enter Tryz.func81, Tryz.ntmps81
  go_wp2_with fail
  go_loopw [8] (fun iv wr => ∃ (k : Nat), k ≤ l.length ∧ iv = .int .i64 (k : Int) ∧ Hid ((l.take k).any p = false) ∧ Below w.heap.size w wr) (fun iv _ => l.length - (intOf iv).toNat)
  case atStart => exact ⟨0, by omega, rfl, Lib.hid rfl, Below.refl _ _⟩
  case round =>
    obtain ⟨k, hk, rfl, hno, hb⟩ := hrel
    by_cases hlt : k < l.length
    · obtain ⟨b, o, rfl, h0, h1⟩ := HA.out k hlt
      replace h0 := (hb.cell (World.block_lt_of_cell? w _ h0)).trans h0
      replace h1 := (hb.cell (World.block_lt_of_cell? w _ h1)).trans h1
      have hm : l.getD k (0, 0) ∈ l := by rw [List.getD_eq_getElem?_getD, List.getElem?_eq_getElem hlt]; exact List.getElem_mem hlt
      have HNO := Lib.hid (any_no p l (0, 0) k hlt hno.out)
      have HYE := Lib.hid (any_yes p l (0, 0) k hlt)
      obtain ⟨⟨y0, y1⟩, hy⟩ : ∃ y, y = l.getD k (0, 0) := ⟨_, rfl⟩
      rw [← hy] at h0 h1 hm HNO HYE
      simp only at h0 h1
      have HC := Lib.hid (HQ.out (y0, y1) hm)
      have HB := Lib.hid hb
      clear hy hm hb
      have z0 : (0 : Int) ≤ (k : Int) := by omega
      have z1 : (k : Int) < (l.length : Int) := by omega
      cases hp : p (y0, y1) with
      | true =>
        have HE := Lib.hid (HYE.out hp)
        rw [hp] at HC
        clear hp
        go_wp2_with fail
        refine (HC.out _ HB.out).mono ?_
        rintro e w1 ⟨rfl, b1⟩
        have hb1 := HB.out.trans (b1.mono HB.out.size)
        clear b1 h0 h1
        go_wp2_with fail
        go_ret
        exact ⟨_, rfl, ⟨fun _ => (by omega), fun h => absurd h (by rw [HE.out]; decide)⟩, hb1⟩
      | false =>
        have HE := Lib.hid (HNO.out hp)
        rw [hp] at HC
        clear hp
        go_wp2_with fail
        refine (HC.out _ HB.out).mono ?_
        rintro e w1 ⟨rfl, b1⟩
        have hb1 := HB.out.trans (b1.mono HB.out.size)
        clear b1 h0 h1
        go_wp2_with fail
        go_roundw
        case rel => exact ⟨k + 1, by omega, by go_num, HE, hb1⟩
        case measure => simp [intOf]; omega
    · obtain rfl : k = l.length := by omega
      go_wp2_with fail
      go_ret
      exact ⟨_, rfl, ⟨fun h => absurd h (by have := hno.out; rw [List.take_length] at this; rw [this]; decide), fun _ => rfl⟩, hb⟩
set_option maxHeartbeats 1600000 in
theorem containsSat_any (v c1 c2 : Value) (p : Int × Int → Bool) (l : List (Int × Int)) (w : World) (hr : ReadD w v l) (hl : l.length ≤ 1048576)
    (HP : ∀ x, x ∈ l → ∀ w', Below w.heap.size w w' → Calls Tryz.prog 46 #[.agg #[.int .i64 x.1, .int .i64 x.2], c1, c2] w' fun e w'' => e = .returned (.bool (p x)) ∧ Below w'.heap.size w' w'') :
    Calls Tryz.prog 45 #[v, .func (.func 46) #[] #[c1, c2]] w fun e w' => e = .returned (.bool (l.any p)) ∧ Below w.heap.size w w' := by
  have HI := Lib.hid (indexSat_any v c1 c2 p l w hr hl HP)
  clear hr HP
  go_enter Tryz.func45, Tryz.ntmps45
  go_wp2_with fail
  refine HI.out.mono ?_
  rintro e w' ⟨i, rfl, hi, hb⟩
  have HX : Hid (l.any p = decide (0 ≤ i)) := Lib.hid (by
    cases h : l.any p with
    | true => exact (decide_eq_true (hi.1 h)).symm
    | false => rw [hi.2 h]; rfl)
  clear hi
  go_wp2_with fail
  go_ret
  exact ⟨ret_b HX.out, hb⟩
set_option maxHeartbeats 1600000 in
theorem satFun_any (c m : Int) (v : Value) (ll : List (List Int)) (_w1 : (Lit.int .i64 m).wf = true) (b : Nat) (d0 d1 : Int) (_w2 : (Lit.int .i64 d0).wf = true) (_w3 : (Lit.int .i64 d1).wf = true) (w : World) (he : Env2 w b c m v ll) (hl : ll.length ≤ 1048576) (ht : ∀ i, i < ll.length → (ll.getD i []).length ≤ 1048576) :
    Calls Tryz.prog 46 #[.agg #[.int .i64 d0, .int .i64 d1], .pointer (some ⟨b, 0, none⟩), .pointer (some ⟨b + 1, 0, none⟩)] w fun e w' => e = .returned (.bool (!holdsD c ll m d0 d1)) ∧ Below w.heap.size w w' := by
  have hb1 := (Below.refl w.heap.size w).alloc (Nat.le_refl _) (.cells #[.int .i64 d0, .int .i64 d1] 35)
  have HB := Lib.hid hb1
  obtain ⟨c0, c1⟩ := zero2 w 35 (.int .i64 d0) (.int .i64 d1)
  have he' := he.kept hb1
  have HH := Lib.hid (implHoldsDep_any c m d0 d1 v ll _w1 _w2 _w3 (w.alloc (.cells #[.int .i64 d0, .int .i64 d1] 35)) he'.s hl ht)
  obtain ⟨q, hq⟩ : ∃ q, q = holdsD c ll m d0 d1 := ⟨_, rfl⟩
  rw [← hq] at HH ⊢
  obtain ⟨t0, t1, m0, hs⟩ := he'
  obtain ⟨a, cap, rfl, -⟩ := hs
  clear hb1 he ht hq
  go_enter Tryz.func46, Tryz.ntmps46
  go_wp2_with fail
  refine HH.out.mono ?_
  rintro e w2 ⟨rfl, b2⟩
  have hb2 := HB.out.trans (b2.mono HB.out.size)
  clear b2 c0 c1 t0 t1 m0
  go_wp2_with fail
  go_ret
  exact ⟨rfl, hb2⟩
set_option maxHeartbeats 3200000 in
theorem implSat_any (c m : Int) (v vl : Value) (ll : List (List Int)) (l : List (Int × Int)) (_w1 : (Lit.int .i64 m).wf = true) (bdl : ∀ d ∈ l, (Lit.int .i64 d.1).wf = true ∧ (Lit.int .i64 d.2).wf = true) (w : World) (hr : ReadSS w v ll) (hl : ll.length ≤ 1048576) (ht : ∀ i, i < ll.length → (ll.getD i []).length ≤ 1048576) (hrd : ReadD w vl l) (hld : l.length ≤ 1048576) :
    Calls Tryz.prog 15 #[.agg #[.int .i64 c, v], .int .i64 m, vl] w fun e w' => e = .returned (.bool (satB c ll m l)) ∧ Below w.heap.size w w' := by
  have hb1 := (Below.refl w.heap.size w).alloc (Nat.le_refl _) (.cells #[.int .i64 c, v] 29)
  have hb2 := hb1.alloc hb1.size (.cells #[.int .i64 m] 3)
  have he := Env2.mk' (c := c) (m := m) hr 29 3
  have HM := Lib.hid (inMode_any c m v ll _ he.s hl ht)
  have HB := Lib.hid hb2
  have HEV := Lib.hid he
  have HCO := Lib.hid (fun w' (h : Env2 w' w.heap.size c m v ll) (hb : Below w.heap.size w w') => containsSat_any vl (.pointer (some ⟨w.heap.size, 0, none⟩)) (.pointer (some ⟨w.heap.size + 1, 0, none⟩)) (fun d => !holdsD c ll m d.1 d.2) l w' (hrd.kept hb) hld
    (fun x hx w'' hb' => satFun_any c m v ll _w1 w.heap.size x.1 x.2 (bdl x hx).1 (bdl x hx).2 w'' (h.kept hb') hl ht))
  have HE : Hid (satB c ll m l = (!l.any (fun d => !holdsD c ll m d.1 d.2) && fineT c ll m)) := Lib.hid (by
    unfold satB
    rw [List.all_eq_not_any_not])
  obtain ⟨q, hq⟩ : ∃ q, q = l.any (fun d => !holdsD c ll m d.1 d.2) := ⟨_, rfl⟩
  rw [← hq] at HCO HE
  rw [HE.out]
  clear hq HE
  have hs1 : (w.alloc (.cells #[.int .i64 c, v] 29)).heap.size = w.heap.size + 1 := by simp
  obtain ⟨al, capl, rfl, -⟩ := hrd
  cases hf : fineT c ll m with
  | false =>
    rw [hf] at HM
    obtain ⟨t0, t1, m0, hs⟩ := he
    obtain ⟨a, cap, rfl, -⟩ := hs
    clear hf hb1 hb2 ht bdl
    go_enter Tryz.func15, Tryz.ntmps15
    go_wp2_with fail
    refine HM.out.mono ?_
    rintro e w1 ⟨rfl, b1⟩
    have hb3 := HB.out.trans (b1.mono HB.out.size)
    clear b1 t0 t1 m0
    go_wp2_with fail
    go_ret
    exact ⟨ret_b (by rw [Bool.and_false]), hb3⟩
  | true =>
    rw [hf] at HM
    obtain ⟨t0, t1, m0, hs⟩ := he
    obtain ⟨a, cap, rfl, -⟩ := hs
    clear hf hb1 hb2 ht bdl
    go_enter Tryz.func15, Tryz.ntmps15
    go_wp2_with fail
    refine HM.out.mono ?_
    rintro e w1 ⟨rfl, b1⟩
    have HB3 := Lib.hid (HB.out.trans (b1.mono HB.out.size))
    have HG := Lib.hid (HCO.out w1 (HEV.out.kept b1) HB3.out)
    clear b1 t0 t1 m0
    go_wp2_with fail
    refine HG.out.mono ?_
    rintro e w2 ⟨rfl, b2⟩
    have HB4 := Lib.hid (HB3.out.trans (b2.mono HB3.out.size))
    clear b2
    go_wp2_with fail
    go_ret
    exact ⟨ret_b (by rw [Bool.and_true]), HB4.out⟩
end Go.Proofs.YtnbjcelfdppkcadGreat
namespace Go.Proofs.YtnbjcelfdppkcadGreat
theorem tot_leE : ∀ (l : List (List Int)) (m : Nat), (∀ r ∈ l, r.length ≤ m) → tot l ≤ l.length * m
  | [], _, _ => Nat.zero_le _
  | r :: l, m, h => by
    have h1 := tot_leE l m (fun x hx => h x (List.mem_cons_of_mem _ hx))
    have h2 := h r List.mem_cons_self
    have e : tot (r :: l) = r.length + tot l := by unfold tot; simp
    rw [e, List.length_cons, Nat.succ_mul]
    omega
theorem arm_bd (n : Int) (l : List (Int × Int)) : (armL n l).length ≤ 33 ∧ tot (armL n l) ≤ 165 := by
  unfold armL
  split
  · rename_i h
    obtain ⟨C, rfl, hC1, hC5, -, -⟩ := arD_n h
    have hc := cls_len (C : Int) l
    have h1 : (rowsA C (armP C (clsL (C : Int) l) (clsL (C : Int) l).length)).length ≤ 33 := by
      rw [rowsA_len]
      have := armP_len C (clsL (C : Int) l) (clsL (C : Int) l).length
      omega
    have h2 := tot_leE (rowsA C (armP C (clsL (C : Int) l) (clsL (C : Int) l).length)) 5 (fun r hr => by
      unfold rowsA at hr
      rw [List.mem_map] at hr
      obtain ⟨p, -, rfl⟩ := hr
      rw [rowA_len]
      exact hC5)
    show (rowsA C (armP C (clsL (C : Int) l) (clsL (C : Int) l).length)).length ≤ 33 ∧ tot (rowsA C (armP C (clsL (C : Int) l) (clsL (C : Int) l).length)) ≤ 165
    exact ⟨h1, by omega⟩
  · exact ⟨Nat.zero_le _, Nat.zero_le _⟩
theorem ctr_bd (n : Int) (l : List (Int × Int)) (d : Int × Int) : (ctrL n l d).length ≤ 2 ∧ tot (ctrL n l d) ≤ 10 := by
  unfold ctrL
  split
  · rename_i h
    obtain ⟨C, rfl, hC1, hC5, -, -⟩ := arD_n h.1
    have h2 := tot_leE [rowA (2 ^ C - 1) 0 C, rowA (clo l d.1.toNat) 1 C] 5 (fun r hr => by
      rcases List.mem_cons.1 hr with rfl | hr
      · rw [rowA_len]; exact hC5
      · rw [List.mem_singleton.1 hr, rowA_len]; exact hC5)
    exact ⟨Nat.le_refl _, h2⟩
  · exact ⟨Nat.zero_le _, Nat.zero_le _⟩
end Go.Proofs.YtnbjcelfdppkcadGreat
namespace Go.Proofs.YtnbjcelfdppkcadGreat
open Go.RowKit

theorem eqTb_same (c : Int) (l : List (List Int)) : eqTb c c l l = true := by
  unfold eqTb
  simp
/-- The example table. -/
structure RT (n : Int) (l : List (Int × Int)) (is : Bool) (tc : Int) (tl : List (List Int)) : Prop where
  a1 : ∀ w' v, ReadD w' v l → Calls Tryz.prog 6 #[.int .i64 n, v] w' (RetTB tc tl is w')
  a2 : ∀ w' v, ReadD w' v l → Calls Tryz.prog 7 #[.int .i64 n, v] w' (RetTB tc tl is w')
  et : ∀ w' u v, ReadSS w' u tl → ReadSS w' v tl → Calls Tryz.prog 8 #[.agg #[.int .i64 tc, u], .agg #[.int .i64 tc, v]] w' fun e w'' => e = .returned (.bool true) ∧ Below w'.heap.size w' w''
  ar : ∀ w' v, ReadD w' v l → Calls Tryz.prog 9 #[.int .i64 n, v] w' fun e w'' => e = .returned (.bool is) ∧ Below w'.heap.size w' w''
  ex : is = true → ∃ C : Nat, n = (C : Int) ∧ C ≤ 5 ∧ ∀ X R : Nat, X < 2 ^ C → R < C → ∃ q : Bool, (∀ w' u, ReadSS w' u tl → Calls Tryz.prog 10 #[.agg #[.int .i64 tc, u], .int .i64 0, .agg #[.int .i64 (X : Int), .int .i64 (R : Int)]] w' fun e w'' => e = .returned (.bool q) ∧ Below w'.heap.size w' w'') ∧
    ∀ w' v, ReadD w' v l → Calls Tryz.prog 11 #[.int .i64 n, v, .agg #[.int .i64 (X : Int), .int .i64 (R : Int)]] w' fun e w'' => e = .returned (.bool q) ∧ Below w'.heap.size w' w''
  it : is = true → ∀ w' u, ReadSS w' u tl → Calls Tryz.prog 14 #[.agg #[.int .i64 tc, u]] w' fun e w'' => e = .returned (.bool true) ∧ Below w'.heap.size w' w''
  sa : is = true → ∀ w' u v, ReadSS w' u tl → ReadD w' v l → Calls Tryz.prog 15 #[.agg #[.int .i64 tc, u], .int .i64 0, v] w' fun e w'' => e = .returned (.bool true) ∧ Below w'.heap.size w' w''
theorem rt_of {w : World} {n : Int} {u : Value} {l : List (Int × Int)} (h : DrL w n u l) : ∃ is tc tl, RT n l is tc tl := by
  obtain ⟨⟨n0, n1⟩, hbd, -, -⟩ := h
  have hl20 := hbd.1
  have hw := hbd.wf
  have hn := wf_sm (x := n) (by omega) (by omega)
  have hbd2 := arm_bd n l
  have hrw : ∀ i, i < (armL n l).length → ((armL n l).getD i []).length ≤ 1048576 := fun i hi => by have := tot_get hi; omega
  refine ⟨arD n l, armC n l, armL n l, fun w' v hr => implArm_any v n l hn hw w' hr (by omega), fun w' v hr => armTable12_any v n l w' hr (by omega), fun w' u v hu hv => ?_, fun w' v hr => areDeps10_any v n l w' hr (by omega), fun ha => ?_, fun ha w' u hu => ?_, fun ha w' u v hu hr => ?_⟩
  · have := equalTables_any (armC n l) (armC n l) u v (armL n l) (armL n l) w' hu hv (by omega) (fun i hi => by have := tot_get hi; omega)
    rw [eqTb_same] at this
    exact this
  · obtain ⟨C, rfl, h1, h5, -, hd⟩ := arD_n ha
    obtain ⟨k1, k2, k3⟩ := arm_facts ha
    have h32 := two5 h5
    have hcc : armC (C : Int) l = (C : Int) := by unfold armC; rw [ha]; rfl
    refine ⟨C, rfl, h5, fun X R hX hR => ⟨bitB (clo l X) R, fun w' u hu => ?_, fun w' v hr => ?_⟩⟩
    · have := holdsDep_any (C : Int) 0 (X : Int) (R : Int) u (armL (C : Int) l) w' hu (by omega) hrw
      rw [k3 X R hX hR] at this
      rw [hcc]
      exact this
    · have := implImpliesDep_any v (C : Int) (X : Int) (R : Int) l hn hw (wf_sm (by omega) (by omega)) (wf_sm (by omega) (by omega)) w' hr (by omega)
      have hi : impB (C : Int) l ((X : Int), (R : Int)) = bitB (clo l X) R := by
        unfold impB
        rw [ha, depB_iff.2 ⟨⟨by omega, by omega⟩, isA_fit h5 hX, by omega, by show (R : Int) ≤ (C : Int) - 1; omega⟩]
        rfl
      rw [hi] at this
      exact this
  · obtain ⟨C, rfl, h1, h5, -, hd⟩ := arD_n ha
    obtain ⟨k1, k2, k3⟩ := arm_facts ha
    have hcc : armC (C : Int) l = (C : Int) := by unfold armC; rw [ha]; rfl
    have := implIsTable_any (C : Int) u (armL (C : Int) l) w' hu (by omega) hrw
    rw [k1] at this
    rw [hcc]
    exact this
  · obtain ⟨C, rfl, h1, h5, -, hd⟩ := arD_n ha
    obtain ⟨k1, k2, k3⟩ := arm_facts ha
    have hcc : armC (C : Int) l = (C : Int) := by unfold armC; rw [ha]; rfl
    have := implSat_any (C : Int) 0 u v (armL (C : Int) l) l (wf_sm (by omega) (by omega)) hw w' hu (by omega) hrw hr (by omega)
    have hs : satB (C : Int) (armL (C : Int) l) 0 l = true := by
      unfold satB fineT
      rw [k1, List.all_eq_true.2 k2]
      rfl
    rw [hs] at this
    rw [hcc]
    exact this
/-- Whether all of a list hold. -/
structure RS (c : Int) (ll : List (List Int)) (m : Int) (l : List (Int × Int)) (b : Bool) : Prop where
  s1 : ∀ w' u v, ReadSS w' u ll → ReadD w' v l → Calls Tryz.prog 15 #[.agg #[.int .i64 c, u], .int .i64 m, v] w' fun e w'' => e = .returned (.bool b) ∧ Below w'.heap.size w' w''
  s2 : ∀ w' u v, ReadSS w' u ll → ReadD w' v l → Calls Tryz.prog 16 #[.agg #[.int .i64 c, u], .int .i64 m, v] w' fun e w'' => e = .returned (.bool b) ∧ Below w'.heap.size w' w''
theorem rs_of {c m : Int} {ll : List (List Int)} {l : List (Int × Int)} (hm0 : -1 ≤ m) (hm1 : m ≤ 2) (hll : ll.length ≤ 20) (hr : ∀ r ∈ ll, r.length ≤ 10) (hl : l.length ≤ 200) (hd : ∀ d ∈ l, (-1 ≤ d.1 ∧ d.1 ≤ 33) ∧ (-1 ≤ d.2 ∧ d.2 ≤ 5)) : ∃ b, RS c ll m l b := by
  have hrw : ∀ i, i < ll.length → (ll.getD i []).length ≤ 1048576 := fun i hi => Nat.le_trans (hr _ (by rw [List.getD_eq_getElem?_getD, List.getElem?_eq_getElem hi]; exact List.getElem_mem hi)) (by omega)
  exact ⟨satB c ll m l, fun w' u v hu hv => implSat_any c m u v ll l (wf_sm (by omega) (by omega)) (fun d hd' => by
    obtain ⟨h1, h2⟩ := hd d hd'
    exact ⟨wf_sm (by omega) (by omega), wf_sm (by omega) (by omega)⟩) w' hu (by omega) hrw hv (by omega), fun w' u v hu hv => satisfiesAll12_any c m u v ll l w' hu (by omega) hrw hv (by omega)⟩
/-- The dependencies of agree sets. -/
structure RD12 (k : Int) (ag : List Int) (q : List (Int × Int)) : Prop where
  d1 : ∀ w' v, ReadI w' v ag → Calls Tryz.prog 18 #[.int .i64 k, v] w' (RetD q w')
  d2 : ∀ w' v, ReadI w' v ag → Calls Tryz.prog 19 #[.int .i64 k, v] w' (RetD q w')
  sd : ∀ w' v v', ReadD w' v q → ReadD w' v' q → Calls Tryz.prog 17 #[v, v'] w' fun e w'' => e = .returned (.bool true) ∧ Below w'.heap.size w' w''
theorem rd_of {k : Int} {ag : List Int} (hl : ag.length ≤ 1600) (hb : I64s ag) : ∃ q, RD12 k ag q := by
  have := dasL_len k ag
  exact ⟨dasL k ag, fun w' v h => implDas_any0 v k ag hb w' h (by omega), fun w' v h => depsOfAgree12_any v k ag w' h (by omega), fun w' v v' h h' => (sameDeps_any v v' _ _ w' h h' (by omega)).mono fun _ _ ⟨a, b⟩ => ⟨by rw [a, decide_eq_true rfl], b⟩⟩
end Go.Proofs.YtnbjcelfdppkcadGreat
