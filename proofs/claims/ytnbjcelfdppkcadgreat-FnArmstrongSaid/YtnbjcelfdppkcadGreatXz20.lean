/- Texts of this claim, merged: SeaA, MvA, SeaB. Conditions: as stated. -/
import Derived.Test.YtnbjcelfdppkcadGreatXz13
import Derived.Test.YtnbjcelfdppkcadGreatXz12
import Derived.Test.YtnbjcelfdppkcadGreatXz5
import Derived.Deep.Quiet
import Derived.Deep.RegionLaw
import Derived.Deep.RegionHeld3
import Derived.Test.YtnbjcelfdppkcadGreatXz3
import Derived.Maps.AppendAt
namespace Go.Proofs.YtnbjcelfdppkcadGreat
open Go.RowKit

/-- The candidate with a number. -/
def cdt (C at_ : Nat) : Int × Int := ((parts (C : Int)).getD (at_ / C) 0, ((at_ % C : Nat) : Int))
/-- Whether one of the first n of a list has the same Right and a part of Left. -/
def cvTo (l : List (Int × Int)) (d : Int × Int) : Nat → Bool
  | 0 => false
  | i + 1 => cvTo l d i || ((l.getD i (0, 0)).2 == d.2 && (bits .and .i64 (l.getD i (0, 0)).1 d.1 == (l.getD i (0, 0)).1))
def cvd (l : List (Int × Int)) (d : Int × Int) : Bool := cvTo l d l.length
/-- One step: what is found and how many tests were made. -/
noncomputable def repN (C : Nat) (ll : List (List Int)) (m : Int) : Nat → List (Int × Int) × Nat
  | 0 => ([], 0)
  | k + 1 =>
    if (bitB (cdt C k).1.toNat (cdt C k).2.toNat || cvd (repN C ll m k).1 (cdt C k)) = true then repN C ll m k
    else if h7 C ll m (cdt C k).1.toNat (cdt C k).2.toNat = true then ((repN C ll m k).1 ++ [cdt C k], (repN C ll m k).2 + 1) else ((repN C ll m k).1, (repN C ll m k).2 + 1)
theorem repN_succ (C : Nat) (ll : List (List Int)) (m : Int) (k : Nat) : repN C ll m (k + 1) =
    if (bitB (cdt C k).1.toNat (cdt C k).2.toNat || cvd (repN C ll m k).1 (cdt C k)) = true then repN C ll m k
    else if h7 C ll m (cdt C k).1.toNat (cdt C k).2.toNat = true then ((repN C ll m k).1 ++ [cdt C k], (repN C ll m k).2 + 1) else ((repN C ll m k).1, (repN C ll m k).2 + 1) := rfl
theorem cvTo_iff (l : List (Int × Int)) (d : Int × Int) : ∀ n, (cvTo l d n = true ↔ ∃ t, t < n ∧ (l.getD t (0, 0)).2 = d.2 ∧ bits .and .i64 (l.getD t (0, 0)).1 d.1 = (l.getD t (0, 0)).1)
  | 0 => by simp [cvTo]
  | n + 1 => by
    have ih := cvTo_iff l d n
    unfold cvTo
    rw [Bool.or_eq_true, ih, Bool.and_eq_true, beq_iff_eq, beq_iff_eq]
    constructor
    · rintro (⟨t, t1, t2⟩ | h)
      · exact ⟨t, by omega, t2⟩
      · exact ⟨n, by omega, h⟩
    · rintro ⟨t, t1, t2⟩
      by_cases e : t = n
      · subst e; exact .inr t2
      · exact .inl ⟨t, by omega, t2⟩
theorem cvd_iff (l : List (Int × Int)) (d : Int × Int) : cvd l d = true ↔ ∃ e ∈ l, e.2 = d.2 ∧ bits .and .i64 e.1 d.1 = e.1 := by
  unfold cvd
  rw [cvTo_iff]
  constructor
  · rintro ⟨t, t1, t2⟩
    exact ⟨l.getD t (0, 0), by rw [List.getD_eq_getElem?_getD, List.getElem?_eq_getElem t1]; exact List.getElem_mem t1, t2⟩
  · rintro ⟨e, he, h⟩
    obtain ⟨t, t1, rfl⟩ := List.mem_iff_getElem.1 he
    refine ⟨t, t1, ?_⟩
    rw [List.getD_eq_getElem?_getD, List.getElem?_eq_getElem t1]
    exact h
theorem sub_anti {a b : Nat} (h1 : subN a b = true) (h2 : subN b a = true) : a = b := by
  unfold subN at h1 h2
  rw [beq_iff_eq] at h1 h2
  rw [Nat.and_comm] at h2
  omega
/-- The sets by size: a part of another set comes before it; each set is there once. -/
theorem parts_order : ∀ (C : Fin 6) (i j : Fin 32), i.val < (parts ((C.val : Nat) : Int)).length → j.val < (parts ((C.val : Nat) : Int)).length → subN ((parts ((C.val : Nat) : Int)).getD i.val 0).toNat ((parts ((C.val : Nat) : Int)).getD j.val 0).toNat = true → i.val ≤ j.val := by decide +kernel
theorem parts_cnt : ∀ C : Fin 6, (parts ((C.val : Nat) : Int)).length = 2 ^ C.val := by decide +kernel
theorem cdt_ok {C k : Nat} (hC1 : 1 ≤ C) (hC : C ≤ 5) (hk : k < C * 2 ^ C) : ∃ x r : Nat, cdt C k = ((x : Int), (r : Int)) ∧ x < 2 ^ C ∧ r < C := by
  have h1 : k / C < 2 ^ C := Nat.div_lt_of_lt_mul hk
  have hpc := parts_cnt ⟨C, by omega⟩
  simp only at hpc
  have hm : (parts (C : Int)).getD (k / C) 0 ∈ parts (C : Int) := mem_getD.2 ⟨k / C, by omega, rfl⟩
  obtain ⟨x, hx, e⟩ := (parts_mem hC _).1 hm
  exact ⟨x, k % C, by unfold cdt; rw [e], hx, Nat.mod_lt _ (by omega)⟩
/-- Each candidate has a number. -/
theorem cdt_ex {C x r : Nat} (hC1 : 1 ≤ C) (hC : C ≤ 5) (hx : x < 2 ^ C) (hr : r < C) : ∃ k, k < C * 2 ^ C ∧ cdt C k = ((x : Int), (r : Int)) := by
  obtain ⟨i, hi, e⟩ := mem_getD.1 ((parts_mem hC (x : Int)).2 ⟨x, hx, rfl⟩)
  have hpc := parts_cnt ⟨C, by omega⟩
  simp only at hpc
  have h1 : C * (i + 1) ≤ C * 2 ^ C := Nat.mul_le_mul_left _ (by omega)
  refine ⟨C * i + r, by rw [Nat.mul_succ] at h1; omega, ?_⟩
  unfold cdt
  rw [Nat.mul_add_div (by omega), Nat.div_eq_of_lt hr, Nat.add_zero, Nat.mul_add_mod, Nat.mod_eq_of_lt hr, ← e]
/-- A part with the same Right comes before. -/
theorem cdt_before {C j k x y r : Nat} (hC1 : 1 ≤ C) (hC : C ≤ 5) (hj : j < C * 2 ^ C) (hk : k < C * 2 ^ C) (ej : cdt C j = ((x : Int), (r : Int))) (ek : cdt C k = ((y : Int), (r : Int))) (hs : subN x y = true) (hne : x ≠ y) : j < k := by
  have h1 : j / C < 2 ^ C := Nat.div_lt_of_lt_mul hj
  have h2 : k / C < 2 ^ C := Nat.div_lt_of_lt_mul hk
  have h32 := two5 hC
  have hpc := parts_cnt ⟨C, by omega⟩
  simp only at hpc
  unfold cdt at ej ek
  obtain ⟨j1, j2⟩ := Prod.mk.inj ej
  obtain ⟨k1, k2⟩ := Prod.mk.inj ek
  have h := parts_order ⟨C, by omega⟩ ⟨j / C, by omega⟩ ⟨k / C, by omega⟩ (by rw [hpc]; exact h1) (by rw [hpc]; exact h2)
  simp only at h
  rw [j1, k1] at h
  have hle := h (by simpa using hs)
  have hlt : j / C < k / C := by
    refine Nat.lt_of_le_of_ne hle fun e => hne ?_
    rw [e, k1] at j1
    omega
  have e1 := Nat.div_add_mod j C
  have e2 := Nat.div_add_mod k C
  have h3 : C * (j / C + 1) ≤ C * (k / C) := Nat.mul_le_mul_left _ hlt
  have h4 := Nat.mod_lt j (show 0 < C by omega)
  rw [Nat.mul_succ] at h3
  omega
/-- What is found among the first k candidates: the minimal ones of them, in order. -/
theorem repN_found {C : Nat} {ll : List (List Int)} {m : Int} (hC1 : 1 ≤ C) (hC : C ≤ 5) : ∀ k, k ≤ C * 2 ^ C → (repN C ll m k).1 = ((List.range k).map (cdt C)).filter (fun d => minN C ll m d.1.toNat d.2.toNat)
  | 0, _ => rfl
  | k + 1, hk => by
    have ih := repN_found (ll := ll) (m := m) hC1 hC k (by omega)
    have h32 := two5 hC
    obtain ⟨x, r, e, hx, hr⟩ := cdt_ok hC1 hC (show k < C * 2 ^ C by omega)
    have hcv : cvd (repN C ll m k).1 (cdt C k) = true ↔ ∃ y : Nat, y < 2 ^ C ∧ y ≠ x ∧ subN y x = true ∧ minN C ll m y r = true := by
      rw [cvd_iff, ih]
      constructor
      · rintro ⟨d, hd, h1, h2⟩
        rw [List.mem_filter, List.mem_map] at hd
        obtain ⟨⟨j, hj, rfl⟩, hmin⟩ := hd
        have hjk := List.mem_range.1 hj
        obtain ⟨y, s, e', hy, hs⟩ := cdt_ok hC1 hC (show j < C * 2 ^ C by omega)
        rw [e'] at h1 h2 hmin
        rw [e] at h1 h2
        simp only at h1 h2
        have hsr : s = r := by omega
        subst hsr
        rw [show (((y : Int), (s : Int)).1).toNat = y from rfl, show (((y : Int), (s : Int)).2).toNat = s from rfl] at hmin
        refine ⟨y, hy, fun hyx => ?_, ?_, hmin⟩
        · subst hyx
          have e1 : cdt C j = cdt C k := by rw [e', e]
          unfold cdt at e1
          obtain ⟨a1, a2⟩ := Prod.mk.inj e1
          have hpc := parts_cnt ⟨C, by omega⟩
          simp only at hpc
          have q1 : j / C < 2 ^ C := Nat.div_lt_of_lt_mul (by omega)
          have q2 : k / C < 2 ^ C := Nat.div_lt_of_lt_mul (by omega)
          have o1 := parts_order ⟨C, by omega⟩ ⟨j / C, by omega⟩ ⟨k / C, by omega⟩ (by rw [hpc]; exact q1) (by rw [hpc]; exact q2)
          have o2 := parts_order ⟨C, by omega⟩ ⟨k / C, by omega⟩ ⟨j / C, by omega⟩ (by rw [hpc]; exact q2) (by rw [hpc]; exact q1)
          simp only at o1 o2
          rw [a1] at o1 o2
          have o3 := o1 (subN_refl _)
          have o4 := o2 (subN_refl _)
          have e3 := Nat.div_add_mod j C
          have e4 := Nat.div_add_mod k C
          have e5 : j / C = k / C := by omega
          rw [e5] at e3
          omega
        · rw [← and_sub y x (by omega) (by omega), beq_iff_eq]
          exact h2
      · rintro ⟨y, hy, hne, hs, hmin⟩
        obtain ⟨j, hj, ej⟩ := cdt_ex hC1 hC hy hr
        have hjk := cdt_before hC1 hC hj (show k < C * 2 ^ C by omega) ej e hs hne
        refine ⟨cdt C j, ?_, ?_⟩
        · rw [List.mem_filter, List.mem_map]
          exact ⟨⟨j, List.mem_range.2 hjk, rfl⟩, by rw [ej]; exact hmin⟩
        · rw [ej, e]
          refine ⟨rfl, ?_⟩
          have := and_sub y x (by omega) (by omega)
          rw [hs, beq_iff_eq] at this
          exact this
    have hmi := minN_iff (ll := ll) (m := m) hC hr hx
    have hle := least_iff (f := fun S => HoldsAll C ll m S r) h32 (holds_up hC) hx
    have hh := h7_iff (ll := ll) (m := m) (L := x) hC hr
    have e1 : (cdt C k).1.toNat = x := by rw [e]; rfl
    have e2 : (cdt C k).2.toNat = r := by rw [e]; rfl
    have hone : ((List.range (k + 1)).map (cdt C)).filter (fun d => minN C ll m d.1.toNat d.2.toNat) = (repN C ll m k).1 ++ if minN C ll m x r = true then [cdt C k] else [] := by
      rw [List.range_succ, List.map_append, List.filter_append, ← ih]
      congr 1
      show List.filter _ [cdt C k] = _
      by_cases hm : minN C ll m x r = true
      · rw [if_pos hm, List.filter_cons_of_pos (by rw [e1, e2]; exact hm)]; rfl
      · rw [if_neg hm, List.filter_cons_of_neg (by rw [e1, e2]; exact hm)]; rfl
    rw [hone]
    rw [repN_succ, e1, e2]
    by_cases hb : bitB x r = true
    · have hm : ¬ minN C ll m x r = true := fun h => by have := (hmi.1 h).1; rw [hb] at this; cases this
      rw [if_pos (by rw [hb]; rfl), if_neg hm, List.append_nil]
    · have hb' : bitB x r = false := by simpa using hb
      rw [hb', Bool.false_or]
      by_cases hc : cvd (repN C ll m k).1 (cdt C k) = true
      · obtain ⟨y, hy, hne, hs, hmin⟩ := hcv.1 hc
        have hym := (minN_iff hC hr hy).1 hmin
        have hm : ¬ minN C ll m x r = true := fun h => hne ((hle.1 (hmi.1 h).2).2 y hy hym.2.1 hs)
        rw [if_pos hc, if_neg hm, List.append_nil]
      · rw [if_neg hc]
        by_cases hhx : h7 C ll m x r = true
        · have hm : minN C ll m x r = true := by
            refine hmi.2 ⟨hb', hle.2 ⟨hh.1 hhx, fun z hz hf hs => Classical.byContradiction fun hne => hc (hcv.2 ?_)⟩⟩
            obtain ⟨y, y1, y2, y3, y4⟩ := least_ex (f := fun S => HoldsAll C ll m S r) z (by omega) hf
            have hyl : y < 2 ^ C := by omega
            refine ⟨y, hyl, fun e => hne ?_, subN_trans y3 hs, (minN_iff hC hr hyl).2 ⟨sub_bit hC hr hyl hx (subN_trans y3 hs) hb', y4⟩⟩
            subst e
            exact sub_anti hs y3
          rw [if_pos hhx, if_pos hm]
        · have hm : ¬ minN C ll m x r = true := fun h => hhx (hh.2 (hmi.1 h).2.1)
          rw [if_neg hhx, if_neg hm, List.append_nil]
end Go.Proofs.YtnbjcelfdppkcadGreat
namespace Go.Proofs.YtnbjcelfdppkcadGreat
open Go.RowKit

section
set_option maxRecDepth 20000
set_option maxHeartbeats 1600000
theorem l7Holds_any (c m : Int) (L R : Nat) (v : Value) (ll : List (List Int)) (w : World) (hr : ReadSS w v ll) (hT : isT c ll = true) (hR : R < 5) :
    Calls Tryz.prog 100 #[.agg #[.int .i64 c, v], .int .i64 m, .agg #[.int .i64 (L : Int), .int .i64 (R : Int)]] w fun e w' => e = .returned (.bool (h7 c.toNat ll m L R)) ∧ Below w.heap.size w w' := by
  have HP := Lib.hid (fun w' (hb : Below w.heap.size w w') => pair6_any c m L R v ll w' (hr.kept hb) hT hR)
  obtain ⟨a, cap, rfl, -⟩ := hr
  have hb1 := (Below.refl w.heap.size w).alloc (Nat.le_refl _) (.cells #[.int .i64 c, .slice a ll.length cap] 29)
  have hb2 := hb1.alloc hb1.size (.cells #[.int .i64 (L : Int), .int .i64 (R : Int)] 35)
  have HB2 := Lib.hid hb2
  obtain ⟨⟨c0, c1⟩, d0, d1⟩ := boxTD (Below.refl ((w.alloc (.cells #[.int .i64 c, .slice a ll.length cap] 29)).alloc (.cells #[.int .i64 (L : Int), .int .i64 (R : Int)] 35)).heap.size _)
  have HE : Hid (h7 c.toNat ll m L R = decide ((pairI (badB c.toNat ll m L R) ll.length).1 < 0)) := Lib.hid rfl
  obtain ⟨x, hx⟩ : ∃ x, x = (pairI (badB c.toNat ll m L R) ll.length).1 := ⟨_, rfl⟩
  obtain ⟨y, hy⟩ : ∃ y, y = (pairI (badB c.toNat ll m L R) ll.length).2 := ⟨_, rfl⟩
  rw [← hx, ← hy] at HP
  rw [← hx] at HE
  clear hb1 hb2 hx hy
  go_enter Tryz.func100, Tryz.ntmps100
  go_wp2_with fail
  refine (HP.out _ HB2.out).mono ?_
  rintro e w3 ⟨rfl, b3⟩
  have hb3 := HB2.out.trans (b3.mono HB2.out.size)
  go_wp2_with fail
  go_ret
  exact ⟨ret_b HE.out, hb3⟩
theorem rng_snoc {p : Nat → Bool} {k : Nat} (h : (List.range k).all p = true) (hp : p k = true) : (List.range (k + 1)).all p = true := by
  rw [List.range_succ, List.all_append, h]; simp [hp]
theorem rng_not {p : Nat → Bool} {k n : Nat} (hk : k < n) (hp : p k = false) : (List.range n).all p = false := by
  cases h : (List.range n).all p with
  | false => rfl
  | true => have := List.all_eq_true.1 h k (List.mem_range.2 hk); rw [hp] at this; cases this
theorem drop_b : ∀ (L : Fin 32) (i : Fin 5), bitB L.val i.val = true → bits .andNot .i64 ((L.val : Nat) : Int) ((2 ^ i.val : Nat) : Int) = ((L.val - 2 ^ i.val : Nat) : Int) := by decide +kernel
theorem wrap_pw5 : ∀ i : Fin 5, IntKind.i64.wrap (2 ^ i.val) = ((2 ^ i.val : Nat) : Int) := by decide +kernel
/-- What the box of a table and the box of a dependency hold. -/
def TDc (w : World) (b : Nat) (c : Int) (v : Value) (l r : Int) : Prop :=
  (w.cell? ⟨b, 0, none⟩ = some (.int .i64 c) ∧ w.cell? ⟨b, 1, none⟩ = some v) ∧ w.cell? ⟨b + 1, 0, none⟩ = some (.int .i64 l) ∧ w.cell? ⟨b + 1, 1, none⟩ = some (.int .i64 r)
theorem TDc.kept {w w' : World} {b : Nat} {c l r : Int} {v : Value} (h : TDc w b c v l r) (hb : Below w.heap.size w w') : TDc w' b c v l r :=
  ⟨⟨(hb.cell (World.block_lt_of_cell? _ _ h.1.1)).trans h.1.1, (hb.cell (World.block_lt_of_cell? _ _ h.1.2)).trans h.1.2⟩, (hb.cell (World.block_lt_of_cell? _ _ h.2.1)).trans h.2.1, (hb.cell (World.block_lt_of_cell? _ _ h.2.2)).trans h.2.2⟩
theorem TDc.mk' (w : World) (T T' : TypeId) (c : Int) (v : Value) (l r : Int) : TDc ((w.alloc (.cells #[.int .i64 c, v] T)).alloc (.cells #[.int .i64 l, .int .i64 r] T')) w.heap.size c v l r := boxTD (Below.refl _ _)
theorem keepTc {w4 w' w'' : World} {b : Nat} {c l r : Int} {v : Value} (h : TDc w' b c v l r ∧ Below w4.heap.size w4 w') (hb : Below w'.heap.size w' w'') : TDc w'' b c v l r ∧ Below w4.heap.size w4 w'' := ⟨h.1.kept hb, h.2.trans (hb.mono h.2.size)⟩
end
section
set_option maxRecDepth 20000
set_option maxHeartbeats 3200000
theorem l7Minimal_any (C : Nat) (m : Int) (L R : Nat) (v : Value) (ll : List (List Int)) (w : World) (hr : ReadSS w v ll) (hT : isT (C : Int) ll = true) (hL : L < 32) (hR : R < 5) :
    Calls Tryz.prog 74 #[.agg #[.int .i64 (C : Int), v], .int .i64 m, .agg #[.int .i64 (L : Int), .int .i64 (R : Int)]] w fun e w' => e = .returned (.bool (minN C ll m L R)) ∧ Below w.heap.size w w' := by
  obtain ⟨hc1, hc5, h40⟩ := isT_bd hT
  have HH := Lib.hid (fun (X : Nat) w' (hb : Below w.heap.size w w') => l7Holds_any (C : Int) m X R v ll w' (hr.kept hb) hT hR)
  rw [show ((C : Int)).toNat = C from rfl] at HH
  obtain ⟨a, cap, rfl, -⟩ := hr
  have hb1 := (Below.refl w.heap.size w).alloc (Nat.le_refl _) (.cells #[.int .i64 (C : Int), .slice a ll.length cap] 29)
  have hb2 := hb1.alloc hb1.size (.cells #[.int .i64 (L : Int), .int .i64 (R : Int)] 35)
  have HB2 := Lib.hid hb2
  have HTD := Lib.hid (TDc.mk' w 29 35 (C : Int) (.slice a ll.length cap) (L : Int) (R : Int))
  obtain ⟨⟨c0, c1⟩, d0, d1⟩ := HTD.out
  have hbit : (bits BinOp.and IntKind.i64 ((L : Int) / 2 ^ R) 1 == 1) = bitB L R := bit_test L R
  have hE : minN C ll m L R = (!bitB L R && h7 C ll m L R && (List.range C).all (fun i => !(bitB L i && h7 C ll m (L - 2 ^ i) R))) := rfl
  clear hb1 hb2
  cases hB : bitB L R with
  | true =>
    rw [hB] at hbit hE
    have HE : Hid (minN C ll m L R = false) := Lib.hid (by rw [hE]; rfl)
    clear hE hB
    go_enter Tryz.func74, Tryz.ntmps74
    go_wp2_with fail
    go_ret
    exact ⟨ret_b HE.out, HB2.out⟩
  | false =>
    rw [hB] at hbit hE
    have H0 := Lib.hid (HH.out L)
    cases h0 : h7 C ll m L R with
    | false =>
      rw [h0] at hE H0
      have HE : Hid (minN C ll m L R = false) := Lib.hid (by rw [hE]; rfl)
      clear hE hB h0
      go_enter Tryz.func74, Tryz.ntmps74
      go_wp2_with fail
      refine (H0.out _ HB2.out).mono ?_
      rintro e w3 ⟨rfl, b3⟩
      have hb3 := HB2.out.trans (b3.mono HB2.out.size)
      go_wp2_with fail
      go_ret
      exact ⟨ret_b HE.out, hb3⟩
    | true =>
      rw [h0] at hE H0
      rw [show (!false && true) = true from rfl, Bool.true_and] at hE
      have HE := Lib.hid hE
      clear hE hB h0
      go_enter Tryz.func74, Tryz.ntmps74
      go_wp2_with fail
      refine (H0.out _ HB2.out).mono ?_
      rintro e w3 ⟨rfl, b3⟩
      have hb3 := HB2.out.trans (b3.mono HB2.out.size)
      have HT3 := Lib.hid (HTD.out.kept b3)
      clear b3 c0 c1 d0 d1 hbit
      go_wp2_with fail
      go_loopw [7] (fun iv wr => ∃ i : Nat, i ≤ C ∧ iv = .int .i64 (i : Int) ∧ Hid ((List.range i).all (fun i => !(bitB L i && h7 C ll m (L - 2 ^ i) R)) = true) ∧ Hid (TDc wr w.heap.size (C : Int) (.slice a ll.length cap) (L : Int) (R : Int)) ∧ Below w.heap.size w wr) (fun iv _ => C - (intOf iv).toNat)
      case atStart => exact ⟨0, by omega, rfl, Lib.hid rfl, HT3, hb3⟩
      case round =>
        clear HT3 hb3
        obtain ⟨i, hi, rfl, HALL, HTD4, hb⟩ := hrel
        obtain ⟨w4, hw4⟩ : ∃ w', w' = wr := ⟨_, rfl⟩
        rw [← hw4] at HTD4 hb ⊢
        clear hw4
        have HB := Lib.hid hb
        obtain ⟨⟨c0, c1⟩, d0, d1⟩ := HTD4.out
        clear hb
        by_cases hlt : i < C
        · have z0 : (0 : Int) ≤ (i : Int) := by omega
          have z1 : (i : Int) < (C : Int) := by omega
          have hbit : (bits BinOp.and IntKind.i64 ((L : Int) / 2 ^ i) 1 == 1) = bitB L i := bit_test L i
          cases hB : bitB L i with
          | false =>
            rw [hB] at hbit
            have HN := Lib.hid (rng_snoc HALL.out (show (!(bitB L i && h7 C ll m (L - 2 ^ i) R)) = true by rw [hB]; rfl))
            clear hB
            go_wp2_with fail
            go_quiet (fail)
            go_wp2_with fail
            go_roundw
            case rel => exact ⟨i + 1, by omega, by go_num, HN, Lib.hid (HTD4.out.kept (below_drewN (Below.refl _ _) _)), below_drewN HB.out _⟩
            case measure => simp [intOf]; omega
          | true =>
            rw [hB] at hbit
            have hD := drop_b ⟨L, hL⟩ ⟨i, by omega⟩ hB
            simp only at hD
            have hW : IntKind.i64.wrap (2 ^ i) = ((2 ^ i : Nat) : Int) := wrap_pw5 ⟨i, by omega⟩
            rw [← hW] at hD
            have HQ : Hid (∀ w', Below w.heap.size w w' → Calls Tryz.prog 100 #[.agg #[.int .i64 (C : Int), .slice a ll.length cap], .int .i64 m, .agg #[.int .i64 (bits .andNot .i64 (L : Int) (IntKind.i64.wrap (2 ^ i))), .int .i64 (R : Int)]] w' fun e w'' => e = .returned (.bool (h7 C ll m (L - 2 ^ i) R)) ∧ Below w'.heap.size w' w'') := Lib.hid (fun w' hb => by rw [hD]; exact HH.out (L - 2 ^ i) w' hb)
            obtain ⟨x, hx⟩ : ∃ x, x = h7 C ll m (L - 2 ^ i) R := ⟨_, rfl⟩
            have HX : Hid ((!(bitB L i && h7 C ll m (L - 2 ^ i) R)) = !x) := Lib.hid (by rw [hB, ← hx]; rfl)
            rw [← hx] at HQ
            clear hB hx hD hW
            cases x with
            | true =>
              have HN := Lib.hid (HE.out.trans (rng_not hlt HX.out))
              clear HX
              go_wp2_with fail
              refine wp_region_noPanic ?_
              refine wp_region_held_drew (S := (fun w' => ((w'.cell? ⟨w.heap.size, 0, none⟩ = some (.int .i64 (C : Int)) ∧ w'.cell? ⟨w.heap.size, 1, none⟩ = some (.slice a ll.length cap)) ∧ w'.cell? ⟨w.heap.size + 1, 0, none⟩ = some (.int .i64 (L : Int)) ∧ w'.cell? ⟨w.heap.size + 1, 1, none⟩ = some (.int .i64 (R : Int))) ∧ Below w4.heap.size w4 w')) (by kernel_rfl) ?_ (fun hHeld => ?_)
              · ((try dsimp only); (first | exact keepTc hHeld b91 | exact ⟨⟨⟨c0, c1⟩, d0, d1⟩, (Below.refl _ _).drew⟩))
              refine wpAnyH_take (i := 0) (v := ?_) rfl (by kernel_rfl) (by kernel_rfl) (by kernel_rfl) (fun _ _ _ h => h) (Or.inl ⟨by rfl, ?_⟩) (by assumption) ?_
              rotate_left
              · (intro w hSw; (try dsimp only at hSw); go_simp; (try with_reducible rfl))
              (try simp only [Act.put, List.getElem_toArray, List.getElem_cons_zero, List.setIfInBounds_toArray, List.set_cons_zero, List.set_cons_succ])
              refine wpAnyH_take (i := 1) (v := ?_) rfl (by kernel_rfl) (by kernel_rfl) (by kernel_rfl) (fun _ _ _ h => h) (Or.inl ⟨by rfl, ?_⟩) (by assumption) ?_
              rotate_left
              · (intro w hSw; (try dsimp only at hSw); go_simp; (try with_reducible rfl))
              (try simp only [Act.put, List.getElem_toArray, List.getElem_cons_succ, List.getElem_cons_zero, List.setIfInBounds_toArray, List.set_cons_zero, List.set_cons_succ])
              refine wpAnyH_take (i := 2) (v := ?_) rfl (by kernel_rfl) (by kernel_rfl) (by kernel_rfl) (fun _ _ _ h => h) (Or.inl ⟨by rfl, ?_⟩) (by assumption) ?_
              rotate_left
              · (intro w hSw; (try dsimp only at hSw); go_simp; (try with_reducible rfl))
              (try simp only [Act.put, List.getElem_toArray, List.getElem_cons_succ, List.getElem_cons_zero, List.setIfInBounds_toArray, List.set_cons_zero, List.set_cons_succ])
              refine wpAnyH_take (i := 3) (v := ?_) rfl (by kernel_rfl) (by kernel_rfl) (by kernel_rfl) (fun _ _ _ h => h) (Or.inl ⟨by rfl, ?_⟩) (by assumption) ?_
              rotate_left
              · (intro w hSw; (try dsimp only at hSw); go_simp; (try with_reducible rfl))
              (try simp only [Act.put, List.getElem_toArray, List.getElem_cons_succ, List.getElem_cons_zero, List.setIfInBounds_toArray, List.set_cons_zero, List.set_cons_succ])
              refine wpAnyH_take (i := 4) (v := ?_) rfl (by kernel_rfl) (by kernel_rfl) (by kernel_rfl) (fun _ _ _ h => h) (Or.inl ⟨by rfl, ?_⟩) (by assumption) ?_
              rotate_left
              · (intro w hSw; (try dsimp only at hSw); go_simp; (try with_reducible rfl))
              (try simp only [Act.put, List.getElem_toArray, List.getElem_cons_succ, List.getElem_cons_zero, List.setIfInBounds_toArray, List.set_cons_zero, List.set_cons_succ])
              refine wpAnyH_take (i := 5) (v := ?_) rfl (by kernel_rfl) (by kernel_rfl) (by kernel_rfl) (fun _ _ _ h => h) (Or.inl ⟨by rfl, ?_⟩) (by assumption) ?_
              rotate_left
              · (intro w hSw; (try dsimp only at hSw); go_simp; (try with_reducible rfl))
              (try simp only [Act.put, List.getElem_toArray, List.getElem_cons_succ, List.getElem_cons_zero, List.setIfInBounds_toArray, List.set_cons_zero, List.set_cons_succ])
              refine wpAnyH_take (i := 6) (v := ?_) rfl (by kernel_rfl) (by kernel_rfl) (by kernel_rfl) (fun _ _ _ h => h) (Or.inl ⟨by rfl, ?_⟩) (by assumption) ?_
              rotate_left
              · (intro w hSw; (try dsimp only at hSw); go_simp; (try with_reducible rfl))
              (try simp only [Act.put, List.getElem_toArray, List.getElem_cons_succ, List.getElem_cons_zero, List.setIfInBounds_toArray, List.set_cons_zero, List.set_cons_succ])
              refine wpAnyH_take (i := 7) (v := ?_) rfl (by kernel_rfl) (by kernel_rfl) (by kernel_rfl) (fun _ _ _ h => h) (Or.inl ⟨by rfl, ?_⟩) (by assumption) ?_
              rotate_left
              · (intro w hSw; (try dsimp only at hSw); go_simp; (try with_reducible rfl))
              (try simp only [Act.put, List.getElem_toArray, List.getElem_cons_succ, List.getElem_cons_zero, List.setIfInBounds_toArray, List.set_cons_zero, List.set_cons_succ])
              refine wpAnyH_take (i := 8) (v := ?_) rfl (by kernel_rfl) (by kernel_rfl) (by kernel_rfl) (fun _ _ _ h => h) (Or.inl ⟨by rfl, ?_⟩) (by assumption) ?_
              rotate_left
              · (intro w hSw; (try dsimp only at hSw); go_simp; (try with_reducible rfl))
              (try simp only [Act.put, List.getElem_toArray, List.getElem_cons_succ, List.getElem_cons_zero, List.setIfInBounds_toArray, List.set_cons_zero, List.set_cons_succ])
              refine wpAnyH_take (i := 9) (v := ?_) rfl (by kernel_rfl) (by kernel_rfl) (by kernel_rfl) (fun _ _ _ h => h) (Or.inl ⟨by rfl, ?_⟩) (by assumption) ?_
              rotate_left
              · (intro w hSw; (try dsimp only at hSw); go_simp; (try with_reducible rfl))
              (try simp only [Act.put, List.getElem_toArray, List.getElem_cons_succ, List.getElem_cons_zero, List.setIfInBounds_toArray, List.set_cons_zero, List.set_cons_succ])
              refine wpAnyH_take (i := 10) (v := ?_) rfl (by kernel_rfl) (by kernel_rfl) (by kernel_rfl) (fun _ _ _ h => h) (Or.inl ⟨by rfl, ?_⟩) (by assumption) ?_
              rotate_left
              · (intro w hSw; (try dsimp only at hSw); go_simp; (try with_reducible rfl))
              (try simp only [Act.put, List.getElem_toArray, List.getElem_cons_succ, List.getElem_cons_zero, List.setIfInBounds_toArray, List.set_cons_zero, List.set_cons_succ])
              refine wpAnyH_take (i := 11) (v := ?_) rfl (by kernel_rfl) (by kernel_rfl) (by kernel_rfl) (fun _ _ _ h => h) (Or.inl ⟨by rfl, ?_⟩) (by assumption) ?_
              rotate_left
              · (intro w hSw; (try dsimp only at hSw); go_simp; (try with_reducible rfl))
              (try simp only [Act.put, List.getElem_toArray, List.getElem_cons_succ, List.getElem_cons_zero, List.setIfInBounds_toArray, List.set_cons_zero, List.set_cons_succ])
              refine wpAnyH_take (i := 12) (v := ?_) rfl (by kernel_rfl) (by kernel_rfl) (by kernel_rfl) (fun _ _ _ h => h) (Or.inl ⟨by rfl, ?_⟩) (by assumption) ?_
              rotate_left
              · (intro w hSw; (try dsimp only at hSw); go_simp; (try with_reducible rfl))
              (try simp only [Act.put, List.getElem_toArray, List.getElem_cons_succ, List.getElem_cons_zero, List.setIfInBounds_toArray, List.set_cons_zero, List.set_cons_succ])
              refine wpAnyH_take (i := 13) (v := ?_) rfl (by kernel_rfl) (by kernel_rfl) (by kernel_rfl) (fun _ _ _ h => h) (Or.inl ⟨by rfl, ?_⟩) (by assumption) ?_
              rotate_left
              · (intro w hSw; (try dsimp only at hSw); go_simp; (try with_reducible rfl))
              (try simp only [Act.put, List.getElem_toArray, List.getElem_cons_succ, List.getElem_cons_zero, List.setIfInBounds_toArray, List.set_cons_zero, List.set_cons_succ])
              refine wpAnyH_take (i := 14) (v := ?_) rfl (by kernel_rfl) (by kernel_rfl) (by kernel_rfl) (fun _ _ _ h => h) (Or.inl ⟨by rfl, ?_⟩) (by assumption) ?_
              rotate_left
              · (intro w hSw; (try dsimp only at hSw); go_simp; (try with_reducible rfl))
              (try simp only [Act.put, List.getElem_toArray, List.getElem_cons_succ, List.getElem_cons_zero, List.setIfInBounds_toArray, List.set_cons_zero, List.set_cons_succ])
              refine wpAnyH_take (i := 15) (v := ?_) rfl (by kernel_rfl) (by kernel_rfl) (by kernel_rfl) (fun _ _ _ h => h) (Or.inl ⟨by rfl, ?_⟩) (by assumption) ?_
              rotate_left
              · (intro w hSw; (try dsimp only at hSw); go_simp; (try with_reducible rfl))
              (try simp only [Act.put, List.getElem_toArray, List.getElem_cons_succ, List.getElem_cons_zero, List.setIfInBounds_toArray, List.set_cons_zero, List.set_cons_succ])
              refine wpAnyH_take (i := 16) (v := ?_) rfl (by kernel_rfl) (by kernel_rfl) (by kernel_rfl) (fun _ _ _ h => h) (Or.inl ⟨by rfl, ?_⟩) (by assumption) ?_
              rotate_left
              · (intro w hSw; (try dsimp only at hSw); go_simp; (try with_reducible rfl))
              (try simp only [Act.put, List.getElem_toArray, List.getElem_cons_succ, List.getElem_cons_zero, List.setIfInBounds_toArray, List.set_cons_zero, List.set_cons_succ])
              refine wpAnyH_ready (rs := [17]) (by kernel_rfl) (by simp) (AllReadyH.cons rfl (fun K hK => ?_) AllReadyH.nil)
              (first | ((go_at_call 100; refine (HQ.out _ (HB.out.trans (hHeld.2.mono HB.out.size))).mono ?_; rintro e w91 ⟨rfl, b91⟩)) | (go_simp; (go_at_call 100; refine (HQ.out _ (HB.out.trans (hHeld.2.mono HB.out.size))).mono ?_; rintro e w91 ⟨rfl, b91⟩)))
              (try (go_wp2_with fail))
              refine hK.out _ _ ?_ (fun hHeld => ?_)
              · ((try dsimp only); (first | exact keepTc hHeld b91 | exact ⟨⟨⟨c0, c1⟩, d0, d1⟩, (Below.refl _ _).drew⟩))
              clear hK K
              (try simp only [Act.put, List.getElem_toArray, List.getElem_cons_succ, List.getElem_cons_zero, List.setIfInBounds_toArray, List.set_cons_zero, List.set_cons_succ])
              refine wpAnyH_take (i := 18) (v := ?_) rfl (by kernel_rfl) (by kernel_rfl) (by kernel_rfl) (fun _ _ _ h => h) (Or.inl ⟨by rfl, ?_⟩) (by assumption) ?_
              rotate_left
              · (intro w hSw; (try dsimp only at hSw); go_simp; (try with_reducible rfl))
              (try simp only [Act.put, List.getElem_toArray, List.getElem_cons_succ, List.getElem_cons_zero, List.setIfInBounds_toArray, List.set_cons_zero, List.set_cons_succ])
              refine wpAnyH_done (by kernel_rfl) ?_ _
              refine NoPanic.normal ?_
              obtain ⟨w5, hw5⟩ : ∃ w', w' = w91 := ⟨_, rfl⟩
              rw [← hw5] at hHeld ⊢
              have b5 := hHeld.2
              clear hHeld b91 hw5
              have hb5 := HB.out.trans (b5.mono HB.out.size)
              clear b5 c0 c1 d0 d1
              go_wp2_with fail
              go_ret
              exact ⟨ret_b HN.out, hb5⟩
            | false =>
              have HN := Lib.hid (rng_snoc HALL.out HX.out)
              clear HX
              go_wp2_with fail
              refine wp_region_noPanic ?_
              refine wp_region_held_drew (S := (fun w' => ((w'.cell? ⟨w.heap.size, 0, none⟩ = some (.int .i64 (C : Int)) ∧ w'.cell? ⟨w.heap.size, 1, none⟩ = some (.slice a ll.length cap)) ∧ w'.cell? ⟨w.heap.size + 1, 0, none⟩ = some (.int .i64 (L : Int)) ∧ w'.cell? ⟨w.heap.size + 1, 1, none⟩ = some (.int .i64 (R : Int))) ∧ Below w4.heap.size w4 w')) (by kernel_rfl) ?_ (fun hHeld => ?_)
              · ((try dsimp only); (first | exact keepTc hHeld b91 | exact ⟨⟨⟨c0, c1⟩, d0, d1⟩, (Below.refl _ _).drew⟩))
              refine wpAnyH_take (i := 0) (v := ?_) rfl (by kernel_rfl) (by kernel_rfl) (by kernel_rfl) (fun _ _ _ h => h) (Or.inl ⟨by rfl, ?_⟩) (by assumption) ?_
              rotate_left
              · (intro w hSw; (try dsimp only at hSw); go_simp; (try with_reducible rfl))
              (try simp only [Act.put, List.getElem_toArray, List.getElem_cons_zero, List.setIfInBounds_toArray, List.set_cons_zero, List.set_cons_succ])
              refine wpAnyH_take (i := 1) (v := ?_) rfl (by kernel_rfl) (by kernel_rfl) (by kernel_rfl) (fun _ _ _ h => h) (Or.inl ⟨by rfl, ?_⟩) (by assumption) ?_
              rotate_left
              · (intro w hSw; (try dsimp only at hSw); go_simp; (try with_reducible rfl))
              (try simp only [Act.put, List.getElem_toArray, List.getElem_cons_succ, List.getElem_cons_zero, List.setIfInBounds_toArray, List.set_cons_zero, List.set_cons_succ])
              refine wpAnyH_take (i := 2) (v := ?_) rfl (by kernel_rfl) (by kernel_rfl) (by kernel_rfl) (fun _ _ _ h => h) (Or.inl ⟨by rfl, ?_⟩) (by assumption) ?_
              rotate_left
              · (intro w hSw; (try dsimp only at hSw); go_simp; (try with_reducible rfl))
              (try simp only [Act.put, List.getElem_toArray, List.getElem_cons_succ, List.getElem_cons_zero, List.setIfInBounds_toArray, List.set_cons_zero, List.set_cons_succ])
              refine wpAnyH_take (i := 3) (v := ?_) rfl (by kernel_rfl) (by kernel_rfl) (by kernel_rfl) (fun _ _ _ h => h) (Or.inl ⟨by rfl, ?_⟩) (by assumption) ?_
              rotate_left
              · (intro w hSw; (try dsimp only at hSw); go_simp; (try with_reducible rfl))
              (try simp only [Act.put, List.getElem_toArray, List.getElem_cons_succ, List.getElem_cons_zero, List.setIfInBounds_toArray, List.set_cons_zero, List.set_cons_succ])
              refine wpAnyH_take (i := 4) (v := ?_) rfl (by kernel_rfl) (by kernel_rfl) (by kernel_rfl) (fun _ _ _ h => h) (Or.inl ⟨by rfl, ?_⟩) (by assumption) ?_
              rotate_left
              · (intro w hSw; (try dsimp only at hSw); go_simp; (try with_reducible rfl))
              (try simp only [Act.put, List.getElem_toArray, List.getElem_cons_succ, List.getElem_cons_zero, List.setIfInBounds_toArray, List.set_cons_zero, List.set_cons_succ])
              refine wpAnyH_take (i := 5) (v := ?_) rfl (by kernel_rfl) (by kernel_rfl) (by kernel_rfl) (fun _ _ _ h => h) (Or.inl ⟨by rfl, ?_⟩) (by assumption) ?_
              rotate_left
              · (intro w hSw; (try dsimp only at hSw); go_simp; (try with_reducible rfl))
              (try simp only [Act.put, List.getElem_toArray, List.getElem_cons_succ, List.getElem_cons_zero, List.setIfInBounds_toArray, List.set_cons_zero, List.set_cons_succ])
              refine wpAnyH_take (i := 6) (v := ?_) rfl (by kernel_rfl) (by kernel_rfl) (by kernel_rfl) (fun _ _ _ h => h) (Or.inl ⟨by rfl, ?_⟩) (by assumption) ?_
              rotate_left
              · (intro w hSw; (try dsimp only at hSw); go_simp; (try with_reducible rfl))
              (try simp only [Act.put, List.getElem_toArray, List.getElem_cons_succ, List.getElem_cons_zero, List.setIfInBounds_toArray, List.set_cons_zero, List.set_cons_succ])
              refine wpAnyH_take (i := 7) (v := ?_) rfl (by kernel_rfl) (by kernel_rfl) (by kernel_rfl) (fun _ _ _ h => h) (Or.inl ⟨by rfl, ?_⟩) (by assumption) ?_
              rotate_left
              · (intro w hSw; (try dsimp only at hSw); go_simp; (try with_reducible rfl))
              (try simp only [Act.put, List.getElem_toArray, List.getElem_cons_succ, List.getElem_cons_zero, List.setIfInBounds_toArray, List.set_cons_zero, List.set_cons_succ])
              refine wpAnyH_take (i := 8) (v := ?_) rfl (by kernel_rfl) (by kernel_rfl) (by kernel_rfl) (fun _ _ _ h => h) (Or.inl ⟨by rfl, ?_⟩) (by assumption) ?_
              rotate_left
              · (intro w hSw; (try dsimp only at hSw); go_simp; (try with_reducible rfl))
              (try simp only [Act.put, List.getElem_toArray, List.getElem_cons_succ, List.getElem_cons_zero, List.setIfInBounds_toArray, List.set_cons_zero, List.set_cons_succ])
              refine wpAnyH_take (i := 9) (v := ?_) rfl (by kernel_rfl) (by kernel_rfl) (by kernel_rfl) (fun _ _ _ h => h) (Or.inl ⟨by rfl, ?_⟩) (by assumption) ?_
              rotate_left
              · (intro w hSw; (try dsimp only at hSw); go_simp; (try with_reducible rfl))
              (try simp only [Act.put, List.getElem_toArray, List.getElem_cons_succ, List.getElem_cons_zero, List.setIfInBounds_toArray, List.set_cons_zero, List.set_cons_succ])
              refine wpAnyH_take (i := 10) (v := ?_) rfl (by kernel_rfl) (by kernel_rfl) (by kernel_rfl) (fun _ _ _ h => h) (Or.inl ⟨by rfl, ?_⟩) (by assumption) ?_
              rotate_left
              · (intro w hSw; (try dsimp only at hSw); go_simp; (try with_reducible rfl))
              (try simp only [Act.put, List.getElem_toArray, List.getElem_cons_succ, List.getElem_cons_zero, List.setIfInBounds_toArray, List.set_cons_zero, List.set_cons_succ])
              refine wpAnyH_take (i := 11) (v := ?_) rfl (by kernel_rfl) (by kernel_rfl) (by kernel_rfl) (fun _ _ _ h => h) (Or.inl ⟨by rfl, ?_⟩) (by assumption) ?_
              rotate_left
              · (intro w hSw; (try dsimp only at hSw); go_simp; (try with_reducible rfl))
              (try simp only [Act.put, List.getElem_toArray, List.getElem_cons_succ, List.getElem_cons_zero, List.setIfInBounds_toArray, List.set_cons_zero, List.set_cons_succ])
              refine wpAnyH_take (i := 12) (v := ?_) rfl (by kernel_rfl) (by kernel_rfl) (by kernel_rfl) (fun _ _ _ h => h) (Or.inl ⟨by rfl, ?_⟩) (by assumption) ?_
              rotate_left
              · (intro w hSw; (try dsimp only at hSw); go_simp; (try with_reducible rfl))
              (try simp only [Act.put, List.getElem_toArray, List.getElem_cons_succ, List.getElem_cons_zero, List.setIfInBounds_toArray, List.set_cons_zero, List.set_cons_succ])
              refine wpAnyH_take (i := 13) (v := ?_) rfl (by kernel_rfl) (by kernel_rfl) (by kernel_rfl) (fun _ _ _ h => h) (Or.inl ⟨by rfl, ?_⟩) (by assumption) ?_
              rotate_left
              · (intro w hSw; (try dsimp only at hSw); go_simp; (try with_reducible rfl))
              (try simp only [Act.put, List.getElem_toArray, List.getElem_cons_succ, List.getElem_cons_zero, List.setIfInBounds_toArray, List.set_cons_zero, List.set_cons_succ])
              refine wpAnyH_take (i := 14) (v := ?_) rfl (by kernel_rfl) (by kernel_rfl) (by kernel_rfl) (fun _ _ _ h => h) (Or.inl ⟨by rfl, ?_⟩) (by assumption) ?_
              rotate_left
              · (intro w hSw; (try dsimp only at hSw); go_simp; (try with_reducible rfl))
              (try simp only [Act.put, List.getElem_toArray, List.getElem_cons_succ, List.getElem_cons_zero, List.setIfInBounds_toArray, List.set_cons_zero, List.set_cons_succ])
              refine wpAnyH_take (i := 15) (v := ?_) rfl (by kernel_rfl) (by kernel_rfl) (by kernel_rfl) (fun _ _ _ h => h) (Or.inl ⟨by rfl, ?_⟩) (by assumption) ?_
              rotate_left
              · (intro w hSw; (try dsimp only at hSw); go_simp; (try with_reducible rfl))
              (try simp only [Act.put, List.getElem_toArray, List.getElem_cons_succ, List.getElem_cons_zero, List.setIfInBounds_toArray, List.set_cons_zero, List.set_cons_succ])
              refine wpAnyH_take (i := 16) (v := ?_) rfl (by kernel_rfl) (by kernel_rfl) (by kernel_rfl) (fun _ _ _ h => h) (Or.inl ⟨by rfl, ?_⟩) (by assumption) ?_
              rotate_left
              · (intro w hSw; (try dsimp only at hSw); go_simp; (try with_reducible rfl))
              (try simp only [Act.put, List.getElem_toArray, List.getElem_cons_succ, List.getElem_cons_zero, List.setIfInBounds_toArray, List.set_cons_zero, List.set_cons_succ])
              refine wpAnyH_ready (rs := [17]) (by kernel_rfl) (by simp) (AllReadyH.cons rfl (fun K hK => ?_) AllReadyH.nil)
              (first | ((go_at_call 100; refine (HQ.out _ (HB.out.trans (hHeld.2.mono HB.out.size))).mono ?_; rintro e w91 ⟨rfl, b91⟩)) | (go_simp; (go_at_call 100; refine (HQ.out _ (HB.out.trans (hHeld.2.mono HB.out.size))).mono ?_; rintro e w91 ⟨rfl, b91⟩)))
              (try (go_wp2_with fail))
              refine hK.out _ _ ?_ (fun hHeld => ?_)
              · ((try dsimp only); (first | exact keepTc hHeld b91 | exact ⟨⟨⟨c0, c1⟩, d0, d1⟩, (Below.refl _ _).drew⟩))
              clear hK K
              (try simp only [Act.put, List.getElem_toArray, List.getElem_cons_succ, List.getElem_cons_zero, List.setIfInBounds_toArray, List.set_cons_zero, List.set_cons_succ])
              refine wpAnyH_take (i := 18) (v := ?_) rfl (by kernel_rfl) (by kernel_rfl) (by kernel_rfl) (fun _ _ _ h => h) (Or.inl ⟨by rfl, ?_⟩) (by assumption) ?_
              rotate_left
              · (intro w hSw; (try dsimp only at hSw); go_simp; (try with_reducible rfl))
              (try simp only [Act.put, List.getElem_toArray, List.getElem_cons_succ, List.getElem_cons_zero, List.setIfInBounds_toArray, List.set_cons_zero, List.set_cons_succ])
              refine wpAnyH_done (by kernel_rfl) ?_ _
              refine NoPanic.normal ?_
              obtain ⟨w5, hw5⟩ : ∃ w', w' = w91 := ⟨_, rfl⟩
              rw [← hw5] at hHeld ⊢
              have b5 := hHeld.2
              clear hHeld b91 hw5
              have hb5 := HB.out.trans (b5.mono HB.out.size)
              have HT5 := Lib.hid (HTD4.out.kept b5)
              clear b5 c0 c1 d0 d1
              go_wp2_with fail
              go_roundw
              case rel => exact ⟨i + 1, by omega, by go_num, HN, HT5, hb5⟩
              case measure => simp [intOf]; omega
        · obtain rfl : i = C := by omega
          have HX := Lib.hid (HE.out.trans HALL.out)
          go_wp2_with fail
          go_ret
          exact ⟨ret_b HX.out, HB.out⟩
end
end Go.Proofs.YtnbjcelfdppkcadGreat
namespace Go.Proofs.YtnbjcelfdppkcadGreat
open Go.RowKit

theorem row_at8 {w : World} {B : Nat} {ap : Option Addr} {cap k : Nat} {ps : List Int} (h : OwnI w B (.slice ap ps.length cap) ps) (hk : k < ps.length) : ∃ x, ap = some x ∧ w.cell? (x.add k) = some (.int .i64 (ps.getD k 0)) := by
  obtain ⟨a', cap', hv, hc⟩ := h.read
  cases hv
  obtain ⟨x, e1, e2⟩ := hc k hk
  rw [get_getD ps k hk] at e2
  exact ⟨x, e1, e2⟩
set_option maxHeartbeats 1600000 in
set_option maxRecDepth 20000 in
theorem covered8_any (v : Value) (l : List (Int × Int)) (d0 d1 : Int) (w : World) (hr : ReadD w v l) (hl : l.length ≤ 1048576) :
    Calls Tryz.prog 56 #[v, .agg #[.int .i64 d0, .int .i64 d1]] w fun e w' => e = .returned (.bool (cvd l (d0, d1))) ∧ Below w.heap.size w w' := by
  have hb1 := (Below.refl w.heap.size w).alloc (Nat.le_refl _) (.cells #[.int .i64 d0, .int .i64 d1] 35)
  obtain ⟨c0, c1⟩ := zero2 w 35 (.int .i64 d0) (.int .i64 d1)
  have HB1 := Lib.hid hb1
  have HC := Lib.hid (And.intro c0 c1)
  obtain ⟨a, cap, rfl, ha⟩ := hr
  have HA := Lib.hid ha
  clear ha hb1 c0 c1
  go_enter Tryz.func56, Tryz.ntmps56
  go_wp2_with fail
  go_loopw [5] (fun iv wr => ∃ i : Nat, i ≤ l.length ∧ iv = .int .i64 (i : Int) ∧ Hid (cvTo l (d0, d1) i = false) ∧ Hid (Below (w.alloc (.cells #[.int .i64 d0, .int .i64 d1] 35)).heap.size (w.alloc (.cells #[.int .i64 d0, .int .i64 d1] 35)) wr)) (fun iv _ => l.length - (intOf iv).toNat)
  case atStart => exact ⟨0, by omega, rfl, Lib.hid rfl, Lib.hid (Below.refl _ _)⟩
  case round =>
    obtain ⟨i, hi, rfl, hno, hb⟩ := hrel
    obtain ⟨w1, hw1⟩ : ∃ w', w' = wr := ⟨_, rfl⟩
    rw [← hw1] at hb ⊢
    clear hw1
    by_cases hlt : i < l.length
    · obtain ⟨b, o, rfl, h0, h1⟩ := HA.out i hlt
      have hbw := HB1.out.trans (hb.out.mono HB1.out.size)
      replace h0 := (hbw.cell (World.block_lt_of_cell? w _ h0)).trans h0
      replace h1 := (hbw.cell (World.block_lt_of_cell? w _ h1)).trans h1
      have c0 := (hb.out.cell (World.block_lt_of_cell? _ _ HC.out.1)).trans HC.out.1
      have c1 := (hb.out.cell (World.block_lt_of_cell? _ _ HC.out.2)).trans HC.out.2
      have hS : cvTo l (d0, d1) (i + 1) = (cvTo l (d0, d1) i || ((l.getD i (0, 0)).2 == d1 && (bits .and .i64 (l.getD i (0, 0)).1 d0 == (l.getD i (0, 0)).1))) := rfl
      have hY : (l.getD i (0, 0)).2 = d1 → bits .and .i64 (l.getD i (0, 0)).1 d0 = (l.getD i (0, 0)).1 → cvd l (d0, d1) = true := fun h2 h3 => (cvd_iff _ _).2 ⟨l.getD i (0, 0), by rw [List.getD_eq_getElem?_getD, List.getElem?_eq_getElem hlt]; exact List.getElem_mem hlt, h2, h3⟩
      obtain ⟨⟨y0, y1⟩, hy⟩ : ∃ z, z = l.getD i (0, 0) := ⟨_, rfl⟩
      rw [← hy] at h0 h1 hS hY
      simp only at h0 h1 hS hY
      rw [hno.out, Bool.false_or] at hS
      obtain ⟨e1, he1⟩ : ∃ e1, (y1 == d1) = e1 := ⟨_, rfl⟩
      obtain ⟨e2, he2⟩ : ∃ e2, (bits .and .i64 y0 d0 == y0) = e2 := ⟨_, rfl⟩
      have HY : Hid (e1 = true → e2 = true → cvd l (d0, d1) = true) := Lib.hid (fun q1 q2 => hY (by rw [← beq_iff_eq, he1]; exact q1) (by rw [← beq_iff_eq, he2]; exact q2))
      rw [he1, he2] at hS
      have HS := Lib.hid hS
      have z0 : (0 : Int) ≤ (i : Int) := by omega
      have z1 : (i : Int) < (l.length : Int) := by omega
      clear hy hS hY hbw
      cases e1 with
      | false =>
        go_wp2_with fail
        go_quiet (fail)
        go_wp2_with fail
        go_roundw
        case rel => exact ⟨i + 1, by omega, by go_num, Lib.hid (by rw [HS.out]; rfl), Lib.hid (below_drewN hb.out _)⟩
        case measure => simp [intOf]; omega
      | true =>
        cases e2 with
        | false =>
          go_wp2_with fail
          go_quiet (fail)
          go_wp2_with fail
          go_roundw
          case rel => exact ⟨i + 1, by omega, by go_num, Lib.hid (by rw [HS.out]; rfl), Lib.hid (below_drewN hb.out _)⟩
          case measure => simp [intOf]; omega
        | true =>
          have HE := Lib.hid (HY.out rfl rfl)
          go_wp2_with fail
          go_quiet (fail)
          go_wp2_with fail
          go_ret
          exact ⟨ret_b HE.out, HB1.out.trans ((below_drewN hb.out _).mono HB1.out.size)⟩
    · obtain rfl : i = l.length := by omega
      go_wp2_with fail
      go_ret
      exact ⟨ret_b hno.out, HB1.out.trans (hb.out.mono HB1.out.size)⟩
end Go.Proofs.YtnbjcelfdppkcadGreat
