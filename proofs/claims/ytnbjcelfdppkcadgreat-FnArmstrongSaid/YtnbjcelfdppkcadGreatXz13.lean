/- Texts of this claim, merged: ImA, CovE, ClB, ClC. Conditions: as stated. -/
import Derived.Test.YtnbjcelfdppkcadGreatXz4
import Derived.Test.YtnbjcelfdppkcadGreatXz12
import Derived.Test.YtnbjcelfdppkcadGreatXz9
import Derived.Test.YtnbjcelfdppkcadGreatXz5
import Derived.Deep.RegionLaw
import Derived.Deep.CutBlock
import Derived.Deep.DeepCutAuto
namespace Go.Proofs.YtnbjcelfdppkcadGreat
open Go.RowKit

theorem bits_andNot (a b : Int) : bits .andNot .i64 a b = IntKind.i64.wrap ((BitVec.ofInt 64 a &&& ~~~BitVec.ofInt 64 b).toNat : Int) := rfl
theorem bits_and (a b : Int) : bits .and .i64 a b = IntKind.i64.wrap ((BitVec.ofInt 64 a &&& BitVec.ofInt 64 b).toNat : Int) := rfl
theorem bv_part (x y : BitVec 64) : (x &&& ~~~y = 0#64) ↔ (x &&& y = x) := by
  constructor
  · intro h
    apply BitVec.eq_of_getLsbD_eq
    intro i hi
    have h2 : (x &&& ~~~y).getLsbD i = (0#64).getLsbD i := by rw [h]
    simp [hi] at h2 ⊢
    intro hx; exact h2 hx
  · intro h
    rw [← h, BitVec.and_assoc]
    simp
theorem wrap_nat_zero (n : Nat) (h : n < 2 ^ 64) : (IntKind.i64.wrap (n : Int) = 0) ↔ n = 0 := by
  rw [IntKind.wrap_i64]; omega
theorem bv_zero (x : BitVec 64) : (IntKind.i64.wrap (x.toNat : Int) = 0) ↔ x = 0#64 := by
  rw [wrap_nat_zero _ x.isLt]
  constructor
  · intro h; exact BitVec.eq_of_toNat_eq (by simpa using h)
  · intro h; rw [h]; rfl
theorem bv_self (v : BitVec 64) (x : Int) (h0 : -9223372036854775808 ≤ x) (h1 : x ≤ 9223372036854775807) : (IntKind.i64.wrap (v.toNat : Int) = x) ↔ v = BitVec.ofInt 64 x := by
  rw [IntKind.wrap_i64]
  have e := BitVec.toNat_ofInt (n := 64) x
  have l := v.isLt
  constructor
  · intro h
    apply BitVec.eq_of_toNat_eq
    rw [e]; omega
  · intro h
    rw [h, e]; omega
/-- 'x &^ y == 0': the same as 'x & y == x'. -/
def partZ (x y : Int) : Bool := bits .andNot .i64 x y == 0
theorem partZ_eq (x y : Int) (h0 : -9223372036854775808 ≤ x) (h1 : x ≤ 9223372036854775807) : partZ x y = (bits .and .i64 x y == x) := by
  unfold partZ
  rw [Bool.eq_iff_iff, beq_iff_eq, beq_iff_eq, bits_andNot, bits_and, bv_zero, bv_self _ x h0 h1, bv_part]
theorem and_mask (n : Nat) (hn : n < 63) (x : Int) : bits .and .i64 x (2 ^ n - 1) = x % 2 ^ n := by
  have p1 : (2 : Nat) ^ n < 2 ^ 63 := Nat.pow_lt_pow_right (by omega) hn
  have p0 : 0 < (2 : Nat) ^ n := Nat.pow_pos (by omega)
  have hc : ((2 : Int) ^ n) = ((2 ^ n : Nat) : Int) := by rw [Int.natCast_pow]; rfl
  have h : (BitVec.ofInt 64 (2 ^ n - 1)).toNat = 2 ^ n - 1 := by
    rw [BitVec.toNat_ofInt, hc]; omega
  have key : (BitVec.ofInt 64 x &&& BitVec.ofInt 64 (2 ^ n - 1)).toNat = (x % ((2 ^ 64 : Nat) : Int)).toNat % 2 ^ n := by
    rw [BitVec.toNat_and, BitVec.toNat_ofInt, h, Nat.and_two_pow_sub_one_eq_mod]
  rw [bits_and, key, IntKind.wrap_i64, hc]
  have hd : ((2 ^ n : Nat) : Int) ∣ ((2 ^ 64 : Nat) : Int) := by
    rw [show 64 = n + (64 - n) by omega, Nat.pow_add, Int.natCast_mul]; exact Int.dvd_mul_right _ _
  have e : (((x % ((2 ^ 64 : Nat) : Int)).toNat % 2 ^ n : Nat) : Int) = x % ((2 ^ n : Nat) : Int) := by
    rw [Int.natCast_emod, Int.toNat_of_nonneg (Int.emod_nonneg _ (by decide)), Int.emod_emod_of_dvd _ hd]
  rw [e]
  have q0 := Int.emod_nonneg x (b := ((2 ^ n : Nat) : Int)) (by omega)
  have q1 := Int.emod_lt_of_pos x (b := ((2 ^ n : Nat) : Int)) (by omega)
  omega
theorem partZ_first (n : Nat) (hn : n ≤ 5) (x : Int) (h0 : -9223372036854775808 ≤ x) (h1 : x ≤ 9223372036854775807) : partZ x (2 ^ n - 1) = decide (0 ≤ x ∧ x ≤ 2 ^ n - 1) := by
  rw [partZ_eq x _ h0 h1, and_mask n (by omega), Bool.eq_iff_iff, beq_iff_eq, decide_eq_true_iff]
  have p0 : 0 < (2 : Nat) ^ n := Nat.pow_pos (by omega)
  have hc : ((2 : Int) ^ n) = ((2 ^ n : Nat) : Int) := by rw [Int.natCast_pow]; rfl
  rw [hc]
  constructor
  · intro h
    have q0 := Int.emod_nonneg x (b := ((2 ^ n : Nat) : Int)) (by omega)
    have q1 := Int.emod_lt_of_pos x (b := ((2 ^ n : Nat) : Int)) (by omega)
    omega
  · rintro ⟨a, b⟩; exact Int.emod_eq_of_lt a (by omega)
theorem partZ_31 (x : Int) (h0 : -9223372036854775808 ≤ x) (h1 : x ≤ 9223372036854775807) : partZ x 31 = valB x := partZ_first 5 (by omega) x h0 h1

theorem partOf_any (x y : Int) (w : World) :
    Calls Tryz.prog 97 #[.int .i64 x, .int .i64 y] w fun e w' => e = .returned (.bool (partZ x y)) ∧ w = w' := by
  go_enter Tryz.func97, Tryz.ntmps97
  go_wp2_with fail
  go_ret
  exact ⟨rfl, rfl⟩
theorem colCount_any (n : Int) (w : World) :
    Calls Tryz.prog 42 #[.int .i64 n] w fun e w' => e = .returned (.bool (decide (0 ≤ n ∧ n ≤ 5))) ∧ w = w' := by
  by_cases h1 : 0 ≤ n <;> by_cases h2 : n ≤ 5
  all_goals
    go_enter Tryz.func42, Tryz.ntmps42
    go_wp2
    go_ret
    exact ⟨by simp [h1, h2], rfl⟩
theorem first_any (n : Int) (w : World) (h0 : 0 ≤ n) (h1 : n ≤ 5) :
    Calls Tryz.prog 61 #[.int .i64 n] w fun e w' => e = .returned (.int .i64 (2 ^ n.toNat - 1)) ∧ w = w' := by
  rcases (show n = 0 ∨ n = 1 ∨ n = 2 ∨ n = 3 ∨ n = 4 ∨ n = 5 by omega) with rfl | rfl | rfl | rfl | rfl | rfl
  all_goals
    go_enter Tryz.func61, Tryz.ntmps61
    go_wp2
    go_ret
    exact ⟨rfl, rfl⟩
/-- The number of ones. -/
theorem ones_any (X : Fin 32) (w : World) :
    Calls Tryz.prog 123 #[.int .u64 ((X.val : Nat) : Int)] w fun e w' => e = .returned (.int .i64 (cnt ((X.val : Nat) : Int) : Int)) ∧ w = w' := by
  go_enter Tryz.func123, Tryz.ntmps123
  go_wp2_with fail
  go_ret
  refine ⟨ret_int ?_, rfl⟩
  revert X
  decide +kernel
theorem onesCount_any (X : Nat) (h : X < 32) (w : World) :
    Calls Tryz.prog 121 #[.int .u64 (X : Int)] w fun e w' => e = .returned (.int .i64 (cnt (X : Int) : Int)) ∧ w = w' := by
  go_enter Tryz.func121, Tryz.ntmps121
  go_wp2_with fail
  refine (ones_any ⟨X, h⟩ _).mono ?_
  rintro e w' ⟨rfl, rfl⟩
  go_wp2_with fail
  go_ret
  exact ⟨rfl, rfl⟩
theorem size_any (X : Nat) (h : X < 32) (w : World) :
    Calls Tryz.prog 120 #[.int .i64 (X : Int)] w fun e w' => e = .returned (.int .i64 (cnt (X : Int) : Int)) ∧ w = w' := by
  go_enter Tryz.func120, Tryz.ntmps120
  go_wp2_with fail
  refine (onesCount_any X h _).mono ?_
  rintro e w' ⟨rfl, rfl⟩
  go_wp2_with fail
  go_ret
  exact ⟨rfl, rfl⟩
theorem has_any (X k : Nat) (hk : k ≤ 62) (w : World) :
    Calls Tryz.prog 34 #[.int .i64 (X : Int), .int .i64 (k : Int)] w fun e w' => e = .returned (.bool (bitB X k)) ∧ w = w' := by
  have hb : (bits BinOp.and IntKind.i64 ((X : Int) / 2 ^ k) 1 != 0) = bitB X k := by
    rw [← bit_test, i64_and_1, Bool.eq_iff_iff, bne_iff_ne, beq_iff_eq]; omega
  go_enter Tryz.func34, Tryz.ntmps34
  go_wp2_with fail
  go_ret
  exact ⟨rfl, rfl⟩
theorem implIsA_any (n x : Int) (h0 : -9223372036854775808 ≤ x) (h1 : x ≤ 9223372036854775807) (w : World) :
    Calls Tryz.prog 69 #[.int .i64 n, .int .i64 x] w fun e w' => e = .returned (.bool (isA n x)) ∧ Below w.heap.size w w' := by
  by_cases hn : 0 ≤ n ∧ n ≤ 5
  · have hd : decide (0 ≤ n ∧ n ≤ 5) = true := by simp [hn]
    have HZ : Hid (isA n x = partZ x (2 ^ n.toNat - 1)) := Lib.hid (by rw [partZ_first n.toNat (by omega) x h0 h1]; unfold isA; simp [hn])
    go_enter Tryz.func69, Tryz.ntmps69
    go_wp2_with fail
    refine (colCount_any _ _).mono ?_
    rintro e w' ⟨rfl, rfl⟩
    go_wp2_with fail
    refine (first_any _ _ hn.1 hn.2).mono ?_
    rintro e w' ⟨rfl, rfl⟩
    go_wp2_with fail
    refine (partOf_any _ _ _).mono ?_
    rintro e w' ⟨rfl, rfl⟩
    go_wp2_with fail
    go_ret
    exact ⟨ret_b HZ.out, Below.refl _ _⟩
  · have hd : decide (0 ≤ n ∧ n ≤ 5) = false := by simp only [hn, decide_false]
    go_enter Tryz.func69, Tryz.ntmps69
    go_wp2_with fail
    refine (colCount_any _ _).mono ?_
    rintro e w' ⟨rfl, rfl⟩
    go_wp2_with fail
    go_ret
    exact ⟨ret_b (by unfold isA; simp only [hn, false_and, decide_false]), Below.refl _ _⟩
end Go.Proofs.YtnbjcelfdppkcadGreat
namespace Go.Proofs.YtnbjcelfdppkcadGreat
open Go.RowKit

theorem filter_next {α : Type} (p : α → Bool) (l : List α) (d : α) (k : Nat) (h : k < l.length) : (l.take (k + 1)).filter p = if p (l.getD k d) = true then (l.take k).filter p ++ [l.getD k d] else (l.take k).filter p := by
  rw [take_succ_getD l d k h, List.filter_append]
  by_cases hp : p (l.getD k d) = true
  · rw [if_pos hp, List.filter_cons_of_pos hp]; rfl
  · rw [if_neg hp, List.filter_cons_of_neg hp]
    simp
theorem mdIn_filter (f : Int → Nat → Bool) (ps : List Int) (r : Nat) (l0 : List (Int × Int)) : ∀ n, n ≤ ps.length → mdIn f ps r l0 n = l0 ++ ((ps.take n).filter (fun S => f S r)).map (fun S => (S, (r : Int)))
  | 0, _ => by simp [mdIn]
  | n + 1, h => by
    have ih := mdIn_filter f ps r l0 n (by omega)
    have e := filter_next (fun S => f S r) ps 0 n h
    unfold mdIn
    by_cases hf : f (ps.getD n 0) r = true
    · rw [if_pos hf] at e
      rw [if_pos hf, e, ih, List.map_append, ← List.append_assoc]; rfl
    · rw [if_neg hf] at e
      rw [if_neg hf, e, ih]
theorem mdOut_succ (f : Int → Nat → Bool) (ps : List Int) (r : Nat) : mdOut f ps (r + 1) = mdOut f ps r ++ (ps.filter (fun S => f S r)).map (fun S => (S, (r : Int))) := by
  have h := mdIn_filter f ps r (mdOut f ps r) ps.length (Nat.le_refl _)
  rw [List.take_length] at h
  exact h
theorem mdOut_filter (f : Int → Nat → Bool) (q : Int × Int → Bool) (ps : List Int) : ∀ C, (mdOut f ps C).filter q = mdOut (fun S r => f S r && q (S, (r : Int))) ps C
  | 0 => rfl
  | C + 1 => by
    rw [mdOut_succ, mdOut_succ, List.filter_append, mdOut_filter f q ps C, List.filter_map, List.filter_filter]
    congr 2
    exact List.filter_congr fun S _ => Bool.and_comm _ _
/-- e says no more than d. -/
def covB (e d : Int × Int) : Bool := decide (e.2 = d.2) && partZ e.1 d.1
/-- Whether a different one of the list covers d. -/
def unB (l : List (Int × Int)) (d : Int × Int) : Bool := l.any fun e => !decide (e = d) && covB e d
def uncL (l : List (Int × Int)) : List (Int × Int) := l.filter fun d => !unB l d
def candL (C : Nat) : List (Int × Int) := mdOut (fun S r => !bitB S.toNat r) (parts (C : Int)) C
theorem part_sub (a b : Nat) (ha : a < 32) (hb : b < 32) : partZ (a : Int) (b : Int) = subN a b := by
  have h : ∀ a b : Fin 32, partZ ((a.val : Nat) : Int) ((b.val : Nat) : Int) = subN a.val b.val := by decide +kernel
  exact h ⟨a, ha⟩ ⟨b, hb⟩
/-- The dependencies of a filtered list of candidates that no other one covers. -/
theorem unc_low {C : Nat} (hC : C ≤ 5) (g : Int × Int → Bool) :
    uncL ((candL C).filter g) = mdOut (fun S r => decide (S ∈ minS (fltTo (fun S => !bitB S.toNat r && g (S, (r : Int))) (parts (C : Int)) (parts (C : Int)).length))) (parts (C : Int)) C := by
  have h32 := two5 hC
  have hl : (candL C).filter g = mdOut (fun S r => !bitB S.toNat r && g (S, (r : Int))) (parts (C : Int)) C := mdOut_filter _ _ _ _
  have key : ∀ l, l = mdOut (fun S r => !bitB S.toNat r && g (S, (r : Int))) (parts (C : Int)) C →
      (mdOut (fun S r => !bitB S.toNat r && g (S, (r : Int))) (parts (C : Int)) C).filter (fun d => !unB l d) =
      mdOut (fun S r => decide (S ∈ minS (fltTo (fun S => !bitB S.toNat r && g (S, (r : Int))) (parts (C : Int)) (parts (C : Int)).length))) (parts (C : Int)) C := by
    intro l hll
    rw [mdOut_filter]
    refine mdOut_same _ fun S hS r hr => ?_
    obtain ⟨x, hx, rfl⟩ := (parts_mem hC S).1 hS
    obtain ⟨k1, k2⟩ := flt_small hC (fun S => !bitB S.toNat r && g (S, (r : Int)))
    have hmem : ∀ z : Nat, ((z : Int) ∈ fltTo (fun S => !bitB S.toNat r && g (S, (r : Int))) (parts (C : Int)) (parts (C : Int)).length ↔ z < 2 ^ C ∧ (!bitB z r && g ((z : Int), (r : Int))) = true) := by
      intro z
      rw [fltTo_mem]
      constructor
      · rintro ⟨t, t1, t2, t3⟩
        obtain ⟨z', z1, z2⟩ := (parts_mem hC _).1 (mem_getD.2 ⟨t, t1, t3⟩)
        obtain rfl : z = z' := by omega
        rw [← t3] at t2
        exact ⟨z1, t2⟩
      · rintro ⟨z1, z2⟩
        obtain ⟨t, t1, t2⟩ := mem_getD.1 ((parts_mem hC (z : Int)).2 ⟨z, z1, rfl⟩)
        exact ⟨t, t1, by rw [← t2]; exact z2, t2⟩
    have hml : ∀ z : Nat, z < 2 ^ C → (((z : Int), (r : Int)) ∈ l ↔ (!bitB z r && g ((z : Int), (r : Int))) = true) := by
      intro z hz
      rw [hll, mdOut_mem]
      constructor
      · rintro ⟨r', r1, S, r2, r3, r4⟩
        obtain ⟨e1, e2⟩ := Prod.mk.inj r4
        obtain rfl : r = r' := by omega
        subst e1
        exact r3
      · intro h
        exact ⟨r, hr, (z : Int), (parts_mem hC _).2 ⟨z, hz, rfl⟩, h, rfl⟩
    rw [Bool.eq_iff_iff, decide_eq_true_iff, minS_mem k1 k2 x, hmem x, Bool.and_eq_true, Bool.not_eq_true']
    show (_ ∧ _) ↔ _
    constructor
    · rintro ⟨h1, h2⟩
      refine ⟨⟨hx, h1⟩, fun z hz hs => Classical.byContradiction fun hne => ?_⟩
      obtain ⟨z1, z2⟩ := (hmem z).1 hz
      have : unB l ((x : Int), (r : Int)) = true := by
        unfold unB
        rw [List.any_eq_true]
        refine ⟨((z : Int), (r : Int)), (hml z z1).2 z2, ?_⟩
        rw [Bool.and_eq_true, Bool.not_eq_true']
        refine ⟨decide_eq_false fun e => hne (by have := (Prod.mk.inj e).1; omega), ?_⟩
        unfold covB
        simp only [decide_true, Bool.true_and]
        rw [part_sub z x (by omega) (by omega)]; exact hs
      rw [h2] at this
      cases this
    · rintro ⟨⟨-, h1⟩, h2⟩
      refine ⟨h1, Bool.eq_false_iff.2 fun h => ?_⟩
      unfold unB at h
      rw [List.any_eq_true] at h
      obtain ⟨e, he, h⟩ := h
      rw [Bool.and_eq_true, Bool.not_eq_true', decide_eq_false_iff_not] at h
      obtain ⟨hne, hc⟩ := h
      have he' := he
      rw [hll, mdOut_mem] at he'
      obtain ⟨r', r1, S, r2, r3, rfl⟩ := he'
      obtain ⟨z, hz, rfl⟩ := (parts_mem hC S).1 r2
      unfold covB at hc
      rw [Bool.and_eq_true, decide_eq_true_iff] at hc
      obtain ⟨e2, hp⟩ := hc
      simp only at e2 hp
      obtain rfl : r = r' := by omega
      rw [part_sub z x (by omega) (by omega)] at hp
      obtain rfl := h2 z ((hmem z).2 ⟨hz, (hml z hz).1 he⟩) hp
      exact hne rfl
  unfold uncL
  rw [hl]
  exact key _ rfl
theorem unc_min {C : Nat} {ll : List (List Int)} {m : Int} (hf : fineT (C : Int) ll m = true) (h1 : 1 ≤ C) (hC : C ≤ 5) :
    uncL ((candL C).filter (fun d => holdsD (C : Int) ll m d.1 d.2)) = minD C ll m := by
  rw [unc_low hC]
  unfold minD
  refine mdOut_same _ fun S hS r hr => ?_
  obtain ⟨x, hx, rfl⟩ := (parts_mem hC S).1 hS
  rw [Bool.eq_iff_iff, decide_eq_true_iff]
  show _ ↔ minN C ll m x r = true
  refine low_min hC hr (fun z hz => ?_) hx
  rw [Bool.and_eq_true, Bool.not_eq_true']
  have ho := okD_all (S := z) (R := r) hf h1 hC hz hr
  have h3 := holds_iff ho rfl rfl rfl hC hr
  rw [← h3]
  exact Iff.rfl
theorem unc_app {C : Nat} {ll : List (List Int)} {m rows : Int} (hC : C ≤ 5) :
    uncL ((candL C).filter (fun d => decide (remD (C : Int) ll m d.1 d.2 ≤ rows))) = appD C ll m rows := by
  rw [unc_low hC]
  rfl
/-- The greatest and the smallest sets hang on the members alone. -/
theorem maxS_ext {l l' : List Int} (h : setsOk l = true) (h' : setsOk l' = true) (he : ∀ y, y ∈ l ↔ y ∈ l') : maxS l = maxS l' := by
  unfold maxS
  rw [if_pos h, if_pos h']
  refine ascI_unique _ _ (mxTo_asc _ _) (mxTo_asc _ _) fun y => ?_
  have step : ∀ (a b : List Int), (∀ y, y ∈ a ↔ y ∈ b) → y ∈ mxTo a a.length → y ∈ mxTo b b.length := by
    intro a b hab hy
    rw [mxTo_mem] at hy ⊢
    obtain ⟨t, t1, t2, t3⟩ := hy
    obtain ⟨s, s1, s2⟩ := mem_getD.1 ((hab y).1 (mem_getD.2 ⟨t, t1, t2⟩))
    refine ⟨s, s1, s2, (topK_iff _ _ _).2 fun u hu => ?_⟩
    obtain ⟨v, v1, v2⟩ := mem_getD.1 ((hab _).2 (mem_getD.2 ⟨u, hu, rfl⟩))
    have := (topK_iff _ _ _).1 t3 v v1
    rw [← v2] at this
    exact this
  exact ⟨step _ _ he, step _ _ fun z => (he z).symm⟩
theorem minS_ext {l l' : List Int} (h : setsOk l = true) (h' : setsOk l' = true) (he : ∀ y, y ∈ l ↔ y ∈ l') : minS l = minS l' := by
  unfold minS
  rw [if_pos h, if_pos h']
  refine ascI_unique _ _ (mnTo_asc _ _) (mnTo_asc _ _) fun y => ?_
  have step : ∀ (a b : List Int), (∀ y, y ∈ a ↔ y ∈ b) → y ∈ mnTo a a.length → y ∈ mnTo b b.length := by
    intro a b hab hy
    rw [mnTo_mem] at hy ⊢
    obtain ⟨t, t1, t2, t3⟩ := hy
    obtain ⟨s, s1, s2⟩ := mem_getD.1 ((hab y).1 (mem_getD.2 ⟨t, t1, t2⟩))
    refine ⟨s, s1, s2, (lowK_iff _ _ _).2 fun u hu => ?_⟩
    obtain ⟨v, v1, v2⟩ := mem_getD.1 ((hab _).2 (mem_getD.2 ⟨u, hu, rfl⟩))
    have := (lowK_iff _ _ _).1 t3 v v1
    rw [← v2] at this
    exact this
  exact ⟨step _ _ he, step _ _ fun z => (he z).symm⟩
theorem parts_len32 {C : Nat} (hC : C ≤ 5) : (parts (C : Int)).length ≤ 32 := by
  have h2 : ∀ C : Fin 6, (parts ((C.val : Nat) : Int)).length ≤ 32 := by decide +kernel
  exact h2 ⟨C, by omega⟩
theorem filt_ok {C : Nat} (hC : C ≤ 5) (g : Int → Bool) : setsOk ((parts (C : Int)).filter g) = true := by
  have h32 := two5 hC
  unfold setsOk
  rw [Bool.and_eq_true, decide_eq_true_iff, List.all_eq_true]
  refine ⟨fun y hy => ?_, ?_⟩
  · obtain ⟨x, hx, rfl⟩ := (parts_mem hC y).1 (List.mem_filter.1 hy).1
    have h : ∀ x : Fin 32, valB ((x.val : Nat) : Int) = true := by decide +kernel
    exact h ⟨x, by omega⟩
  · have h1 := List.length_filter_le g (parts (C : Int))
    have := parts_len32 hC
    omega
theorem filt_brd {C : Nat} (hC : C ≤ 5) {g : Int → Bool} {f : Nat → Bool} (h : ∀ x : Nat, x < 2 ^ C → g (x : Int) = f x) (y : Int) : y ∈ (parts (C : Int)).filter g ↔ y ∈ brdTo f (2 ^ C) := by
  rw [List.mem_filter, brdTo_mem]
  constructor
  · rintro ⟨h1, h2⟩
    obtain ⟨x, hx, rfl⟩ := (parts_mem hC y).1 h1
    exact ⟨x, hx, by rw [← h x hx]; exact h2, rfl⟩
  · rintro ⟨x, hx, h2, rfl⟩
    exact ⟨(parts_mem hC _).2 ⟨x, hx, rfl⟩, by rw [h x hx]; exact h2⟩
theorem max_filt {C : Nat} (hC : C ≤ 5) {g : Int → Bool} {f : Nat → Bool} (h : ∀ x : Nat, x < 2 ^ C → g (x : Int) = f x) : maxS ((parts (C : Int)).filter g) = maxS (brdTo f (2 ^ C)) :=
  maxS_ext (filt_ok hC g) (brdTo_ok f (two5 hC)) (filt_brd hC h)
theorem min_filt {C : Nat} (hC : C ≤ 5) {g : Int → Bool} {f : Nat → Bool} (h : ∀ x : Nat, x < 2 ^ C → g (x : Int) = f x) : minS ((parts (C : Int)).filter g) = minS (brdTo f (2 ^ C)) :=
  minS_ext (filt_ok hC g) (brdTo_ok f (two5 hC)) (filt_brd hC h)
theorem holds_h7 {C : Nat} {ll : List (List Int)} {m : Int} (hf : fineT (C : Int) ll m = true) (h1 : 1 ≤ C) (hC : C ≤ 5) {x R : Nat} (hx : x < 2 ^ C) (hR : R < C) : holdsD (C : Int) ll m (x : Int) (R : Int) = h7 C ll m x R := by
  have ho := okD_all (S := x) (R := R) hf h1 hC hx hR
  have h3 := holds_iff ho rfl rfl rfl hC hR
  rw [Bool.eq_iff_iff, h3, h7_iff hC hR]
/-- The border, from the list of sets by size. -/
theorem brd_filt {C : Nat} {ll : List (List Int)} {m : Int} {R : Nat} (hf : fineT (C : Int) ll m = true) (h1 : 1 ≤ C) (hC : C ≤ 5) (hR : R < C) :
    maxS (((parts (C : Int)).filter (fun S => !bitB S.toNat R)).filter (fun S => !holdsD (C : Int) ll m S (R : Int))) = brdL C ll m R := by
  rw [List.filter_filter]
  unfold brdL
  refine max_filt hC fun x hx => ?_
  rw [holds_h7 hf h1 hC hx hR]
  show (_ && !bitB x R) = _
  rw [Bool.and_comm]
theorem parts_small (n S : Int) (h : S ∈ parts n) : ∃ X : Nat, S = (X : Int) ∧ X < 32 := by
  by_cases hn : 0 ≤ n ∧ n ≤ 5
  · obtain ⟨C, rfl⟩ : ∃ C : Nat, n = (C : Int) := ⟨n.toNat, by omega⟩
    obtain ⟨h0, h1⟩ := parts_nat ⟨C, by omega⟩ S h
    exact ⟨S.toNat, by omega, by omega⟩
  · unfold parts at h
    rw [if_neg hn] at h
    cases h
theorem all_hit {p : Int → Bool} (l : List Int) (d : Int) (k : Nat) (h : k < l.length) (hp : p (l.getD k d) = false) : l.all p = false := by
  cases h' : l.all p with
  | false => rfl
  | true =>
    have := List.all_eq_true.1 h' (l.getD k d) (by rw [List.getD_eq_getElem?_getD, List.getElem?_eq_getElem h]; exact List.getElem_mem h)
    rw [hp] at this; cases this
end Go.Proofs.YtnbjcelfdppkcadGreat
namespace Go.Proofs.YtnbjcelfdppkcadGreat
open Go.RowKit

/-- The dependency applies to x: its left side is there, its right one is not. -/
def appN (x : Nat) (d : Int × Int) : Bool := subN d.1.toNat x && !bitB x d.2.toNat
def frst (l : List (Int × Int)) (x : Nat) : Nat := l.findIdx (appN x)
/-- The steps from x on, at most so many. -/
def drv (l : List (Int × Int)) (R : Nat) : Nat → Nat → List (Int × Int × Int)
  | 0, _ => []
  | k + 1, x => if bitB x R = true then [] else if frst l x < l.length then ((frst l x : Int), (x : Int), (orN x (l.getD (frst l x) (0, 0)).2.toNat : Int)) :: drv l R k (orN x (l.getD (frst l x) (0, 0)).2.toNat) else []
def impB (n : Int) (l : List (Int × Int)) (d : Int × Int) : Bool := arD n l && (depB n d.1 d.2 && bitB (clo l d.1.toNat) d.2.toNat)
def derL (n : Int) (l : List (Int × Int)) (d : Int × Int) : List (Int × Int × Int) := if impB n l d = true then drv l d.2.toNat 6 d.1.toNat else []
theorem frst_at {l : List (Int × Int)} {x i : Nat} (hi : i < l.length) (h : appN x (l.getD i (0, 0)) = true) (hn : ∀ j, j < i → appN x (l.getD j (0, 0)) = false) : frst l x = i := by
  have hg : ∀ j (hj : j < l.length), l.getD j (0, 0) = l[j] := fun j hj => by rw [List.getD_eq_getElem?_getD, List.getElem?_eq_getElem hj]; rfl
  unfold frst
  rw [List.findIdx_eq hi]
  exact ⟨by rw [← hg i hi]; exact h, fun j hj => by rw [← hg j (by omega)]; exact hn j hj⟩
theorem frst_app {l : List (Int × Int)} {x : Nat} (h : frst l x < l.length) : appN x (l.getD (frst l x) (0, 0)) = true := by
  rw [List.getD_eq_getElem?_getD, List.getElem?_eq_getElem h]
  exact List.findIdx_getElem (w := h)
theorem frst_none {l : List (Int × Int)} {x : Nat} (h : ¬ frst l x < l.length) : ClosedN l x := by
  intro d hd hs
  cases hb : bitB x d.2.toNat with
  | true => rfl
  | false => exact absurd (List.findIdx_lt_length_of_exists ⟨d, hd, by unfold appN; rw [hs, hb]; rfl⟩) h
theorem orN_not : ∀ (x : Fin 32) (R : Fin 5), bitB x.val R.val = false → popN x.val + 1 ≤ popN (orN x.val R.val) := by decide +kernel
theorem drv_end {l : List (Int × Int)} {R k x : Nat} (h : bitB x R = true) : drv l R k x = [] := by
  cases k with
  | zero => rfl
  | succ k => unfold drv; rw [if_pos h]
theorem sub_bitN {a b : Nat} (ha : a < 32) (hb : b < 32) (h : subN a b = true) {R : Nat} (hR : R < 5) (h2 : bitB a R = true) : bitB b R = true := (subN_bit ⟨a, ha⟩ ⟨b, hb⟩).1 h ⟨R, hR⟩ h2
/-- A step of the derivation. -/
theorem drv_step {C : Nat} {l : List (Int × Int)} (hC : C ≤ 5) (hl : DepsN C l) {L R k x : Nat} (hL : L < 32) (hR : R < 5) (hx : x < 32) (hLx : subN L x = true) (hxc : subN x (clo l L) = true) (himp : bitB (clo l L) R = true) (hb : bitB x R = false) (hk : 6 ≤ popN x + k) :
    ∃ k' y, k = k' + 1 ∧ frst l x < l.length ∧ y = orN x (l.getD (frst l x) (0, 0)).2.toNat ∧ drv l R k x = ((frst l x : Int), (x : Int), (y : Int)) :: drv l R k' y ∧ 6 ≤ popN y + k' ∧ y < 32 ∧ subN L y = true ∧ subN y (clo l L) = true := by
  obtain ⟨c1, c2, -, c3, c4⟩ := clo_spec hC hl hL
  have hf : frst l x < l.length := Classical.byContradiction fun hn => by
    have h1 := c4 x hx hLx (frst_none hn)
    rw [sub_bitN c1 hx h1 hR himp] at hb
    cases hb
  have ha := frst_app hf
  unfold appN at ha
  rw [Bool.and_eq_true, Bool.not_eq_true'] at ha
  obtain ⟨Ld, Rd, e, hLd, hRd⟩ := hl _ (memD hf)
  have eR : (l.getD (frst l x) (0, 0)).2.toNat = Rd := by rw [e]; rfl
  rw [eR] at ha
  have p5 := popN_le x
  obtain ⟨k', rfl⟩ : ∃ k', k = k' + 1 := ⟨k - 1, by omega⟩
  have h1 := orN_fin ⟨x, hx⟩ ⟨Rd, by omega⟩
  have h2 := orN_not ⟨x, hx⟩ ⟨Rd, by omega⟩ ha.2
  have h3 := orN_least ⟨x, hx⟩ ⟨_, c1⟩ ⟨Rd, by omega⟩ hxc (by
    have := c3 _ (memD hf) (subN_trans ha.1 hxc)
    rw [eR] at this
    exact this)
  simp only at h1 h2 h3
  refine ⟨k', orN x Rd, rfl, hf, by rw [eR], ?_, by omega, h1.1, subN_trans hLx h1.2.1, h3⟩
  conv => lhs; unfold drv
  rw [if_neg (by rw [hb]; exact Bool.false_ne_true), if_pos hf, eR]
theorem drv_len (l : List (Int × Int)) (R : Nat) : ∀ k x, (drv l R k x).length ≤ k
  | 0, _ => Nat.le_refl _
  | k + 1, x => by
    unfold drv
    split
    · exact Nat.zero_le _
    · split
      · rw [List.length_cons]
        have := drv_len l R k (orN x (l.getD (frst l x) (0, 0)).2.toNat)
        omega
      · exact Nat.zero_le _
theorem derL_len (n : Int) (l : List (Int × Int)) (d : Int × Int) : (derL n l d).length ≤ 6 := by
  unfold derL
  split
  · exact drv_len _ _ _ _
  · exact Nat.zero_le _
/-- The set after the first i steps; whether they are right. -/
def chkX (l : List (Int × Int)) (x : Nat) (s : List (Int × Int × Int)) : Nat → Nat
  | 0 => x
  | i + 1 => orN (chkX l x s i) (l.getD (s.getD i (0, 0, 0)).1.toNat (0, 0)).2.toNat
def chkAt (l : List (Int × Int)) (x : Nat) (t : Int × Int × Int) : Bool :=
  decide (0 ≤ t.1 ∧ t.1 < (l.length : Int)) && (t.2.1 == (x : Int)) && subN (l.getD t.1.toNat (0, 0)).1.toNat x && (t.2.2 == (orN x (l.getD t.1.toNat (0, 0)).2.toNat : Int))
def chkTo (l : List (Int × Int)) (x : Nat) (s : List (Int × Int × Int)) : Nat → Bool
  | 0 => true
  | i + 1 => chkTo l x s i && chkAt l (chkX l x s i) (s.getD i (0, 0, 0))
def chkB (n : Int) (l : List (Int × Int)) (d : Int × Int) (s : List (Int × Int × Int)) : Bool :=
  arD n l && (depB n d.1 d.2 && (chkTo l d.1.toNat s s.length && bitB (chkX l d.1.toNat s s.length) d.2.toNat))
theorem chkX_lt {C : Nat} {l : List (Int × Int)} (hC : C ≤ 5) (hl : DepsN C l) {x : Nat} (hx : x < 32) (s : List (Int × Int × Int)) : ∀ i, chkTo l x s i = true → chkX l x s i < 32
  | 0, _ => hx
  | i + 1, h => by
    unfold chkTo at h
    rw [Bool.and_eq_true] at h
    have h1 := chkX_lt hC hl hx s i h.1
    have h2 := h.2
    unfold chkAt at h2
    rw [Bool.and_eq_true, Bool.and_eq_true, Bool.and_eq_true, decide_eq_true_iff] at h2
    obtain ⟨Ld, Rd, e, hLd, hRd⟩ := hl _ (memD (l := l) (i := (s.getD i (0, 0, 0)).1.toNat) (by omega))
    unfold chkX
    rw [e]
    exact (orN_fin ⟨_, h1⟩ ⟨Rd, by omega⟩).1
theorem chkTo_le {l : List (Int × Int)} {x : Nat} {s : List (Int × Int × Int)} : ∀ {j i : Nat}, i ≤ j → chkTo l x s j = true → chkTo l x s i = true
  | 0, i, h, hj => by rw [show i = 0 by omega]; exact hj
  | j + 1, i, h, hj => by
    by_cases e : i = j + 1
    · rw [e]; exact hj
    · unfold chkTo at hj
      rw [Bool.and_eq_true] at hj
      exact chkTo_le (by omega) hj.1
/-- The sets that are their own closures. -/
def clsL (n : Int) (l : List (Int × Int)) : List Int := if arD n l = true then brdTo (clB l) (2 ^ n.toNat) else []
def smB (n : Int) (a b : List (Int × Int)) : Bool := arD n a && (arD n b && decide (clsL n a = clsL n b))
def cloZ (n : Int) (l : List (Int × Int)) (s : Int) : Int := if (arD n l && isA n s) = true then (clo l s.toNat : Int) else 0
end Go.Proofs.YtnbjcelfdppkcadGreat
namespace Go.Proofs.YtnbjcelfdppkcadGreat
open Go.RowKit

theorem allD_snoc {p : Int × Int → Bool} {l : List (Int × Int)} {i : Nat} (hi : i < l.length) (h : (l.take i).all p = true) (hp : p (l.getD i (0, 0)) = true) : (l.take (i + 1)).all p = true := by
  rw [take_succ_getD l (0, 0) i hi, List.all_append, h]
  simp only [List.all_cons, List.all_nil, Bool.and_true, Bool.true_and]
  exact hp
theorem allD_not {p : Int × Int → Bool} {l : List (Int × Int)} {i : Nat} (hi : i < l.length) (hp : p (l.getD i (0, 0)) = false) : l.all p = false := by
  rw [Bool.eq_false_iff]
  intro h
  rw [List.all_eq_true] at h
  rw [h _ (memD hi)] at hp
  cases hp
theorem readD_cells {w : World} {a : Option Addr} {n cap : Nat} {l : List (Int × Int)} (h : ReadD w (.slice a n cap) l) {i : Nat} (hi : i < l.length) : ∃ b o, a = some ⟨b, o, none⟩ ∧ w.cell? ⟨b, o + i * 2, none⟩ = some (.int .i64 (l.getD i (0, 0)).1) ∧ w.cell? ⟨b, o + i * 2 + 1, none⟩ = some (.int .i64 (l.getD i (0, 0)).2) := by
  obtain ⟨a', cap', hv, hc⟩ := h
  cases hv
  exact hc i hi
theorem keep_in {w w' : World} {p : Addr} {v : Value} (h : w.cell? p = some v) (b : Below w.heap.size w w') : w'.cell? p = some v := (b.cell (World.block_lt_of_cell? w _ h)).trans h
theorem or_w : ∀ (x : Fin 32) (R : Fin 5), bits .or .i64 ((x.val : Nat) : Int) (wrap64 (2 ^ R.val)) = ((orN x.val R.val : Nat) : Int) := by decide +kernel
section
set_option maxRecDepth 20000
set_option maxHeartbeats 3200000
theorem areDeps10_any (v : Value) (n : Int) (l : List (Int × Int)) (w : World) (hr : ReadD w v l) (hl : l.length ≤ 1048576) :
    Calls Tryz.prog 9 #[.int .i64 n, v] w fun e w' => e = .returned (.bool (arD n l)) ∧ Below w.heap.size w w' := by
  have HR := Lib.hid (fun w' (hb : Below w.heap.size w w') => hr.kept hb)
  have HIN := Lib.hid (fun w' => in_any n 1 5 w')
  have HID := Lib.hid (fun a b w' => isDep_any n a b w')
  obtain ⟨a, cap, rfl, -⟩ := hr
  go_enter Tryz.func9, Tryz.ntmps9
  go_wp2_with fail
  go_loopw [5] (fun iv wr => ∃ i : Nat, i ≤ l.length ∧ iv = .int .i64 (i : Int) ∧ Hid ((l.take i).all (fun d => depB n d.1 d.2) = true) ∧ Hid (Below w.heap.size w wr)) (fun iv _ => l.length - (intOf iv).toNat)
  case atStart => exact ⟨0, by omega, rfl, Lib.hid rfl, Lib.hid (Below.refl _ _)⟩
  case round =>
    obtain ⟨i, hi, rfl, HA, HB⟩ := hrel
    obtain ⟨w3, hw⟩ : ∃ w', w' = wr := ⟨_, rfl⟩
    rw [← hw] at HB ⊢
    clear hw
    have z0 : (0 : Int) ≤ (i : Int) := by omega
    by_cases hlt : i < l.length
    · obtain ⟨b, o, rfl, h0, h1⟩ := readD_cells (HR.out w3 HB.out) hlt
      have z1 : (i : Int) < (l.length : Int) := by omega
      have HOK := Lib.hid (fun h => allD_snoc (p := fun d => depB n d.1 d.2) hlt HA.out h)
      have HNO := Lib.hid (fun h => allD_not (p := fun d => depB n d.1 d.2) hlt h)
      obtain ⟨⟨x0, x1⟩, hx⟩ : ∃ z, z = l.getD i (0, 0) := ⟨_, rfl⟩
      rw [← hx] at h0 h1 HOK HNO
      simp only at h0 h1
      have HQ := Lib.hid (HID.out x0 x1 w3)
      clear hx HA
      cases hd : depB n x0 x1 with
      | true =>
        rw [hd] at HQ
        have HX := Lib.hid (HOK.out hd)
        clear hd
        go_wp2_with fail
        refine HQ.out.mono ?_
        rintro e w4 ⟨rfl, b4⟩
        have HB4 := Lib.hid (HB.out.trans (b4.mono HB.out.size))
        clear b4 h0 h1
        go_wp2_with fail
        go_roundw
        case rel => exact ⟨i + 1, by omega, by go_num, HX, HB4⟩
        case measure => simp [intOf]; omega
      | false =>
        rw [hd] at HQ
        have HX := Lib.hid (HNO.out hd)
        clear hd
        go_wp2_with fail
        refine HQ.out.mono ?_
        rintro e w4 ⟨rfl, b4⟩
        have HB4 := Lib.hid (HB.out.trans (b4.mono HB.out.size))
        clear b4 h0 h1
        go_wp2_with fail
        go_ret
        exact ⟨ret_b (by unfold arD; rw [HX.out]; rfl), HB4.out⟩
    · obtain rfl : i = l.length := by omega
      have HAA : Hid (l.all (fun d => depB n d.1 d.2) = true) := Lib.hid (by have := HA.out; rwa [List.take_length] at this)
      have HQ := Lib.hid (HIN.out w3)
      clear HA
      by_cases hn : 1 ≤ n ∧ n ≤ 5
      · rw [decide_eq_true hn] at HQ
        by_cases h20 : l.length ≤ 20
        · have g20 : (l.length : Int) ≤ 20 := by omega
          have HE : Hid (arD n l = true) := Lib.hid (by unfold arD; rw [HAA.out, decide_eq_true hn, decide_eq_true h20]; rfl)
          clear hn
          go_wp2_with fail
          refine HQ.out.mono ?_
          rintro e w' ⟨rfl, rfl⟩
          go_wp2_with fail
          go_ret
          exact ⟨ret_b HE.out, HB.out⟩
        · have g20 : ¬ ((l.length : Int) ≤ 20) := by omega
          have HE : Hid (arD n l = false) := Lib.hid (by unfold arD; rw [HAA.out, decide_eq_true hn, decide_eq_false h20]; rfl)
          clear hn
          go_wp2_with fail
          refine HQ.out.mono ?_
          rintro e w' ⟨rfl, rfl⟩
          go_wp2_with fail
          go_ret
          exact ⟨ret_b (by rw [HE.out, decide_eq_false (by omega)]), HB.out⟩
      · rw [decide_eq_false hn] at HQ
        have HE : Hid (arD n l = false) := Lib.hid (by unfold arD; rw [HAA.out, decide_eq_false hn]; rfl)
        clear hn
        go_wp2_with fail
        refine HQ.out.mono ?_
        rintro e w' ⟨rfl, rfl⟩
        go_wp2_with fail
        go_ret
        exact ⟨ret_b HE.out, HB.out⟩
theorem close10_any (C : Nat) (hC : C ≤ 5) (v : Value) (l : List (Int × Int)) (hd : DepsN C l) (x : Nat) (hx : x < 32) (w : World) (hr : ReadD w v l) (hl : l.length ≤ 1048576) :
    Calls Tryz.prog 65 #[v, .int .i64 (x : Int)] w fun e w' => e = .returned (.int .i64 (clo l x : Int)) ∧ Below w.heap.size w w' := by
  have HR := Lib.hid (fun w' (hb : Below w.heap.size w w') => hr.kept hb)
  obtain ⟨a, cap, rfl, -⟩ := hr
  have HD := Lib.hid hd
  have HK := Lib.hid (fun k => (cloTo_facts hC hd hx k).1)
  have HRD := Lib.hid (fun (y : Nat) (hy : y < 32) i hi => (rdTo_facts hC hd hy i hi).1)
  clear hd hx
  go_enter Tryz.func65, Tryz.ntmps65
  go_wp2_with fail
  go_loopw [1, 5] (fun xv kv wr => ∃ k : Nat, k ≤ 6 ∧ kv = .int .i64 (k : Int) ∧ xv = .int .i64 (cloTo l x k : Int) ∧ Hid (Below w.heap.size w wr)) (fun _ kv _ => 6 - (intOf kv).toNat)
  case atStart => exact ⟨0, by omega, rfl, rfl, Lib.hid (Below.refl _ _)⟩
  case round =>
    obtain ⟨k, hk, rfl, rfl, HB⟩ := hrel
    obtain ⟨w2, hw⟩ : ∃ w', w' = wr := ⟨_, rfl⟩
    rw [← hw] at HB ⊢
    clear hw
    have z0 : (0 : Int) ≤ (k : Int) := by omega
    have hkx := HK.out k
    have HN : Hid (cloTo l x (k + 1) = rdTo l (cloTo l x k) l.length) := Lib.hid rfl
    by_cases hlt : k < 6
    · have z1 : (k : Int) ≤ 5 := by omega
      obtain ⟨y, hy⟩ : ∃ y, y = cloTo l x k := ⟨_, rfl⟩
      rw [← hy] at hkx HN ⊢
      clear hy
      go_wp2_with fail
      go_loopw [1, 6] (fun xv iv wr => ∃ i : Nat, i ≤ l.length ∧ iv = .int .i64 (i : Int) ∧ xv = .int .i64 (rdTo l y i : Int) ∧ Hid (Below w.heap.size w wr)) (fun _ iv _ => l.length - (intOf iv).toNat)
      case atStart => exact ⟨0, by omega, rfl, rfl, HB⟩
      case round =>
        clear HB
        obtain ⟨i, hi, rfl, rfl, HB⟩ := hrel
        obtain ⟨w3, hw⟩ : ∃ w', w' = wr := ⟨_, rfl⟩
        rw [← hw] at HB ⊢
        clear hw
        have z2 : (0 : Int) ≤ (i : Int) := by omega
        by_cases hlt2 : i < l.length
        · obtain ⟨b, o, rfl, h0, h1⟩ := readD_cells (HR.out w3 HB.out) hlt2
          have z3 : (i : Int) < (l.length : Int) := by omega
          obtain ⟨L, R, e, hL, hR⟩ := HD.out _ (memD hlt2)
          have hX32 := HRD.out y hkx i hi
          have hS : rdTo l y (i + 1) = stN (rdTo l y i) (l.getD i (0, 0)) := rfl
          obtain ⟨X, hX⟩ : ∃ X, X = rdTo l y i := ⟨_, rfl⟩
          rw [← hX] at hX32 hS ⊢
          rw [e] at h0 h1 hS
          simp only at h0 h1
          have HSX : Hid (rdTo l y (i + 1) = if subN L X = true then orN X R else X) := Lib.hid (by rw [hS]; rfl)
          have h32 := two5 hC
          have hand := sub_and ⟨L, by omega⟩ ⟨X, hX32⟩
          simp only at hand
          have HOW : Hid (bits .or .i64 (X : Int) (wrap64 (2 ^ R)) = (orN X R : Int)) := Lib.hid (or_w ⟨X, hX32⟩ ⟨R, by omega⟩)
          have zR : (0 : Int) ≤ (R : Int) := by omega
          have hR5 : R < 5 := by omega
          clear e hX hS
          cases hs : subN L X with
          | true =>
            rw [hs] at hand HSX
            clear hs
            go_upto_region 7 with fail
            refine wp_region_noPanic ?_
            refine wp_region_held_drew (S := (fun w' => w'.cell? ⟨b, o + i * 2, none⟩ = some (.int .i64 (L : Int)) ∧ Below w3.heap.size w3 w')) (by kernel_rfl) ?_ (fun hHeld => ?_)
            · ((try dsimp only); exact ⟨h0, (Below.refl _ _).drew⟩)
            refine wpAnyH_take (i := 0) (v := ?_) rfl (by kernel_rfl) (by kernel_rfl) (by kernel_rfl) (fun _ _ _ h => h) (Or.inl ⟨by rfl, ?_⟩) (by assumption) ?_
            rotate_left
            · (intro w hSw; (try dsimp only at hSw); go_simp; (try with_reducible rfl))
            (try simp only [Act.put, List.getElem_toArray, List.getElem_cons_zero, List.setIfInBounds_toArray, List.set_cons_zero, List.set_cons_succ])
            refine wpAnyH_take (i := 1) (v := ?_) rfl (by kernel_rfl) (by kernel_rfl) (by kernel_rfl) (fun _ _ _ h => h) (Or.inl ⟨by rfl, ?_⟩) (by assumption) ?_
            rotate_left
            · (intro w hSw; (try dsimp only at hSw); go_simp; (try with_reducible rfl))
            (try simp only [Act.put, List.getElem_toArray, List.getElem_cons_succ, List.getElem_cons_zero, List.setIfInBounds_toArray, List.set_cons_zero, List.set_cons_succ])
            refine wpAnyH_take (i := 2) (v := ?_) rfl (by kernel_rfl) (by kernel_rfl) (by kernel_rfl) (fun _ _ _ h => h) (Or.inl ⟨by rfl, ?_⟩) (by assumption) ?_
            rotate_left
            · (intro w hSw; (try dsimp only at hSw); go_simp; (try with_reducible rfl))
            (try simp only [Act.put, List.getElem_toArray, List.getElem_cons_succ, List.getElem_cons_zero, List.setIfInBounds_toArray, List.set_cons_zero, List.set_cons_succ])
            refine wpAnyH_take (i := 3) (v := ?_) rfl (by kernel_rfl) (by kernel_rfl) (by kernel_rfl) (fun _ _ _ h => h) (Or.inl ⟨by rfl, ?_⟩) (by assumption) ?_
            rotate_left
            · (intro w hSw; (try dsimp only at hSw); go_simp; (try with_reducible rfl))
            (try simp only [Act.put, List.getElem_toArray, List.getElem_cons_succ, List.getElem_cons_zero, List.setIfInBounds_toArray, List.set_cons_zero, List.set_cons_succ])
            refine wpAnyH_take (i := 4) (v := ?_) rfl (by kernel_rfl) (by kernel_rfl) (by kernel_rfl) (fun _ _ _ h => h) (Or.inl ⟨by rfl, ?_⟩) (by assumption) ?_
            rotate_left
            · (intro w hSw; (try dsimp only at hSw); go_simp; (try with_reducible rfl))
            (try simp only [Act.put, List.getElem_toArray, List.getElem_cons_succ, List.getElem_cons_zero, List.setIfInBounds_toArray, List.set_cons_zero, List.set_cons_succ])
            refine wpAnyH_take (i := 5) (v := ?_) rfl (by kernel_rfl) (by kernel_rfl) (by kernel_rfl) (fun _ _ _ h => h) (Or.inl ⟨by rfl, ?_⟩) (by assumption) ?_
            rotate_left
            · (intro w hSw; (try dsimp only at hSw); go_simp; (try with_reducible rfl))
            (try simp only [Act.put, List.getElem_toArray, List.getElem_cons_succ, List.getElem_cons_zero, List.setIfInBounds_toArray, List.set_cons_zero, List.set_cons_succ])
            refine wpAnyH_take (i := 6) (v := ?_) rfl (by kernel_rfl) (by kernel_rfl) (by kernel_rfl) (fun _ _ _ h => h) (Or.inl ⟨by rfl, ?_⟩) (by assumption) ?_
            rotate_left
            · (intro w hSw; (try dsimp only at hSw); go_simp; (try with_reducible rfl))
            (try simp only [Act.put, List.getElem_toArray, List.getElem_cons_succ, List.getElem_cons_zero, List.setIfInBounds_toArray, List.set_cons_zero, List.set_cons_succ])
            refine wpAnyH_take (i := 7) (v := ?_) rfl (by kernel_rfl) (by kernel_rfl) (by kernel_rfl) (fun _ _ _ h => h) (Or.inl ⟨by rfl, ?_⟩) (by assumption) ?_
            rotate_left
            · (intro w hSw; (try dsimp only at hSw); go_simp; (try with_reducible rfl))
            (try simp only [Act.put, List.getElem_toArray, List.getElem_cons_succ, List.getElem_cons_zero, List.setIfInBounds_toArray, List.set_cons_zero, List.set_cons_succ])
            refine wpAnyH_take (i := 8) (v := ?_) rfl (by kernel_rfl) (by kernel_rfl) (by kernel_rfl) (fun _ _ _ h => h) (Or.inl ⟨by rfl, ?_⟩) (by assumption) ?_
            rotate_left
            · (intro w hSw; (try dsimp only at hSw); go_simp; (try with_reducible rfl))
            (try simp only [Act.put, List.getElem_toArray, List.getElem_cons_succ, List.getElem_cons_zero, List.setIfInBounds_toArray, List.set_cons_zero, List.set_cons_succ])
            refine wpAnyH_take (i := 9) (v := ?_) rfl (by kernel_rfl) (by kernel_rfl) (by kernel_rfl) (fun _ _ _ h => h) (Or.inl ⟨by rfl, ?_⟩) (by assumption) ?_
            rotate_left
            · (intro w hSw; (try dsimp only at hSw); go_simp; (try with_reducible rfl))
            (try simp only [Act.put, List.getElem_toArray, List.getElem_cons_succ, List.getElem_cons_zero, List.setIfInBounds_toArray, List.set_cons_zero, List.set_cons_succ])
            refine wpAnyH_take (i := 10) (v := ?_) rfl (by kernel_rfl) (by kernel_rfl) (by kernel_rfl) (fun _ _ _ h => h) (Or.inl ⟨by rfl, ?_⟩) (by assumption) ?_
            rotate_left
            · (intro w hSw; (try dsimp only at hSw); go_simp; (try with_reducible rfl))
            (try simp only [Act.put, List.getElem_toArray, List.getElem_cons_succ, List.getElem_cons_zero, List.setIfInBounds_toArray, List.set_cons_zero, List.set_cons_succ])
            refine wpAnyH_take (i := 11) (v := ?_) rfl (by kernel_rfl) (by kernel_rfl) (by kernel_rfl) (fun _ _ _ h => h) (Or.inl ⟨by rfl, ?_⟩) (by assumption) ?_
            rotate_left
            · (intro w hSw; (try dsimp only at hSw); go_simp; (try with_reducible rfl))
            (try simp only [Act.put, List.getElem_toArray, List.getElem_cons_succ, List.getElem_cons_zero, List.setIfInBounds_toArray, List.set_cons_zero, List.set_cons_succ])
            refine wpAnyH_take (i := 12) (v := ?_) rfl (by kernel_rfl) (by kernel_rfl) (by kernel_rfl) (fun _ _ _ h => h) (Or.inl ⟨by rfl, ?_⟩) (by assumption) ?_
            rotate_left
            · (intro w hSw; (try dsimp only at hSw); go_simp; (try with_reducible rfl))
            (try simp only [Act.put, List.getElem_toArray, List.getElem_cons_succ, List.getElem_cons_zero, List.setIfInBounds_toArray, List.set_cons_zero, List.set_cons_succ])
            refine wpAnyH_done (by kernel_rfl) ?_ _
            refine NoPanic.normal ?_
            replace h1 := keep_in h1 hHeld.2
            have HB4 := Lib.hid (HB.out.trans (hHeld.2.mono HB.out.size))
            clear hHeld h0
            go_wp2_with fail
            go_roundw
            case rel => exact ⟨i + 1, by omega, by go_num, by rw [HOW.out, HSX.out, if_pos rfl], HB4⟩
            case measure => simp [intOf]; omega
          | false =>
            rw [hs] at hand HSX
            clear hs
            go_upto_region 7 with fail
            refine wp_region_noPanic ?_
            refine wp_region_held_drew (S := (fun w' => w'.cell? ⟨b, o + i * 2, none⟩ = some (.int .i64 (L : Int)) ∧ Below w3.heap.size w3 w')) (by kernel_rfl) ?_ (fun hHeld => ?_)
            · ((try dsimp only); exact ⟨h0, (Below.refl _ _).drew⟩)
            refine wpAnyH_take (i := 0) (v := ?_) rfl (by kernel_rfl) (by kernel_rfl) (by kernel_rfl) (fun _ _ _ h => h) (Or.inl ⟨by rfl, ?_⟩) (by assumption) ?_
            rotate_left
            · (intro w hSw; (try dsimp only at hSw); go_simp; (try with_reducible rfl))
            (try simp only [Act.put, List.getElem_toArray, List.getElem_cons_zero, List.setIfInBounds_toArray, List.set_cons_zero, List.set_cons_succ])
            refine wpAnyH_take (i := 1) (v := ?_) rfl (by kernel_rfl) (by kernel_rfl) (by kernel_rfl) (fun _ _ _ h => h) (Or.inl ⟨by rfl, ?_⟩) (by assumption) ?_
            rotate_left
            · (intro w hSw; (try dsimp only at hSw); go_simp; (try with_reducible rfl))
            (try simp only [Act.put, List.getElem_toArray, List.getElem_cons_succ, List.getElem_cons_zero, List.setIfInBounds_toArray, List.set_cons_zero, List.set_cons_succ])
            refine wpAnyH_take (i := 2) (v := ?_) rfl (by kernel_rfl) (by kernel_rfl) (by kernel_rfl) (fun _ _ _ h => h) (Or.inl ⟨by rfl, ?_⟩) (by assumption) ?_
            rotate_left
            · (intro w hSw; (try dsimp only at hSw); go_simp; (try with_reducible rfl))
            (try simp only [Act.put, List.getElem_toArray, List.getElem_cons_succ, List.getElem_cons_zero, List.setIfInBounds_toArray, List.set_cons_zero, List.set_cons_succ])
            refine wpAnyH_take (i := 3) (v := ?_) rfl (by kernel_rfl) (by kernel_rfl) (by kernel_rfl) (fun _ _ _ h => h) (Or.inl ⟨by rfl, ?_⟩) (by assumption) ?_
            rotate_left
            · (intro w hSw; (try dsimp only at hSw); go_simp; (try with_reducible rfl))
            (try simp only [Act.put, List.getElem_toArray, List.getElem_cons_succ, List.getElem_cons_zero, List.setIfInBounds_toArray, List.set_cons_zero, List.set_cons_succ])
            refine wpAnyH_take (i := 4) (v := ?_) rfl (by kernel_rfl) (by kernel_rfl) (by kernel_rfl) (fun _ _ _ h => h) (Or.inl ⟨by rfl, ?_⟩) (by assumption) ?_
            rotate_left
            · (intro w hSw; (try dsimp only at hSw); go_simp; (try with_reducible rfl))
            (try simp only [Act.put, List.getElem_toArray, List.getElem_cons_succ, List.getElem_cons_zero, List.setIfInBounds_toArray, List.set_cons_zero, List.set_cons_succ])
            refine wpAnyH_take (i := 5) (v := ?_) rfl (by kernel_rfl) (by kernel_rfl) (by kernel_rfl) (fun _ _ _ h => h) (Or.inl ⟨by rfl, ?_⟩) (by assumption) ?_
            rotate_left
            · (intro w hSw; (try dsimp only at hSw); go_simp; (try with_reducible rfl))
            (try simp only [Act.put, List.getElem_toArray, List.getElem_cons_succ, List.getElem_cons_zero, List.setIfInBounds_toArray, List.set_cons_zero, List.set_cons_succ])
            refine wpAnyH_take (i := 6) (v := ?_) rfl (by kernel_rfl) (by kernel_rfl) (by kernel_rfl) (fun _ _ _ h => h) (Or.inl ⟨by rfl, ?_⟩) (by assumption) ?_
            rotate_left
            · (intro w hSw; (try dsimp only at hSw); go_simp; (try with_reducible rfl))
            (try simp only [Act.put, List.getElem_toArray, List.getElem_cons_succ, List.getElem_cons_zero, List.setIfInBounds_toArray, List.set_cons_zero, List.set_cons_succ])
            refine wpAnyH_take (i := 7) (v := ?_) rfl (by kernel_rfl) (by kernel_rfl) (by kernel_rfl) (fun _ _ _ h => h) (Or.inl ⟨by rfl, ?_⟩) (by assumption) ?_
            rotate_left
            · (intro w hSw; (try dsimp only at hSw); go_simp; (try with_reducible rfl))
            (try simp only [Act.put, List.getElem_toArray, List.getElem_cons_succ, List.getElem_cons_zero, List.setIfInBounds_toArray, List.set_cons_zero, List.set_cons_succ])
            refine wpAnyH_take (i := 8) (v := ?_) rfl (by kernel_rfl) (by kernel_rfl) (by kernel_rfl) (fun _ _ _ h => h) (Or.inl ⟨by rfl, ?_⟩) (by assumption) ?_
            rotate_left
            · (intro w hSw; (try dsimp only at hSw); go_simp; (try with_reducible rfl))
            (try simp only [Act.put, List.getElem_toArray, List.getElem_cons_succ, List.getElem_cons_zero, List.setIfInBounds_toArray, List.set_cons_zero, List.set_cons_succ])
            refine wpAnyH_take (i := 9) (v := ?_) rfl (by kernel_rfl) (by kernel_rfl) (by kernel_rfl) (fun _ _ _ h => h) (Or.inl ⟨by rfl, ?_⟩) (by assumption) ?_
            rotate_left
            · (intro w hSw; (try dsimp only at hSw); go_simp; (try with_reducible rfl))
            (try simp only [Act.put, List.getElem_toArray, List.getElem_cons_succ, List.getElem_cons_zero, List.setIfInBounds_toArray, List.set_cons_zero, List.set_cons_succ])
            refine wpAnyH_take (i := 10) (v := ?_) rfl (by kernel_rfl) (by kernel_rfl) (by kernel_rfl) (fun _ _ _ h => h) (Or.inl ⟨by rfl, ?_⟩) (by assumption) ?_
            rotate_left
            · (intro w hSw; (try dsimp only at hSw); go_simp; (try with_reducible rfl))
            (try simp only [Act.put, List.getElem_toArray, List.getElem_cons_succ, List.getElem_cons_zero, List.setIfInBounds_toArray, List.set_cons_zero, List.set_cons_succ])
            refine wpAnyH_take (i := 11) (v := ?_) rfl (by kernel_rfl) (by kernel_rfl) (by kernel_rfl) (fun _ _ _ h => h) (Or.inl ⟨by rfl, ?_⟩) (by assumption) ?_
            rotate_left
            · (intro w hSw; (try dsimp only at hSw); go_simp; (try with_reducible rfl))
            (try simp only [Act.put, List.getElem_toArray, List.getElem_cons_succ, List.getElem_cons_zero, List.setIfInBounds_toArray, List.set_cons_zero, List.set_cons_succ])
            refine wpAnyH_take (i := 12) (v := ?_) rfl (by kernel_rfl) (by kernel_rfl) (by kernel_rfl) (fun _ _ _ h => h) (Or.inl ⟨by rfl, ?_⟩) (by assumption) ?_
            rotate_left
            · (intro w hSw; (try dsimp only at hSw); go_simp; (try with_reducible rfl))
            (try simp only [Act.put, List.getElem_toArray, List.getElem_cons_succ, List.getElem_cons_zero, List.setIfInBounds_toArray, List.set_cons_zero, List.set_cons_succ])
            refine wpAnyH_done (by kernel_rfl) ?_ _
            refine NoPanic.normal ?_
            have HB4 := Lib.hid (HB.out.trans (hHeld.2.mono HB.out.size))
            clear hHeld h0 h1
            go_wp2_with fail
            go_roundw
            case rel => exact ⟨i + 1, by omega, by go_num, by rw [HSX.out]; rfl, HB4⟩
            case measure => simp [intOf]; omega
        · obtain rfl : i = l.length := by omega
          go_wp2_with fail
          go_roundw
          case rel => exact ⟨k + 1, by omega, by go_num, by rw [HN.out], HB⟩
          case measure => simp [intOf]; omega
    · obtain rfl : k = 6 := by omega
      go_wp2_with fail
      go_ret
      exact ⟨rfl, HB.out⟩
end
end Go.Proofs.YtnbjcelfdppkcadGreat
