/- Texts of this claim, merged: ImA, CovE, SeaA. Conditions: as stated. -/
import Derived.Test.YtjfllfancgmalaaGreatSc3
import Derived.Test.YtjfllfancgmalaaGreatSc9
namespace Go.Proofs.YtjfllfancgmalaaGreat
open Go.RowKit

theorem bits_andNot (a b : Int) : bits .andNot .i64 a b = IntKind.i64.wrap ((BitVec.ofInt 64 a &&& ~~~BitVec.ofInt 64 b).toNat : Int) := rfl
theorem bits_and (a b : Int) : bits .and .i64 a b = IntKind.i64.wrap ((BitVec.ofInt 64 a &&& BitVec.ofInt 64 b).toNat : Int) := rfl
theorem bv_part (x y : BitVec 64) : (x &&& ~~~y = 0#64) ↔ (x &&& y = x) := by
  constructor
  · intro h
    apply BitVec.eq_of_getLsbD_eq
    intro i hi
    have h2 : (x &&& ~~~y).getLsbD i = (0#64).getLsbD i := by rw [h]
    simp [hi] at h2 ⊢
    intro hx; exact h2 hx
  · intro h
    rw [← h, BitVec.and_assoc]
    simp
theorem wrap_nat_zero (n : Nat) (h : n < 2 ^ 64) : (IntKind.i64.wrap (n : Int) = 0) ↔ n = 0 := by
  rw [IntKind.wrap_i64]; omega
theorem bv_zero (x : BitVec 64) : (IntKind.i64.wrap (x.toNat : Int) = 0) ↔ x = 0#64 := by
  rw [wrap_nat_zero _ x.isLt]
  constructor
  · intro h; exact BitVec.eq_of_toNat_eq (by simpa using h)
  · intro h; rw [h]; rfl
theorem bv_self (v : BitVec 64) (x : Int) (h0 : -9223372036854775808 ≤ x) (h1 : x ≤ 9223372036854775807) : (IntKind.i64.wrap (v.toNat : Int) = x) ↔ v = BitVec.ofInt 64 x := by
  rw [IntKind.wrap_i64]
  have e := BitVec.toNat_ofInt (n := 64) x
  have l := v.isLt
  constructor
  · intro h
    apply BitVec.eq_of_toNat_eq
    rw [e]; omega
  · intro h
    rw [h, e]; omega
/-- 'x &^ y == 0': the same as 'x & y == x'. -/
def partZ (x y : Int) : Bool := bits .andNot .i64 x y == 0
theorem partZ_eq (x y : Int) (h0 : -9223372036854775808 ≤ x) (h1 : x ≤ 9223372036854775807) : partZ x y = (bits .and .i64 x y == x) := by
  unfold partZ
  rw [Bool.eq_iff_iff, beq_iff_eq, beq_iff_eq, bits_andNot, bits_and, bv_zero, bv_self _ x h0 h1, bv_part]
theorem and_mask (n : Nat) (hn : n < 63) (x : Int) : bits .and .i64 x (2 ^ n - 1) = x % 2 ^ n := by
  have p1 : (2 : Nat) ^ n < 2 ^ 63 := Nat.pow_lt_pow_right (by omega) hn
  have p0 : 0 < (2 : Nat) ^ n := Nat.pow_pos (by omega)
  have hc : ((2 : Int) ^ n) = ((2 ^ n : Nat) : Int) := by rw [Int.natCast_pow]; rfl
  have h : (BitVec.ofInt 64 (2 ^ n - 1)).toNat = 2 ^ n - 1 := by
    rw [BitVec.toNat_ofInt, hc]; omega
  have key : (BitVec.ofInt 64 x &&& BitVec.ofInt 64 (2 ^ n - 1)).toNat = (x % ((2 ^ 64 : Nat) : Int)).toNat % 2 ^ n := by
    rw [BitVec.toNat_and, BitVec.toNat_ofInt, h, Nat.and_two_pow_sub_one_eq_mod]
  rw [bits_and, key, IntKind.wrap_i64, hc]
  have hd : ((2 ^ n : Nat) : Int) ∣ ((2 ^ 64 : Nat) : Int) := by
    rw [show 64 = n + (64 - n) by omega, Nat.pow_add, Int.natCast_mul]; exact Int.dvd_mul_right _ _
  have e : (((x % ((2 ^ 64 : Nat) : Int)).toNat % 2 ^ n : Nat) : Int) = x % ((2 ^ n : Nat) : Int) := by
    rw [Int.natCast_emod, Int.toNat_of_nonneg (Int.emod_nonneg _ (by decide)), Int.emod_emod_of_dvd _ hd]
  rw [e]
  have q0 := Int.emod_nonneg x (b := ((2 ^ n : Nat) : Int)) (by omega)
  have q1 := Int.emod_lt_of_pos x (b := ((2 ^ n : Nat) : Int)) (by omega)
  omega
theorem partZ_first (n : Nat) (hn : n ≤ 5) (x : Int) (h0 : -9223372036854775808 ≤ x) (h1 : x ≤ 9223372036854775807) : partZ x (2 ^ n - 1) = decide (0 ≤ x ∧ x ≤ 2 ^ n - 1) := by
  rw [partZ_eq x _ h0 h1, and_mask n (by omega), Bool.eq_iff_iff, beq_iff_eq, decide_eq_true_iff]
  have p0 : 0 < (2 : Nat) ^ n := Nat.pow_pos (by omega)
  have hc : ((2 : Int) ^ n) = ((2 ^ n : Nat) : Int) := by rw [Int.natCast_pow]; rfl
  rw [hc]
  constructor
  · intro h
    have q0 := Int.emod_nonneg x (b := ((2 ^ n : Nat) : Int)) (by omega)
    have q1 := Int.emod_lt_of_pos x (b := ((2 ^ n : Nat) : Int)) (by omega)
    omega
  · rintro ⟨a, b⟩; exact Int.emod_eq_of_lt a (by omega)
theorem partZ_31 (x : Int) (h0 : -9223372036854775808 ≤ x) (h1 : x ≤ 9223372036854775807) : partZ x 31 = valB x := partZ_first 5 (by omega) x h0 h1

theorem partOf_any (x y : Int) (w : World) :
    Calls Tryz.prog 72 #[.int .i64 x, .int .i64 y] w fun e w' => e = .returned (.bool (partZ x y)) ∧ w = w' := by
  go_enter Tryz.func72, Tryz.ntmps72
  go_wp2_with fail
  go_ret
  exact ⟨rfl, rfl⟩
theorem colCount_any (n : Int) (w : World) :
    Calls Tryz.prog 80 #[.int .i64 n] w fun e w' => e = .returned (.bool (decide (0 ≤ n ∧ n ≤ 5))) ∧ w = w' := by
  by_cases h1 : 0 ≤ n <;> by_cases h2 : n ≤ 5
  all_goals
    go_enter Tryz.func80, Tryz.ntmps80
    go_wp2
    go_ret
    exact ⟨by simp [h1, h2], rfl⟩
theorem first_any (n : Int) (w : World) (h0 : 0 ≤ n) (h1 : n ≤ 5) :
    Calls Tryz.prog 81 #[.int .i64 n] w fun e w' => e = .returned (.int .i64 (2 ^ n.toNat - 1)) ∧ w = w' := by
  rcases (show n = 0 ∨ n = 1 ∨ n = 2 ∨ n = 3 ∨ n = 4 ∨ n = 5 by omega) with rfl | rfl | rfl | rfl | rfl | rfl
  all_goals
    go_enter Tryz.func81, Tryz.ntmps81
    go_wp2
    go_ret
    exact ⟨rfl, rfl⟩
/-- The number of ones. -/
theorem ones_any (X : Fin 32) (w : World) :
    Calls Tryz.prog 99 #[.int .u64 ((X.val : Nat) : Int)] w fun e w' => e = .returned (.int .i64 (cnt ((X.val : Nat) : Int) : Int)) ∧ w = w' := by
  go_enter Tryz.func99, Tryz.ntmps99
  go_wp2_with fail
  go_ret
  refine ⟨ret_int ?_, rfl⟩
  revert X
  decide +kernel
theorem onesCount_any (X : Nat) (h : X < 32) (w : World) :
    Calls Tryz.prog 93 #[.int .u64 (X : Int)] w fun e w' => e = .returned (.int .i64 (cnt (X : Int) : Int)) ∧ w = w' := by
  go_enter Tryz.func93, Tryz.ntmps93
  go_wp2_with fail
  refine (ones_any ⟨X, h⟩ _).mono ?_
  rintro e w' ⟨rfl, rfl⟩
  go_wp2_with fail
  go_ret
  exact ⟨rfl, rfl⟩
theorem size_any (X : Nat) (h : X < 32) (w : World) :
    Calls Tryz.prog 82 #[.int .i64 (X : Int)] w fun e w' => e = .returned (.int .i64 (cnt (X : Int) : Int)) ∧ w = w' := by
  go_enter Tryz.func82, Tryz.ntmps82
  go_wp2_with fail
  refine (onesCount_any X h _).mono ?_
  rintro e w' ⟨rfl, rfl⟩
  go_wp2_with fail
  go_ret
  exact ⟨rfl, rfl⟩
theorem has_any (X k : Nat) (hk : k ≤ 62) (w : World) :
    Calls Tryz.prog 52 #[.int .i64 (X : Int), .int .i64 (k : Int)] w fun e w' => e = .returned (.bool (bitB X k)) ∧ w = w' := by
  have hb : (bits BinOp.and IntKind.i64 ((X : Int) / 2 ^ k) 1 != 0) = bitB X k := by
    rw [← bit_test, i64_and_1, Bool.eq_iff_iff, bne_iff_ne, beq_iff_eq]; omega
  go_enter Tryz.func52, Tryz.ntmps52
  go_wp2_with fail
  go_ret
  exact ⟨rfl, rfl⟩
theorem implIsA_any (n x : Int) (h0 : -9223372036854775808 ≤ x) (h1 : x ≤ 9223372036854775807) (w : World) :
    Calls Tryz.prog 96 #[.int .i64 n, .int .i64 x] w fun e w' => e = .returned (.bool (isA n x)) ∧ Below w.heap.size w w' := by
  by_cases hn : 0 ≤ n ∧ n ≤ 5
  · have hd : decide (0 ≤ n ∧ n ≤ 5) = true := by simp [hn]
    have HZ : Hid (isA n x = partZ x (2 ^ n.toNat - 1)) := Lib.hid (by rw [partZ_first n.toNat (by omega) x h0 h1]; unfold isA; simp [hn])
    go_enter Tryz.func96, Tryz.ntmps96
    go_wp2_with fail
    refine (colCount_any _ _).mono ?_
    rintro e w' ⟨rfl, rfl⟩
    go_wp2_with fail
    refine (first_any _ _ hn.1 hn.2).mono ?_
    rintro e w' ⟨rfl, rfl⟩
    go_wp2_with fail
    refine (partOf_any _ _ _).mono ?_
    rintro e w' ⟨rfl, rfl⟩
    go_wp2_with fail
    go_ret
    exact ⟨ret_b HZ.out, Below.refl _ _⟩
  · have hd : decide (0 ≤ n ∧ n ≤ 5) = false := by simp only [hn, decide_false]
    go_enter Tryz.func96, Tryz.ntmps96
    go_wp2_with fail
    refine (colCount_any _ _).mono ?_
    rintro e w' ⟨rfl, rfl⟩
    go_wp2_with fail
    go_ret
    exact ⟨ret_b (by unfold isA; simp only [hn, false_and, decide_false]), Below.refl _ _⟩
end Go.Proofs.YtjfllfancgmalaaGreat
namespace Go.Proofs.YtjfllfancgmalaaGreat
open Go.RowKit

theorem filter_next {α : Type} (p : α → Bool) (l : List α) (d : α) (k : Nat) (h : k < l.length) : (l.take (k + 1)).filter p = if p (l.getD k d) = true then (l.take k).filter p ++ [l.getD k d] else (l.take k).filter p := by
  rw [take_succ_getD l d k h, List.filter_append]
  by_cases hp : p (l.getD k d) = true
  · rw [if_pos hp, List.filter_cons_of_pos hp]; rfl
  · rw [if_neg hp, List.filter_cons_of_neg hp]
    simp
theorem mdIn_filter (f : Int → Nat → Bool) (ps : List Int) (r : Nat) (l0 : List (Int × Int)) : ∀ n, n ≤ ps.length → mdIn f ps r l0 n = l0 ++ ((ps.take n).filter (fun S => f S r)).map (fun S => (S, (r : Int)))
  | 0, _ => by simp [mdIn]
  | n + 1, h => by
    have ih := mdIn_filter f ps r l0 n (by omega)
    have e := filter_next (fun S => f S r) ps 0 n h
    unfold mdIn
    by_cases hf : f (ps.getD n 0) r = true
    · rw [if_pos hf] at e
      rw [if_pos hf, e, ih, List.map_append, ← List.append_assoc]; rfl
    · rw [if_neg hf] at e
      rw [if_neg hf, e, ih]
theorem mdOut_succ (f : Int → Nat → Bool) (ps : List Int) (r : Nat) : mdOut f ps (r + 1) = mdOut f ps r ++ (ps.filter (fun S => f S r)).map (fun S => (S, (r : Int))) := by
  have h := mdIn_filter f ps r (mdOut f ps r) ps.length (Nat.le_refl _)
  rw [List.take_length] at h
  exact h
theorem mdOut_filter (f : Int → Nat → Bool) (q : Int × Int → Bool) (ps : List Int) : ∀ C, (mdOut f ps C).filter q = mdOut (fun S r => f S r && q (S, (r : Int))) ps C
  | 0 => rfl
  | C + 1 => by
    rw [mdOut_succ, mdOut_succ, List.filter_append, mdOut_filter f q ps C, List.filter_map, List.filter_filter]
    congr 2
    exact List.filter_congr fun S _ => Bool.and_comm _ _
/-- e says no more than d. -/
def covB (e d : Int × Int) : Bool := decide (e.2 = d.2) && partZ e.1 d.1
/-- Whether a different one of the list covers d. -/
def unB (l : List (Int × Int)) (d : Int × Int) : Bool := l.any fun e => !decide (e = d) && covB e d
def uncL (l : List (Int × Int)) : List (Int × Int) := l.filter fun d => !unB l d
def candL (C : Nat) : List (Int × Int) := mdOut (fun S r => !bitB S.toNat r) (parts (C : Int)) C
theorem part_sub (a b : Nat) (ha : a < 32) (hb : b < 32) : partZ (a : Int) (b : Int) = subN a b := by
  have h : ∀ a b : Fin 32, partZ ((a.val : Nat) : Int) ((b.val : Nat) : Int) = subN a.val b.val := by decide +kernel
  exact h ⟨a, ha⟩ ⟨b, hb⟩
/-- The dependencies of a filtered list of candidates that no other one covers. -/
theorem unc_low {C : Nat} (hC : C ≤ 5) (g : Int × Int → Bool) :
    uncL ((candL C).filter g) = mdOut (fun S r => decide (S ∈ minS (fltTo (fun S => !bitB S.toNat r && g (S, (r : Int))) (parts (C : Int)) (parts (C : Int)).length))) (parts (C : Int)) C := by
  have h32 := two5 hC
  have hl : (candL C).filter g = mdOut (fun S r => !bitB S.toNat r && g (S, (r : Int))) (parts (C : Int)) C := mdOut_filter _ _ _ _
  have key : ∀ l, l = mdOut (fun S r => !bitB S.toNat r && g (S, (r : Int))) (parts (C : Int)) C →
      (mdOut (fun S r => !bitB S.toNat r && g (S, (r : Int))) (parts (C : Int)) C).filter (fun d => !unB l d) =
      mdOut (fun S r => decide (S ∈ minS (fltTo (fun S => !bitB S.toNat r && g (S, (r : Int))) (parts (C : Int)) (parts (C : Int)).length))) (parts (C : Int)) C := by
    intro l hll
    rw [mdOut_filter]
    refine mdOut_same _ fun S hS r hr => ?_
    obtain ⟨x, hx, rfl⟩ := (parts_mem hC S).1 hS
    obtain ⟨k1, k2⟩ := flt_small hC (fun S => !bitB S.toNat r && g (S, (r : Int)))
    have hmem : ∀ z : Nat, ((z : Int) ∈ fltTo (fun S => !bitB S.toNat r && g (S, (r : Int))) (parts (C : Int)) (parts (C : Int)).length ↔ z < 2 ^ C ∧ (!bitB z r && g ((z : Int), (r : Int))) = true) := by
      intro z
      rw [fltTo_mem]
      constructor
      · rintro ⟨t, t1, t2, t3⟩
        obtain ⟨z', z1, z2⟩ := (parts_mem hC _).1 (mem_getD.2 ⟨t, t1, t3⟩)
        obtain rfl : z = z' := by omega
        rw [← t3] at t2
        exact ⟨z1, t2⟩
      · rintro ⟨z1, z2⟩
        obtain ⟨t, t1, t2⟩ := mem_getD.1 ((parts_mem hC (z : Int)).2 ⟨z, z1, rfl⟩)
        exact ⟨t, t1, by rw [← t2]; exact z2, t2⟩
    have hml : ∀ z : Nat, z < 2 ^ C → (((z : Int), (r : Int)) ∈ l ↔ (!bitB z r && g ((z : Int), (r : Int))) = true) := by
      intro z hz
      rw [hll, mdOut_mem]
      constructor
      · rintro ⟨r', r1, S, r2, r3, r4⟩
        obtain ⟨e1, e2⟩ := Prod.mk.inj r4
        obtain rfl : r = r' := by omega
        subst e1
        exact r3
      · intro h
        exact ⟨r, hr, (z : Int), (parts_mem hC _).2 ⟨z, hz, rfl⟩, h, rfl⟩
    rw [Bool.eq_iff_iff, decide_eq_true_iff, minS_mem k1 k2 x, hmem x, Bool.and_eq_true, Bool.not_eq_true']
    show (_ ∧ _) ↔ _
    constructor
    · rintro ⟨h1, h2⟩
      refine ⟨⟨hx, h1⟩, fun z hz hs => Classical.byContradiction fun hne => ?_⟩
      obtain ⟨z1, z2⟩ := (hmem z).1 hz
      have : unB l ((x : Int), (r : Int)) = true := by
        unfold unB
        rw [List.any_eq_true]
        refine ⟨((z : Int), (r : Int)), (hml z z1).2 z2, ?_⟩
        rw [Bool.and_eq_true, Bool.not_eq_true']
        refine ⟨decide_eq_false fun e => hne (by have := (Prod.mk.inj e).1; omega), ?_⟩
        unfold covB
        simp only [decide_true, Bool.true_and]
        rw [part_sub z x (by omega) (by omega)]; exact hs
      rw [h2] at this
      cases this
    · rintro ⟨⟨-, h1⟩, h2⟩
      refine ⟨h1, Bool.eq_false_iff.2 fun h => ?_⟩
      unfold unB at h
      rw [List.any_eq_true] at h
      obtain ⟨e, he, h⟩ := h
      rw [Bool.and_eq_true, Bool.not_eq_true', decide_eq_false_iff_not] at h
      obtain ⟨hne, hc⟩ := h
      have he' := he
      rw [hll, mdOut_mem] at he'
      obtain ⟨r', r1, S, r2, r3, rfl⟩ := he'
      obtain ⟨z, hz, rfl⟩ := (parts_mem hC S).1 r2
      unfold covB at hc
      rw [Bool.and_eq_true, decide_eq_true_iff] at hc
      obtain ⟨e2, hp⟩ := hc
      simp only at e2 hp
      obtain rfl : r = r' := by omega
      rw [part_sub z x (by omega) (by omega)] at hp
      obtain rfl := h2 z ((hmem z).2 ⟨hz, (hml z hz).1 he⟩) hp
      exact hne rfl
  unfold uncL
  rw [hl]
  exact key _ rfl
theorem unc_min {C : Nat} {ll : List (List Int)} {m : Int} (hf : fineT (C : Int) ll m = true) (h1 : 1 ≤ C) (hC : C ≤ 5) :
    uncL ((candL C).filter (fun d => holdsD (C : Int) ll m d.1 d.2)) = minD C ll m := by
  rw [unc_low hC]
  unfold minD
  refine mdOut_same _ fun S hS r hr => ?_
  obtain ⟨x, hx, rfl⟩ := (parts_mem hC S).1 hS
  rw [Bool.eq_iff_iff, decide_eq_true_iff]
  show _ ↔ minN C ll m x r = true
  refine low_min hC hr (fun z hz => ?_) hx
  rw [Bool.and_eq_true, Bool.not_eq_true']
  have ho := okD_all (S := z) (R := r) hf h1 hC hz hr
  have h3 := holds_iff ho rfl rfl rfl hC hr
  rw [← h3]
  exact Iff.rfl
theorem unc_app {C : Nat} {ll : List (List Int)} {m rows : Int} (hC : C ≤ 5) :
    uncL ((candL C).filter (fun d => decide (remD (C : Int) ll m d.1 d.2 ≤ rows))) = appD C ll m rows := by
  rw [unc_low hC]
  rfl
/-- The greatest and the smallest sets hang on the members alone. -/
theorem maxS_ext {l l' : List Int} (h : setsOk l = true) (h' : setsOk l' = true) (he : ∀ y, y ∈ l ↔ y ∈ l') : maxS l = maxS l' := by
  unfold maxS
  rw [if_pos h, if_pos h']
  refine ascI_unique _ _ (mxTo_asc _ _) (mxTo_asc _ _) fun y => ?_
  have step : ∀ (a b : List Int), (∀ y, y ∈ a ↔ y ∈ b) → y ∈ mxTo a a.length → y ∈ mxTo b b.length := by
    intro a b hab hy
    rw [mxTo_mem] at hy ⊢
    obtain ⟨t, t1, t2, t3⟩ := hy
    obtain ⟨s, s1, s2⟩ := mem_getD.1 ((hab y).1 (mem_getD.2 ⟨t, t1, t2⟩))
    refine ⟨s, s1, s2, (topK_iff _ _ _).2 fun u hu => ?_⟩
    obtain ⟨v, v1, v2⟩ := mem_getD.1 ((hab _).2 (mem_getD.2 ⟨u, hu, rfl⟩))
    have := (topK_iff _ _ _).1 t3 v v1
    rw [← v2] at this
    exact this
  exact ⟨step _ _ he, step _ _ fun z => (he z).symm⟩
theorem minS_ext {l l' : List Int} (h : setsOk l = true) (h' : setsOk l' = true) (he : ∀ y, y ∈ l ↔ y ∈ l') : minS l = minS l' := by
  unfold minS
  rw [if_pos h, if_pos h']
  refine ascI_unique _ _ (mnTo_asc _ _) (mnTo_asc _ _) fun y => ?_
  have step : ∀ (a b : List Int), (∀ y, y ∈ a ↔ y ∈ b) → y ∈ mnTo a a.length → y ∈ mnTo b b.length := by
    intro a b hab hy
    rw [mnTo_mem] at hy ⊢
    obtain ⟨t, t1, t2, t3⟩ := hy
    obtain ⟨s, s1, s2⟩ := mem_getD.1 ((hab y).1 (mem_getD.2 ⟨t, t1, t2⟩))
    refine ⟨s, s1, s2, (lowK_iff _ _ _).2 fun u hu => ?_⟩
    obtain ⟨v, v1, v2⟩ := mem_getD.1 ((hab _).2 (mem_getD.2 ⟨u, hu, rfl⟩))
    have := (lowK_iff _ _ _).1 t3 v v1
    rw [← v2] at this
    exact this
  exact ⟨step _ _ he, step _ _ fun z => (he z).symm⟩
theorem parts_len32 {C : Nat} (hC : C ≤ 5) : (parts (C : Int)).length ≤ 32 := by
  have h2 : ∀ C : Fin 6, (parts ((C.val : Nat) : Int)).length ≤ 32 := by decide +kernel
  exact h2 ⟨C, by omega⟩
theorem filt_ok {C : Nat} (hC : C ≤ 5) (g : Int → Bool) : setsOk ((parts (C : Int)).filter g) = true := by
  have h32 := two5 hC
  unfold setsOk
  rw [Bool.and_eq_true, decide_eq_true_iff, List.all_eq_true]
  refine ⟨fun y hy => ?_, ?_⟩
  · obtain ⟨x, hx, rfl⟩ := (parts_mem hC y).1 (List.mem_filter.1 hy).1
    have h : ∀ x : Fin 32, valB ((x.val : Nat) : Int) = true := by decide +kernel
    exact h ⟨x, by omega⟩
  · have h1 := List.length_filter_le g (parts (C : Int))
    have := parts_len32 hC
    omega
theorem filt_brd {C : Nat} (hC : C ≤ 5) {g : Int → Bool} {f : Nat → Bool} (h : ∀ x : Nat, x < 2 ^ C → g (x : Int) = f x) (y : Int) : y ∈ (parts (C : Int)).filter g ↔ y ∈ brdTo f (2 ^ C) := by
  rw [List.mem_filter, brdTo_mem]
  constructor
  · rintro ⟨h1, h2⟩
    obtain ⟨x, hx, rfl⟩ := (parts_mem hC y).1 h1
    exact ⟨x, hx, by rw [← h x hx]; exact h2, rfl⟩
  · rintro ⟨x, hx, h2, rfl⟩
    exact ⟨(parts_mem hC _).2 ⟨x, hx, rfl⟩, by rw [h x hx]; exact h2⟩
theorem max_filt {C : Nat} (hC : C ≤ 5) {g : Int → Bool} {f : Nat → Bool} (h : ∀ x : Nat, x < 2 ^ C → g (x : Int) = f x) : maxS ((parts (C : Int)).filter g) = maxS (brdTo f (2 ^ C)) :=
  maxS_ext (filt_ok hC g) (brdTo_ok f (two5 hC)) (filt_brd hC h)
theorem min_filt {C : Nat} (hC : C ≤ 5) {g : Int → Bool} {f : Nat → Bool} (h : ∀ x : Nat, x < 2 ^ C → g (x : Int) = f x) : minS ((parts (C : Int)).filter g) = minS (brdTo f (2 ^ C)) :=
  minS_ext (filt_ok hC g) (brdTo_ok f (two5 hC)) (filt_brd hC h)
theorem holds_h7 {C : Nat} {ll : List (List Int)} {m : Int} (hf : fineT (C : Int) ll m = true) (h1 : 1 ≤ C) (hC : C ≤ 5) {x R : Nat} (hx : x < 2 ^ C) (hR : R < C) : holdsD (C : Int) ll m (x : Int) (R : Int) = h7 C ll m x R := by
  have ho := okD_all (S := x) (R := R) hf h1 hC hx hR
  have h3 := holds_iff ho rfl rfl rfl hC hR
  rw [Bool.eq_iff_iff, h3, h7_iff hC hR]
/-- The border, from the list of sets by size. -/
theorem brd_filt {C : Nat} {ll : List (List Int)} {m : Int} {R : Nat} (hf : fineT (C : Int) ll m = true) (h1 : 1 ≤ C) (hC : C ≤ 5) (hR : R < C) :
    maxS (((parts (C : Int)).filter (fun S => !bitB S.toNat R)).filter (fun S => !holdsD (C : Int) ll m S (R : Int))) = brdL C ll m R := by
  rw [List.filter_filter]
  unfold brdL
  refine max_filt hC fun x hx => ?_
  rw [holds_h7 hf h1 hC hx hR]
  show (_ && !bitB x R) = _
  rw [Bool.and_comm]
theorem parts_small (n S : Int) (h : S ∈ parts n) : ∃ X : Nat, S = (X : Int) ∧ X < 32 := by
  by_cases hn : 0 ≤ n ∧ n ≤ 5
  · obtain ⟨C, rfl⟩ : ∃ C : Nat, n = (C : Int) := ⟨n.toNat, by omega⟩
    obtain ⟨h0, h1⟩ := parts_nat ⟨C, by omega⟩ S h
    exact ⟨S.toNat, by omega, by omega⟩
  · unfold parts at h
    rw [if_neg hn] at h
    cases h
theorem all_hit {p : Int → Bool} (l : List Int) (d : Int) (k : Nat) (h : k < l.length) (hp : p (l.getD k d) = false) : l.all p = false := by
  cases h' : l.all p with
  | false => rfl
  | true =>
    have := List.all_eq_true.1 h' (l.getD k d) (by rw [List.getD_eq_getElem?_getD, List.getElem?_eq_getElem h]; exact List.getElem_mem h)
    rw [hp] at this; cases this
end Go.Proofs.YtjfllfancgmalaaGreat
namespace Go.Proofs.YtjfllfancgmalaaGreat
open Go.RowKit

/-- The candidate with a number. -/
def cdt (C at_ : Nat) : Int × Int := ((parts (C : Int)).getD (at_ / C) 0, ((at_ % C : Nat) : Int))
/-- Whether one of the first n of a list has the same Right and a part of Left. -/
def cvTo (l : List (Int × Int)) (d : Int × Int) : Nat → Bool
  | 0 => false
  | i + 1 => cvTo l d i || ((l.getD i (0, 0)).2 == d.2 && (bits .and .i64 (l.getD i (0, 0)).1 d.1 == (l.getD i (0, 0)).1))
def cvd (l : List (Int × Int)) (d : Int × Int) : Bool := cvTo l d l.length
/-- One step: what is found and how many tests were made. -/
noncomputable def repN (C : Nat) (ll : List (List Int)) (m : Int) : Nat → List (Int × Int) × Nat
  | 0 => ([], 0)
  | k + 1 =>
    if (bitB (cdt C k).1.toNat (cdt C k).2.toNat || cvd (repN C ll m k).1 (cdt C k)) = true then repN C ll m k
    else if h7 C ll m (cdt C k).1.toNat (cdt C k).2.toNat = true then ((repN C ll m k).1 ++ [cdt C k], (repN C ll m k).2 + 1) else ((repN C ll m k).1, (repN C ll m k).2 + 1)
theorem repN_succ (C : Nat) (ll : List (List Int)) (m : Int) (k : Nat) : repN C ll m (k + 1) =
    if (bitB (cdt C k).1.toNat (cdt C k).2.toNat || cvd (repN C ll m k).1 (cdt C k)) = true then repN C ll m k
    else if h7 C ll m (cdt C k).1.toNat (cdt C k).2.toNat = true then ((repN C ll m k).1 ++ [cdt C k], (repN C ll m k).2 + 1) else ((repN C ll m k).1, (repN C ll m k).2 + 1) := rfl
theorem cvTo_iff (l : List (Int × Int)) (d : Int × Int) : ∀ n, (cvTo l d n = true ↔ ∃ t, t < n ∧ (l.getD t (0, 0)).2 = d.2 ∧ bits .and .i64 (l.getD t (0, 0)).1 d.1 = (l.getD t (0, 0)).1)
  | 0 => by simp [cvTo]
  | n + 1 => by
    have ih := cvTo_iff l d n
    unfold cvTo
    rw [Bool.or_eq_true, ih, Bool.and_eq_true, beq_iff_eq, beq_iff_eq]
    constructor
    · rintro (⟨t, t1, t2⟩ | h)
      · exact ⟨t, by omega, t2⟩
      · exact ⟨n, by omega, h⟩
    · rintro ⟨t, t1, t2⟩
      by_cases e : t = n
      · subst e; exact .inr t2
      · exact .inl ⟨t, by omega, t2⟩
theorem cvd_iff (l : List (Int × Int)) (d : Int × Int) : cvd l d = true ↔ ∃ e ∈ l, e.2 = d.2 ∧ bits .and .i64 e.1 d.1 = e.1 := by
  unfold cvd
  rw [cvTo_iff]
  constructor
  · rintro ⟨t, t1, t2⟩
    exact ⟨l.getD t (0, 0), by rw [List.getD_eq_getElem?_getD, List.getElem?_eq_getElem t1]; exact List.getElem_mem t1, t2⟩
  · rintro ⟨e, he, h⟩
    obtain ⟨t, t1, rfl⟩ := List.mem_iff_getElem.1 he
    refine ⟨t, t1, ?_⟩
    rw [List.getD_eq_getElem?_getD, List.getElem?_eq_getElem t1]
    exact h
theorem sub_anti {a b : Nat} (h1 : subN a b = true) (h2 : subN b a = true) : a = b := by
  unfold subN at h1 h2
  rw [beq_iff_eq] at h1 h2
  rw [Nat.and_comm] at h2
  omega
/-- The sets by size: a part of another set comes before it; each set is there once. -/
theorem parts_order : ∀ (C : Fin 6) (i j : Fin 32), i.val < (parts ((C.val : Nat) : Int)).length → j.val < (parts ((C.val : Nat) : Int)).length → subN ((parts ((C.val : Nat) : Int)).getD i.val 0).toNat ((parts ((C.val : Nat) : Int)).getD j.val 0).toNat = true → i.val ≤ j.val := by decide +kernel
theorem parts_cnt : ∀ C : Fin 6, (parts ((C.val : Nat) : Int)).length = 2 ^ C.val := by decide +kernel
theorem cdt_ok {C k : Nat} (hC1 : 1 ≤ C) (hC : C ≤ 5) (hk : k < C * 2 ^ C) : ∃ x r : Nat, cdt C k = ((x : Int), (r : Int)) ∧ x < 2 ^ C ∧ r < C := by
  have h1 : k / C < 2 ^ C := Nat.div_lt_of_lt_mul hk
  have hpc := parts_cnt ⟨C, by omega⟩
  simp only at hpc
  have hm : (parts (C : Int)).getD (k / C) 0 ∈ parts (C : Int) := mem_getD.2 ⟨k / C, by omega, rfl⟩
  obtain ⟨x, hx, e⟩ := (parts_mem hC _).1 hm
  exact ⟨x, k % C, by unfold cdt; rw [e], hx, Nat.mod_lt _ (by omega)⟩
/-- Each candidate has a number. -/
theorem cdt_ex {C x r : Nat} (hC1 : 1 ≤ C) (hC : C ≤ 5) (hx : x < 2 ^ C) (hr : r < C) : ∃ k, k < C * 2 ^ C ∧ cdt C k = ((x : Int), (r : Int)) := by
  obtain ⟨i, hi, e⟩ := mem_getD.1 ((parts_mem hC (x : Int)).2 ⟨x, hx, rfl⟩)
  have hpc := parts_cnt ⟨C, by omega⟩
  simp only at hpc
  have h1 : C * (i + 1) ≤ C * 2 ^ C := Nat.mul_le_mul_left _ (by omega)
  refine ⟨C * i + r, by rw [Nat.mul_succ] at h1; omega, ?_⟩
  unfold cdt
  rw [Nat.mul_add_div (by omega), Nat.div_eq_of_lt hr, Nat.add_zero, Nat.mul_add_mod, Nat.mod_eq_of_lt hr, ← e]
/-- A part with the same Right comes before. -/
theorem cdt_before {C j k x y r : Nat} (hC1 : 1 ≤ C) (hC : C ≤ 5) (hj : j < C * 2 ^ C) (hk : k < C * 2 ^ C) (ej : cdt C j = ((x : Int), (r : Int))) (ek : cdt C k = ((y : Int), (r : Int))) (hs : subN x y = true) (hne : x ≠ y) : j < k := by
  have h1 : j / C < 2 ^ C := Nat.div_lt_of_lt_mul hj
  have h2 : k / C < 2 ^ C := Nat.div_lt_of_lt_mul hk
  have h32 := two5 hC
  have hpc := parts_cnt ⟨C, by omega⟩
  simp only at hpc
  unfold cdt at ej ek
  obtain ⟨j1, j2⟩ := Prod.mk.inj ej
  obtain ⟨k1, k2⟩ := Prod.mk.inj ek
  have h := parts_order ⟨C, by omega⟩ ⟨j / C, by omega⟩ ⟨k / C, by omega⟩ (by rw [hpc]; exact h1) (by rw [hpc]; exact h2)
  simp only at h
  rw [j1, k1] at h
  have hle := h (by simpa using hs)
  have hlt : j / C < k / C := by
    refine Nat.lt_of_le_of_ne hle fun e => hne ?_
    rw [e, k1] at j1
    omega
  have e1 := Nat.div_add_mod j C
  have e2 := Nat.div_add_mod k C
  have h3 : C * (j / C + 1) ≤ C * (k / C) := Nat.mul_le_mul_left _ hlt
  have h4 := Nat.mod_lt j (show 0 < C by omega)
  rw [Nat.mul_succ] at h3
  omega
/-- What is found among the first k candidates: the minimal ones of them, in order. -/
theorem repN_found {C : Nat} {ll : List (List Int)} {m : Int} (hC1 : 1 ≤ C) (hC : C ≤ 5) : ∀ k, k ≤ C * 2 ^ C → (repN C ll m k).1 = ((List.range k).map (cdt C)).filter (fun d => minN C ll m d.1.toNat d.2.toNat)
  | 0, _ => rfl
  | k + 1, hk => by
    have ih := repN_found (ll := ll) (m := m) hC1 hC k (by omega)
    have h32 := two5 hC
    obtain ⟨x, r, e, hx, hr⟩ := cdt_ok hC1 hC (show k < C * 2 ^ C by omega)
    have hcv : cvd (repN C ll m k).1 (cdt C k) = true ↔ ∃ y : Nat, y < 2 ^ C ∧ y ≠ x ∧ subN y x = true ∧ minN C ll m y r = true := by
      rw [cvd_iff, ih]
      constructor
      · rintro ⟨d, hd, h1, h2⟩
        rw [List.mem_filter, List.mem_map] at hd
        obtain ⟨⟨j, hj, rfl⟩, hmin⟩ := hd
        have hjk := List.mem_range.1 hj
        obtain ⟨y, s, e', hy, hs⟩ := cdt_ok hC1 hC (show j < C * 2 ^ C by omega)
        rw [e'] at h1 h2 hmin
        rw [e] at h1 h2
        simp only at h1 h2
        have hsr : s = r := by omega
        subst hsr
        rw [show (((y : Int), (s : Int)).1).toNat = y from rfl, show (((y : Int), (s : Int)).2).toNat = s from rfl] at hmin
        refine ⟨y, hy, fun hyx => ?_, ?_, hmin⟩
        · subst hyx
          have e1 : cdt C j = cdt C k := by rw [e', e]
          unfold cdt at e1
          obtain ⟨a1, a2⟩ := Prod.mk.inj e1
          have hpc := parts_cnt ⟨C, by omega⟩
          simp only at hpc
          have q1 : j / C < 2 ^ C := Nat.div_lt_of_lt_mul (by omega)
          have q2 : k / C < 2 ^ C := Nat.div_lt_of_lt_mul (by omega)
          have o1 := parts_order ⟨C, by omega⟩ ⟨j / C, by omega⟩ ⟨k / C, by omega⟩ (by rw [hpc]; exact q1) (by rw [hpc]; exact q2)
          have o2 := parts_order ⟨C, by omega⟩ ⟨k / C, by omega⟩ ⟨j / C, by omega⟩ (by rw [hpc]; exact q2) (by rw [hpc]; exact q1)
          simp only at o1 o2
          rw [a1] at o1 o2
          have o3 := o1 (subN_refl _)
          have o4 := o2 (subN_refl _)
          have e3 := Nat.div_add_mod j C
          have e4 := Nat.div_add_mod k C
          have e5 : j / C = k / C := by omega
          rw [e5] at e3
          omega
        · rw [← and_sub y x (by omega) (by omega), beq_iff_eq]
          exact h2
      · rintro ⟨y, hy, hne, hs, hmin⟩
        obtain ⟨j, hj, ej⟩ := cdt_ex hC1 hC hy hr
        have hjk := cdt_before hC1 hC hj (show k < C * 2 ^ C by omega) ej e hs hne
        refine ⟨cdt C j, ?_, ?_⟩
        · rw [List.mem_filter, List.mem_map]
          exact ⟨⟨j, List.mem_range.2 hjk, rfl⟩, by rw [ej]; exact hmin⟩
        · rw [ej, e]
          refine ⟨rfl, ?_⟩
          have := and_sub y x (by omega) (by omega)
          rw [hs, beq_iff_eq] at this
          exact this
    have hmi := minN_iff (ll := ll) (m := m) hC hr hx
    have hle := least_iff (f := fun S => HoldsAll C ll m S r) h32 (holds_up hC) hx
    have hh := h7_iff (ll := ll) (m := m) (L := x) hC hr
    have e1 : (cdt C k).1.toNat = x := by rw [e]; rfl
    have e2 : (cdt C k).2.toNat = r := by rw [e]; rfl
    have hone : ((List.range (k + 1)).map (cdt C)).filter (fun d => minN C ll m d.1.toNat d.2.toNat) = (repN C ll m k).1 ++ if minN C ll m x r = true then [cdt C k] else [] := by
      rw [List.range_succ, List.map_append, List.filter_append, ← ih]
      congr 1
      show List.filter _ [cdt C k] = _
      by_cases hm : minN C ll m x r = true
      · rw [if_pos hm, List.filter_cons_of_pos (by rw [e1, e2]; exact hm)]; rfl
      · rw [if_neg hm, List.filter_cons_of_neg (by rw [e1, e2]; exact hm)]; rfl
    rw [hone]
    rw [repN_succ, e1, e2]
    by_cases hb : bitB x r = true
    · have hm : ¬ minN C ll m x r = true := fun h => by have := (hmi.1 h).1; rw [hb] at this; cases this
      rw [if_pos (by rw [hb]; rfl), if_neg hm, List.append_nil]
    · have hb' : bitB x r = false := by simpa using hb
      rw [hb', Bool.false_or]
      by_cases hc : cvd (repN C ll m k).1 (cdt C k) = true
      · obtain ⟨y, hy, hne, hs, hmin⟩ := hcv.1 hc
        have hym := (minN_iff hC hr hy).1 hmin
        have hm : ¬ minN C ll m x r = true := fun h => hne ((hle.1 (hmi.1 h).2).2 y hy hym.2.1 hs)
        rw [if_pos hc, if_neg hm, List.append_nil]
      · rw [if_neg hc]
        by_cases hhx : h7 C ll m x r = true
        · have hm : minN C ll m x r = true := by
            refine hmi.2 ⟨hb', hle.2 ⟨hh.1 hhx, fun z hz hf hs => Classical.byContradiction fun hne => hc (hcv.2 ?_)⟩⟩
            obtain ⟨y, y1, y2, y3, y4⟩ := least_ex (f := fun S => HoldsAll C ll m S r) z (by omega) hf
            have hyl : y < 2 ^ C := by omega
            refine ⟨y, hyl, fun e => hne ?_, subN_trans y3 hs, (minN_iff hC hr hyl).2 ⟨sub_bit hC hr hyl hx (subN_trans y3 hs) hb', y4⟩⟩
            subst e
            exact sub_anti hs y3
          rw [if_pos hhx, if_pos hm]
        · have hm : ¬ minN C ll m x r = true := fun h => hhx (hh.2 (hmi.1 h).2.1)
          rw [if_neg hhx, if_neg hm, List.append_nil]
end Go.Proofs.YtjfllfancgmalaaGreat
