/- Texts of this claim, merged: ImA, CovE, TrA, AgrF. Conditions: as stated. -/
import Derived.Test.YtbbbdabmbiggkaaTq3
import Derived.Test.YtbbbdabmbiggkaaTq9
import Derived.Test.YtbbbdabmbiggkaaTq7
import Derived.Deep.RegionHeld3
namespace Go.Proofs.Ytbbbdabmbiggkaa
open Go.RowKit

theorem bits_andNot (a b : Int) : bits .andNot .i64 a b = IntKind.i64.wrap ((BitVec.ofInt 64 a &&& ~~~BitVec.ofInt 64 b).toNat : Int) := rfl
theorem bits_and (a b : Int) : bits .and .i64 a b = IntKind.i64.wrap ((BitVec.ofInt 64 a &&& BitVec.ofInt 64 b).toNat : Int) := rfl
theorem bv_part (x y : BitVec 64) : (x &&& ~~~y = 0#64) ↔ (x &&& y = x) := by
  constructor
  · intro h
    apply BitVec.eq_of_getLsbD_eq
    intro i hi
    have h2 : (x &&& ~~~y).getLsbD i = (0#64).getLsbD i := by rw [h]
    simp [hi] at h2 ⊢
    intro hx; exact h2 hx
  · intro h
    rw [← h, BitVec.and_assoc]
    simp
theorem wrap_nat_zero (n : Nat) (h : n < 2 ^ 64) : (IntKind.i64.wrap (n : Int) = 0) ↔ n = 0 := by
  rw [IntKind.wrap_i64]; omega
theorem bv_zero (x : BitVec 64) : (IntKind.i64.wrap (x.toNat : Int) = 0) ↔ x = 0#64 := by
  rw [wrap_nat_zero _ x.isLt]
  constructor
  · intro h; exact BitVec.eq_of_toNat_eq (by simpa using h)
  · intro h; rw [h]; rfl
theorem bv_self (v : BitVec 64) (x : Int) (h0 : -9223372036854775808 ≤ x) (h1 : x ≤ 9223372036854775807) : (IntKind.i64.wrap (v.toNat : Int) = x) ↔ v = BitVec.ofInt 64 x := by
  rw [IntKind.wrap_i64]
  have e := BitVec.toNat_ofInt (n := 64) x
  have l := v.isLt
  constructor
  · intro h
    apply BitVec.eq_of_toNat_eq
    rw [e]; omega
  · intro h
    rw [h, e]; omega
/-- 'x &^ y == 0': the same as 'x & y == x'. -/
def partZ (x y : Int) : Bool := bits .andNot .i64 x y == 0
theorem partZ_eq (x y : Int) (h0 : -9223372036854775808 ≤ x) (h1 : x ≤ 9223372036854775807) : partZ x y = (bits .and .i64 x y == x) := by
  unfold partZ
  rw [Bool.eq_iff_iff, beq_iff_eq, beq_iff_eq, bits_andNot, bits_and, bv_zero, bv_self _ x h0 h1, bv_part]
theorem and_mask (n : Nat) (hn : n < 63) (x : Int) : bits .and .i64 x (2 ^ n - 1) = x % 2 ^ n := by
  have p1 : (2 : Nat) ^ n < 2 ^ 63 := Nat.pow_lt_pow_right (by omega) hn
  have p0 : 0 < (2 : Nat) ^ n := Nat.pow_pos (by omega)
  have hc : ((2 : Int) ^ n) = ((2 ^ n : Nat) : Int) := by rw [Int.natCast_pow]; rfl
  have h : (BitVec.ofInt 64 (2 ^ n - 1)).toNat = 2 ^ n - 1 := by
    rw [BitVec.toNat_ofInt, hc]; omega
  have key : (BitVec.ofInt 64 x &&& BitVec.ofInt 64 (2 ^ n - 1)).toNat = (x % ((2 ^ 64 : Nat) : Int)).toNat % 2 ^ n := by
    rw [BitVec.toNat_and, BitVec.toNat_ofInt, h, Nat.and_two_pow_sub_one_eq_mod]
  rw [bits_and, key, IntKind.wrap_i64, hc]
  have hd : ((2 ^ n : Nat) : Int) ∣ ((2 ^ 64 : Nat) : Int) := by
    rw [show 64 = n + (64 - n) by omega, Nat.pow_add, Int.natCast_mul]; exact Int.dvd_mul_right _ _
  have e : (((x % ((2 ^ 64 : Nat) : Int)).toNat % 2 ^ n : Nat) : Int) = x % ((2 ^ n : Nat) : Int) := by
    rw [Int.natCast_emod, Int.toNat_of_nonneg (Int.emod_nonneg _ (by decide)), Int.emod_emod_of_dvd _ hd]
  rw [e]
  have q0 := Int.emod_nonneg x (b := ((2 ^ n : Nat) : Int)) (by omega)
  have q1 := Int.emod_lt_of_pos x (b := ((2 ^ n : Nat) : Int)) (by omega)
  omega
theorem partZ_first (n : Nat) (hn : n ≤ 5) (x : Int) (h0 : -9223372036854775808 ≤ x) (h1 : x ≤ 9223372036854775807) : partZ x (2 ^ n - 1) = decide (0 ≤ x ∧ x ≤ 2 ^ n - 1) := by
  rw [partZ_eq x _ h0 h1, and_mask n (by omega), Bool.eq_iff_iff, beq_iff_eq, decide_eq_true_iff]
  have p0 : 0 < (2 : Nat) ^ n := Nat.pow_pos (by omega)
  have hc : ((2 : Int) ^ n) = ((2 ^ n : Nat) : Int) := by rw [Int.natCast_pow]; rfl
  rw [hc]
  constructor
  · intro h
    have q0 := Int.emod_nonneg x (b := ((2 ^ n : Nat) : Int)) (by omega)
    have q1 := Int.emod_lt_of_pos x (b := ((2 ^ n : Nat) : Int)) (by omega)
    omega
  · rintro ⟨a, b⟩; exact Int.emod_eq_of_lt a (by omega)
theorem partZ_31 (x : Int) (h0 : -9223372036854775808 ≤ x) (h1 : x ≤ 9223372036854775807) : partZ x 31 = valB x := partZ_first 5 (by omega) x h0 h1

theorem partOf_any (x y : Int) (w : World) :
    Calls Try.prog 72 #[.int .i64 x, .int .i64 y] w fun e w' => e = .returned (.bool (partZ x y)) ∧ w = w' := by
  go_enter Try.func72, Try.ntmps72
  go_wp2_with fail
  go_ret
  exact ⟨rfl, rfl⟩
theorem isValid_any (x : Int) (h0 : -9223372036854775808 ≤ x) (h1 : x ≤ 9223372036854775807) (w : World) :
    Calls Try.prog 54 #[.int .i64 x] w fun e w' => e = .returned (.bool (valB x)) ∧ w = w' := by
  go_enter Try.func54, Try.ntmps54
  go_wp2_with fail
  refine (partOf_any _ _ _).mono ?_
  rintro e w' ⟨rfl, rfl⟩
  go_wp2_with fail
  go_ret
  exact ⟨ret_b (partZ_31 x h0 h1).symm, rfl⟩
theorem colCount_any (n : Int) (w : World) :
    Calls Try.prog 49 #[.int .i64 n] w fun e w' => e = .returned (.bool (decide (0 ≤ n ∧ n ≤ 5))) ∧ w = w' := by
  by_cases h1 : 0 ≤ n <;> by_cases h2 : n ≤ 5
  all_goals
    go_enter Try.func49, Try.ntmps49
    go_wp2
    go_ret
    exact ⟨by simp [h1, h2], rfl⟩
theorem first_any (n : Int) (w : World) (h0 : 0 ≤ n) (h1 : n ≤ 5) :
    Calls Try.prog 44 #[.int .i64 n] w fun e w' => e = .returned (.int .i64 (2 ^ n.toNat - 1)) ∧ w = w' := by
  rcases (show n = 0 ∨ n = 1 ∨ n = 2 ∨ n = 3 ∨ n = 4 ∨ n = 5 by omega) with rfl | rfl | rfl | rfl | rfl | rfl
  all_goals
    go_enter Try.func44, Try.ntmps44
    go_wp2
    go_ret
    exact ⟨rfl, rfl⟩
/-- The number of ones. -/
theorem ones_any (X : Fin 32) (w : World) :
    Calls Try.prog 92 #[.int .u64 ((X.val : Nat) : Int)] w fun e w' => e = .returned (.int .i64 (cnt ((X.val : Nat) : Int) : Int)) ∧ w = w' := by
  go_enter Try.func92, Try.ntmps92
  go_wp2_with fail
  go_ret
  refine ⟨ret_int ?_, rfl⟩
  revert X
  decide +kernel
theorem onesCount_any (X : Nat) (h : X < 32) (w : World) :
    Calls Try.prog 88 #[.int .u64 (X : Int)] w fun e w' => e = .returned (.int .i64 (cnt (X : Int) : Int)) ∧ w = w' := by
  go_enter Try.func88, Try.ntmps88
  go_wp2_with fail
  refine (ones_any ⟨X, h⟩ _).mono ?_
  rintro e w' ⟨rfl, rfl⟩
  go_wp2_with fail
  go_ret
  exact ⟨rfl, rfl⟩
theorem size_any (X : Nat) (h : X < 32) (w : World) :
    Calls Try.prog 84 #[.int .i64 (X : Int)] w fun e w' => e = .returned (.int .i64 (cnt (X : Int) : Int)) ∧ w = w' := by
  go_enter Try.func84, Try.ntmps84
  go_wp2_with fail
  refine (onesCount_any X h _).mono ?_
  rintro e w' ⟨rfl, rfl⟩
  go_wp2_with fail
  go_ret
  exact ⟨rfl, rfl⟩
theorem has_any (X k : Nat) (hk : k ≤ 62) (w : World) :
    Calls Try.prog 67 #[.int .i64 (X : Int), .int .i64 (k : Int)] w fun e w' => e = .returned (.bool (bitB X k)) ∧ w = w' := by
  have hb : (bits BinOp.and IntKind.i64 ((X : Int) / 2 ^ k) 1 != 0) = bitB X k := by
    rw [← bit_test, i64_and_1, Bool.eq_iff_iff, bne_iff_ne, beq_iff_eq]; omega
  go_enter Try.func67, Try.ntmps67
  go_wp2_with fail
  go_ret
  exact ⟨rfl, rfl⟩
theorem implIsA_any (n x : Int) (h0 : -9223372036854775808 ≤ x) (h1 : x ≤ 9223372036854775807) (w : World) :
    Calls Try.prog 52 #[.int .i64 n, .int .i64 x] w fun e w' => e = .returned (.bool (isA n x)) ∧ Below w.heap.size w w' := by
  by_cases hn : 0 ≤ n ∧ n ≤ 5
  · have hd : decide (0 ≤ n ∧ n ≤ 5) = true := by simp [hn]
    have HZ : Hid (isA n x = partZ x (2 ^ n.toNat - 1)) := Lib.hid (by rw [partZ_first n.toNat (by omega) x h0 h1]; unfold isA; simp [hn])
    go_enter Try.func52, Try.ntmps52
    go_wp2_with fail
    refine (colCount_any _ _).mono ?_
    rintro e w' ⟨rfl, rfl⟩
    go_wp2_with fail
    refine (first_any _ _ hn.1 hn.2).mono ?_
    rintro e w' ⟨rfl, rfl⟩
    go_wp2_with fail
    refine (partOf_any _ _ _).mono ?_
    rintro e w' ⟨rfl, rfl⟩
    go_wp2_with fail
    go_ret
    exact ⟨ret_b HZ.out, Below.refl _ _⟩
  · have hd : decide (0 ≤ n ∧ n ≤ 5) = false := by simp only [hn, decide_false]
    go_enter Try.func52, Try.ntmps52
    go_wp2_with fail
    refine (colCount_any _ _).mono ?_
    rintro e w' ⟨rfl, rfl⟩
    go_wp2_with fail
    go_ret
    exact ⟨ret_b (by unfold isA; simp only [hn, false_and, decide_false]), Below.refl _ _⟩
theorem implCount_any (x : Int) (h0 : -9223372036854775808 ≤ x) (h1 : x ≤ 9223372036854775807) (w : World) :
    Calls Try.prog 69 #[.int .i64 x] w fun e w' => e = .returned (.int .i64 (cnt x : Int)) ∧ Below w.heap.size w w' := by
  have HV := Lib.hid (isValid_any x h0 h1)
  by_cases hx : 0 ≤ x ∧ x ≤ 31
  · obtain ⟨X, rfl⟩ : ∃ X : Nat, x = (X : Int) := ⟨x.toNat, by omega⟩
    have hv : valB (X : Int) = true := by unfold valB; simp [hx]
    have HS := Lib.hid (size_any X (by omega))
    go_enter Try.func69, Try.ntmps69
    go_wp2_with fail
    refine (HV.out _).mono ?_
    rintro e w' ⟨rfl, rfl⟩
    go_wp2_with fail
    refine (HS.out _).mono ?_
    rintro e w' ⟨rfl, rfl⟩
    go_wp2_with fail
    go_ret
    exact ⟨rfl, Below.refl _ _⟩
  · have hv : valB x = false := by unfold valB; simp only [hx, decide_false]
    have HE : Hid (cnt x = 0) := Lib.hid (by unfold cnt mems; rw [if_neg hx]; rfl)
    go_enter Try.func69, Try.ntmps69
    go_wp2_with fail
    refine (HV.out _).mono ?_
    rintro e w' ⟨rfl, rfl⟩
    go_wp2_with fail
    go_ret
    exact ⟨ret_int (by rw [HE.out]; rfl), Below.refl _ _⟩
end Go.Proofs.Ytbbbdabmbiggkaa
namespace Go.Proofs.Ytbbbdabmbiggkaa
open Go.RowKit

theorem filter_next {α : Type} (p : α → Bool) (l : List α) (d : α) (k : Nat) (h : k < l.length) : (l.take (k + 1)).filter p = if p (l.getD k d) = true then (l.take k).filter p ++ [l.getD k d] else (l.take k).filter p := by
  rw [take_succ_getD l d k h, List.filter_append]
  by_cases hp : p (l.getD k d) = true
  · rw [if_pos hp, List.filter_cons_of_pos hp]; rfl
  · rw [if_neg hp, List.filter_cons_of_neg hp]
    simp
theorem mdIn_filter (f : Int → Nat → Bool) (ps : List Int) (r : Nat) (l0 : List (Int × Int)) : ∀ n, n ≤ ps.length → mdIn f ps r l0 n = l0 ++ ((ps.take n).filter (fun S => f S r)).map (fun S => (S, (r : Int)))
  | 0, _ => by simp [mdIn]
  | n + 1, h => by
    have ih := mdIn_filter f ps r l0 n (by omega)
    have e := filter_next (fun S => f S r) ps 0 n h
    unfold mdIn
    by_cases hf : f (ps.getD n 0) r = true
    · rw [if_pos hf] at e
      rw [if_pos hf, e, ih, List.map_append, ← List.append_assoc]; rfl
    · rw [if_neg hf] at e
      rw [if_neg hf, e, ih]
theorem mdOut_succ (f : Int → Nat → Bool) (ps : List Int) (r : Nat) : mdOut f ps (r + 1) = mdOut f ps r ++ (ps.filter (fun S => f S r)).map (fun S => (S, (r : Int))) := by
  have h := mdIn_filter f ps r (mdOut f ps r) ps.length (Nat.le_refl _)
  rw [List.take_length] at h
  exact h
theorem mdOut_filter (f : Int → Nat → Bool) (q : Int × Int → Bool) (ps : List Int) : ∀ C, (mdOut f ps C).filter q = mdOut (fun S r => f S r && q (S, (r : Int))) ps C
  | 0 => rfl
  | C + 1 => by
    rw [mdOut_succ, mdOut_succ, List.filter_append, mdOut_filter f q ps C, List.filter_map, List.filter_filter]
    congr 2
    exact List.filter_congr fun S _ => Bool.and_comm _ _
/-- e says no more than d. -/
def covB (e d : Int × Int) : Bool := decide (e.2 = d.2) && partZ e.1 d.1
/-- Whether a different one of the list covers d. -/
def unB (l : List (Int × Int)) (d : Int × Int) : Bool := l.any fun e => !decide (e = d) && covB e d
def uncL (l : List (Int × Int)) : List (Int × Int) := l.filter fun d => !unB l d
def candL (C : Nat) : List (Int × Int) := mdOut (fun S r => !bitB S.toNat r) (parts (C : Int)) C
theorem part_sub (a b : Nat) (ha : a < 32) (hb : b < 32) : partZ (a : Int) (b : Int) = subN a b := by
  have h : ∀ a b : Fin 32, partZ ((a.val : Nat) : Int) ((b.val : Nat) : Int) = subN a.val b.val := by decide +kernel
  exact h ⟨a, ha⟩ ⟨b, hb⟩
/-- The dependencies of a filtered list of candidates that no other one covers. -/
theorem unc_low {C : Nat} (hC : C ≤ 5) (g : Int × Int → Bool) :
    uncL ((candL C).filter g) = mdOut (fun S r => decide (S ∈ minS (fltTo (fun S => !bitB S.toNat r && g (S, (r : Int))) (parts (C : Int)) (parts (C : Int)).length))) (parts (C : Int)) C := by
  have h32 := two5 hC
  have hl : (candL C).filter g = mdOut (fun S r => !bitB S.toNat r && g (S, (r : Int))) (parts (C : Int)) C := mdOut_filter _ _ _ _
  have key : ∀ l, l = mdOut (fun S r => !bitB S.toNat r && g (S, (r : Int))) (parts (C : Int)) C →
      (mdOut (fun S r => !bitB S.toNat r && g (S, (r : Int))) (parts (C : Int)) C).filter (fun d => !unB l d) =
      mdOut (fun S r => decide (S ∈ minS (fltTo (fun S => !bitB S.toNat r && g (S, (r : Int))) (parts (C : Int)) (parts (C : Int)).length))) (parts (C : Int)) C := by
    intro l hll
    rw [mdOut_filter]
    refine mdOut_same _ fun S hS r hr => ?_
    obtain ⟨x, hx, rfl⟩ := (parts_mem hC S).1 hS
    obtain ⟨k1, k2⟩ := flt_small hC (fun S => !bitB S.toNat r && g (S, (r : Int)))
    have hmem : ∀ z : Nat, ((z : Int) ∈ fltTo (fun S => !bitB S.toNat r && g (S, (r : Int))) (parts (C : Int)) (parts (C : Int)).length ↔ z < 2 ^ C ∧ (!bitB z r && g ((z : Int), (r : Int))) = true) := by
      intro z
      rw [fltTo_mem]
      constructor
      · rintro ⟨t, t1, t2, t3⟩
        obtain ⟨z', z1, z2⟩ := (parts_mem hC _).1 (mem_getD.2 ⟨t, t1, t3⟩)
        obtain rfl : z = z' := by omega
        rw [← t3] at t2
        exact ⟨z1, t2⟩
      · rintro ⟨z1, z2⟩
        obtain ⟨t, t1, t2⟩ := mem_getD.1 ((parts_mem hC (z : Int)).2 ⟨z, z1, rfl⟩)
        exact ⟨t, t1, by rw [← t2]; exact z2, t2⟩
    have hml : ∀ z : Nat, z < 2 ^ C → (((z : Int), (r : Int)) ∈ l ↔ (!bitB z r && g ((z : Int), (r : Int))) = true) := by
      intro z hz
      rw [hll, mdOut_mem]
      constructor
      · rintro ⟨r', r1, S, r2, r3, r4⟩
        obtain ⟨e1, e2⟩ := Prod.mk.inj r4
        obtain rfl : r = r' := by omega
        subst e1
        exact r3
      · intro h
        exact ⟨r, hr, (z : Int), (parts_mem hC _).2 ⟨z, hz, rfl⟩, h, rfl⟩
    rw [Bool.eq_iff_iff, decide_eq_true_iff, minS_mem k1 k2 x, hmem x, Bool.and_eq_true, Bool.not_eq_true']
    show (_ ∧ _) ↔ _
    constructor
    · rintro ⟨h1, h2⟩
      refine ⟨⟨hx, h1⟩, fun z hz hs => Classical.byContradiction fun hne => ?_⟩
      obtain ⟨z1, z2⟩ := (hmem z).1 hz
      have : unB l ((x : Int), (r : Int)) = true := by
        unfold unB
        rw [List.any_eq_true]
        refine ⟨((z : Int), (r : Int)), (hml z z1).2 z2, ?_⟩
        rw [Bool.and_eq_true, Bool.not_eq_true']
        refine ⟨decide_eq_false fun e => hne (by have := (Prod.mk.inj e).1; omega), ?_⟩
        unfold covB
        simp only [decide_true, Bool.true_and]
        rw [part_sub z x (by omega) (by omega)]; exact hs
      rw [h2] at this
      cases this
    · rintro ⟨⟨-, h1⟩, h2⟩
      refine ⟨h1, Bool.eq_false_iff.2 fun h => ?_⟩
      unfold unB at h
      rw [List.any_eq_true] at h
      obtain ⟨e, he, h⟩ := h
      rw [Bool.and_eq_true, Bool.not_eq_true', decide_eq_false_iff_not] at h
      obtain ⟨hne, hc⟩ := h
      have he' := he
      rw [hll, mdOut_mem] at he'
      obtain ⟨r', r1, S, r2, r3, rfl⟩ := he'
      obtain ⟨z, hz, rfl⟩ := (parts_mem hC S).1 r2
      unfold covB at hc
      rw [Bool.and_eq_true, decide_eq_true_iff] at hc
      obtain ⟨e2, hp⟩ := hc
      simp only at e2 hp
      obtain rfl : r = r' := by omega
      rw [part_sub z x (by omega) (by omega)] at hp
      obtain rfl := h2 z ((hmem z).2 ⟨hz, (hml z hz).1 he⟩) hp
      exact hne rfl
  unfold uncL
  rw [hl]
  exact key _ rfl
theorem unc_min {C : Nat} {ll : List (List Int)} {m : Int} (hf : fineT (C : Int) ll m = true) (h1 : 1 ≤ C) (hC : C ≤ 5) :
    uncL ((candL C).filter (fun d => holdsD (C : Int) ll m d.1 d.2)) = minD C ll m := by
  rw [unc_low hC]
  unfold minD
  refine mdOut_same _ fun S hS r hr => ?_
  obtain ⟨x, hx, rfl⟩ := (parts_mem hC S).1 hS
  rw [Bool.eq_iff_iff, decide_eq_true_iff]
  show _ ↔ minN C ll m x r = true
  refine low_min hC hr (fun z hz => ?_) hx
  rw [Bool.and_eq_true, Bool.not_eq_true']
  have ho := okD_all (S := z) (R := r) hf h1 hC hz hr
  have h3 := holds_iff ho rfl rfl rfl hC hr
  rw [← h3]
  exact Iff.rfl
theorem unc_app {C : Nat} {ll : List (List Int)} {m rows : Int} (hC : C ≤ 5) :
    uncL ((candL C).filter (fun d => decide (remD (C : Int) ll m d.1 d.2 ≤ rows))) = appD C ll m rows := by
  rw [unc_low hC]
  rfl
/-- The greatest and the smallest sets hang on the members alone. -/
theorem maxS_ext {l l' : List Int} (h : setsOk l = true) (h' : setsOk l' = true) (he : ∀ y, y ∈ l ↔ y ∈ l') : maxS l = maxS l' := by
  unfold maxS
  rw [if_pos h, if_pos h']
  refine ascI_unique _ _ (mxTo_asc _ _) (mxTo_asc _ _) fun y => ?_
  have step : ∀ (a b : List Int), (∀ y, y ∈ a ↔ y ∈ b) → y ∈ mxTo a a.length → y ∈ mxTo b b.length := by
    intro a b hab hy
    rw [mxTo_mem] at hy ⊢
    obtain ⟨t, t1, t2, t3⟩ := hy
    obtain ⟨s, s1, s2⟩ := mem_getD.1 ((hab y).1 (mem_getD.2 ⟨t, t1, t2⟩))
    refine ⟨s, s1, s2, (topK_iff _ _ _).2 fun u hu => ?_⟩
    obtain ⟨v, v1, v2⟩ := mem_getD.1 ((hab _).2 (mem_getD.2 ⟨u, hu, rfl⟩))
    have := (topK_iff _ _ _).1 t3 v v1
    rw [← v2] at this
    exact this
  exact ⟨step _ _ he, step _ _ fun z => (he z).symm⟩
theorem minS_ext {l l' : List Int} (h : setsOk l = true) (h' : setsOk l' = true) (he : ∀ y, y ∈ l ↔ y ∈ l') : minS l = minS l' := by
  unfold minS
  rw [if_pos h, if_pos h']
  refine ascI_unique _ _ (mnTo_asc _ _) (mnTo_asc _ _) fun y => ?_
  have step : ∀ (a b : List Int), (∀ y, y ∈ a ↔ y ∈ b) → y ∈ mnTo a a.length → y ∈ mnTo b b.length := by
    intro a b hab hy
    rw [mnTo_mem] at hy ⊢
    obtain ⟨t, t1, t2, t3⟩ := hy
    obtain ⟨s, s1, s2⟩ := mem_getD.1 ((hab y).1 (mem_getD.2 ⟨t, t1, t2⟩))
    refine ⟨s, s1, s2, (lowK_iff _ _ _).2 fun u hu => ?_⟩
    obtain ⟨v, v1, v2⟩ := mem_getD.1 ((hab _).2 (mem_getD.2 ⟨u, hu, rfl⟩))
    have := (lowK_iff _ _ _).1 t3 v v1
    rw [← v2] at this
    exact this
  exact ⟨step _ _ he, step _ _ fun z => (he z).symm⟩
theorem parts_len32 {C : Nat} (hC : C ≤ 5) : (parts (C : Int)).length ≤ 32 := by
  have h2 : ∀ C : Fin 6, (parts ((C.val : Nat) : Int)).length ≤ 32 := by decide +kernel
  exact h2 ⟨C, by omega⟩
theorem filt_ok {C : Nat} (hC : C ≤ 5) (g : Int → Bool) : setsOk ((parts (C : Int)).filter g) = true := by
  have h32 := two5 hC
  unfold setsOk
  rw [Bool.and_eq_true, decide_eq_true_iff, List.all_eq_true]
  refine ⟨fun y hy => ?_, ?_⟩
  · obtain ⟨x, hx, rfl⟩ := (parts_mem hC y).1 (List.mem_filter.1 hy).1
    have h : ∀ x : Fin 32, valB ((x.val : Nat) : Int) = true := by decide +kernel
    exact h ⟨x, by omega⟩
  · have h1 := List.length_filter_le g (parts (C : Int))
    have := parts_len32 hC
    omega
theorem filt_brd {C : Nat} (hC : C ≤ 5) {g : Int → Bool} {f : Nat → Bool} (h : ∀ x : Nat, x < 2 ^ C → g (x : Int) = f x) (y : Int) : y ∈ (parts (C : Int)).filter g ↔ y ∈ brdTo f (2 ^ C) := by
  rw [List.mem_filter, brdTo_mem]
  constructor
  · rintro ⟨h1, h2⟩
    obtain ⟨x, hx, rfl⟩ := (parts_mem hC y).1 h1
    exact ⟨x, hx, by rw [← h x hx]; exact h2, rfl⟩
  · rintro ⟨x, hx, h2, rfl⟩
    exact ⟨(parts_mem hC _).2 ⟨x, hx, rfl⟩, by rw [h x hx]; exact h2⟩
theorem max_filt {C : Nat} (hC : C ≤ 5) {g : Int → Bool} {f : Nat → Bool} (h : ∀ x : Nat, x < 2 ^ C → g (x : Int) = f x) : maxS ((parts (C : Int)).filter g) = maxS (brdTo f (2 ^ C)) :=
  maxS_ext (filt_ok hC g) (brdTo_ok f (two5 hC)) (filt_brd hC h)
theorem min_filt {C : Nat} (hC : C ≤ 5) {g : Int → Bool} {f : Nat → Bool} (h : ∀ x : Nat, x < 2 ^ C → g (x : Int) = f x) : minS ((parts (C : Int)).filter g) = minS (brdTo f (2 ^ C)) :=
  minS_ext (filt_ok hC g) (brdTo_ok f (two5 hC)) (filt_brd hC h)
theorem holds_h7 {C : Nat} {ll : List (List Int)} {m : Int} (hf : fineT (C : Int) ll m = true) (h1 : 1 ≤ C) (hC : C ≤ 5) {x R : Nat} (hx : x < 2 ^ C) (hR : R < C) : holdsD (C : Int) ll m (x : Int) (R : Int) = h7 C ll m x R := by
  have ho := okD_all (S := x) (R := R) hf h1 hC hx hR
  have h3 := holds_iff ho rfl rfl rfl hC hR
  rw [Bool.eq_iff_iff, h3, h7_iff hC hR]
/-- The border, from the list of sets by size. -/
theorem brd_filt {C : Nat} {ll : List (List Int)} {m : Int} {R : Nat} (hf : fineT (C : Int) ll m = true) (h1 : 1 ≤ C) (hC : C ≤ 5) (hR : R < C) :
    maxS (((parts (C : Int)).filter (fun S => !bitB S.toNat R)).filter (fun S => !holdsD (C : Int) ll m S (R : Int))) = brdL C ll m R := by
  rw [List.filter_filter]
  unfold brdL
  refine max_filt hC fun x hx => ?_
  rw [holds_h7 hf h1 hC hx hR]
  show (_ && !bitB x R) = _
  rw [Bool.and_comm]
theorem parts_small (n S : Int) (h : S ∈ parts n) : ∃ X : Nat, S = (X : Int) ∧ X < 32 := by
  by_cases hn : 0 ≤ n ∧ n ≤ 5
  · obtain ⟨C, rfl⟩ : ∃ C : Nat, n = (C : Int) := ⟨n.toNat, by omega⟩
    obtain ⟨h0, h1⟩ := parts_nat ⟨C, by omega⟩ S h
    exact ⟨S.toNat, by omega, by omega⟩
  · unfold parts at h
    rw [if_neg hn] at h
    cases h
theorem all_hit {p : Int → Bool} (l : List Int) (d : Int) (k : Nat) (h : k < l.length) (hp : p (l.getD k d) = false) : l.all p = false := by
  cases h' : l.all p with
  | false => rfl
  | true =>
    have := List.all_eq_true.1 h' (l.getD k d) (by rw [List.getD_eq_getElem?_getD, List.getElem?_eq_getElem h]; exact List.getElem_mem h)
    rw [hp] at this; cases this
end Go.Proofs.Ytbbbdabmbiggkaa
namespace Go.Proofs.Ytbbbdabmbiggkaa
open Go.RowKit

/-- x has a column in common with e. -/
def hitI (e x : Int) : Bool := !(bits .and .i64 e x == 0)
theorem hit_fin : ∀ a b : Fin 32, hitI ((a.val : Nat) : Int) ((b.val : Nat) : Int) = true ↔ ∃ j : Fin 5, bitB a.val j.val = true ∧ bitB b.val j.val = true := by decide +kernel
theorem hit_comm_fin : ∀ a b : Fin 32, (bits .and .i64 ((a.val : Nat) : Int) ((b.val : Nat) : Int) != 0) = hitI ((b.val : Nat) : Int) ((a.val : Nat) : Int) := by decide +kernel
theorem or_fin9 : ∀ (a : Fin 32) (j : Fin 5), bitB a.val j.val = false → bits .or .i64 ((a.val : Nat) : Int) (2 ^ j.val) = ((a.val + 2 ^ j.val : Nat) : Int) := by decide +kernel
theorem hit_iff {a b : Nat} (ha : a < 32) (hb : b < 32) : hitI (a : Int) (b : Int) = true ↔ ∃ j, j < 5 ∧ bitB a j = true ∧ bitB b j = true := by
  refine (hit_fin ⟨a, ha⟩ ⟨b, hb⟩).trans ⟨fun ⟨j, h⟩ => ⟨j.val, j.isLt, h⟩, fun ⟨j, hj, h⟩ => ⟨⟨j, hj⟩, h⟩⟩
theorem hit_up {e a b : Nat} (he : e < 32) (ha : a < 32) (hb : b < 32) (hs : subN a b = true) (h : hitI (e : Int) (a : Int) = true) : hitI (e : Int) (b : Int) = true := by
  obtain ⟨j, hj, h1, h2⟩ := (hit_iff he ha).1 h
  exact (hit_iff he hb).2 ⟨j, hj, h1, (subN_bit ⟨a, ha⟩ ⟨b, hb⟩).1 hs ⟨j, hj⟩ h2⟩
/-- One set with each of the first k columns of an edge. -/
def grwOne (e y : Int) : Nat → List Int
  | 0 => []
  | k + 1 => if bitB e.toNat k = true then grwOne e y k ++ [bits .or .i64 y (2 ^ k)] else grwOne e y k
/-- The first i sets with an edge taken into account. -/
def grwTo (l : List Int) (e : Int) : Nat → List Int
  | 0 => []
  | i + 1 => if (bits .and .i64 (l.getD i 0) e != 0) = true then grwTo l e i ++ [l.getD i 0] else grwTo l e i ++ grwOne e (l.getD i 0) 5
/-- The different ones of the first i, in ascending order. -/
def ddTo (l : List Int) : Nat → List Int
  | 0 => []
  | i + 1 => put4 (ddTo l i) (l.getD i 0)
def grwL (l : List Int) (e : Int) : List Int := if (setsOk l && valB e) = true then minS (ddTo (grwTo l e l.length) (grwTo l e l.length).length) else []
/-- The first i edges taken into account. -/
def trTo (E : List Int) : Nat → List Int
  | 0 => [0]
  | i + 1 => grwL (trTo E i) (E.getD i 0)
def trL (E : List Int) (n : Int) : List Int := if (decide ((0 ≤ n ∧ n ≤ 5) ∧ E.length ≤ 100) && E.all (isA n)) = true then trTo E E.length else []
/-- x hits the first i edges. -/
def hitTo (E : List Int) (x : Nat) : Nat → Bool
  | 0 => true
  | i + 1 => hitTo E x i && hitI (E.getD i 0) (x : Int)
def hitsA (E : List Int) (x : Int) : Bool := E.all (fun e => valB e && hitI e x) && valB x
theorem grwOne_mem (e y z : Int) : ∀ k, z ∈ grwOne e y k ↔ ∃ j, j < k ∧ bitB e.toNat j = true ∧ z = bits .or .i64 y (2 ^ j)
  | 0 => by simp [grwOne]
  | k + 1 => by
    have ih := grwOne_mem e y z k
    unfold grwOne
    constructor
    · intro h
      split at h
      · rename_i hb
        rcases List.mem_append.1 h with h | h
        · obtain ⟨j, h1, h2⟩ := ih.1 h
          exact ⟨j, by omega, h2⟩
        · exact ⟨k, by omega, hb, List.mem_singleton.1 h⟩
      · obtain ⟨j, h1, h2⟩ := ih.1 h
        exact ⟨j, by omega, h2⟩
    · rintro ⟨j, h1, h2, h3⟩
      by_cases e' : j = k
      · subst e'
        rw [if_pos h2]
        exact List.mem_append.2 (.inr (List.mem_singleton.2 h3))
      · have := ih.2 ⟨j, by omega, h2, h3⟩
        split
        · exact List.mem_append.2 (.inl this)
        · exact this
theorem grwTo_mem (l : List Int) (e z : Int) : ∀ i, z ∈ grwTo l e i ↔ ∃ t, t < i ∧ ((bits .and .i64 (l.getD t 0) e != 0) = true ∧ z = l.getD t 0 ∨ (bits .and .i64 (l.getD t 0) e != 0) = false ∧ ∃ j, j < 5 ∧ bitB e.toNat j = true ∧ z = bits .or .i64 (l.getD t 0) (2 ^ j))
  | 0 => by simp [grwTo]
  | i + 1 => by
    have ih := grwTo_mem l e z i
    unfold grwTo
    constructor
    · intro h
      split at h
      · rename_i hb
        rcases List.mem_append.1 h with h | h
        · obtain ⟨t, h1, h2⟩ := ih.1 h
          exact ⟨t, by omega, h2⟩
        · exact ⟨i, by omega, .inl ⟨hb, List.mem_singleton.1 h⟩⟩
      · rename_i hb
        rcases List.mem_append.1 h with h | h
        · obtain ⟨t, h1, h2⟩ := ih.1 h
          exact ⟨t, by omega, h2⟩
        · exact ⟨i, by omega, .inr ⟨by simpa using hb, (grwOne_mem _ _ _ 5).1 h⟩⟩
    · rintro ⟨t, h1, h2⟩
      by_cases e' : t = i
      · subst e'
        rcases h2 with ⟨hb, rfl⟩ | ⟨hb, h2⟩
        · rw [if_pos hb]
          exact List.mem_append.2 (.inr (List.mem_singleton.2 rfl))
        · rw [if_neg (by rw [hb]; exact Bool.false_ne_true)]
          exact List.mem_append.2 (.inr ((grwOne_mem _ _ _ 5).2 h2))
      · have := ih.2 ⟨t, by omega, h2⟩
        split
        · exact List.mem_append.2 (.inl this)
        · exact List.mem_append.2 (.inl this)
theorem ddTo_mem (l : List Int) (z : Int) : ∀ i, z ∈ ddTo l i ↔ ∃ t, t < i ∧ z = l.getD t 0
  | 0 => by simp [ddTo]
  | i + 1 => by
    have ih := ddTo_mem l z i
    unfold ddTo
    rw [put4_mem, ih]
    constructor
    · rintro (rfl | ⟨t, h1, h2⟩)
      · exact ⟨i, by omega, rfl⟩
      · exact ⟨t, by omega, h2⟩
    · rintro ⟨t, h1, h2⟩
      by_cases e : t = i
      · subst e; exact .inl h2
      · exact .inr ⟨t, by omega, h2⟩
theorem ddTo_asc (l : List Int) : ∀ i, AscI (ddTo l i)
  | 0 => mnTo_asc [] 0
  | i + 1 => put4_asc (ddTo_asc l i) _
theorem dd_mem (l : List Int) (z : Int) : z ∈ ddTo l l.length ↔ z ∈ l := by
  rw [ddTo_mem, mem_getD]
theorem hitTo_iff (E : List Int) (x : Nat) : ∀ i, hitTo E x i = true ↔ ∀ t, t < i → hitI (E.getD t 0) (x : Int) = true
  | 0 => by simp [hitTo]
  | i + 1 => by
    have ih := hitTo_iff E x i
    unfold hitTo
    rw [Bool.and_eq_true, ih]
    constructor
    · rintro ⟨h1, h2⟩ t ht
      by_cases e : t = i
      · subst e; exact h2
      · exact h1 t (by omega)
    · exact fun h => ⟨fun t ht => h t (by omega), h i (by omega)⟩
theorem valN {x : Int} (h : valB x = true) : ∃ X : Nat, x = (X : Int) ∧ X < 32 := by
  unfold valB at h
  rw [decide_eq_true_iff] at h
  exact ⟨x.toNat, by omega, by omega⟩
theorem val_nat {x : Nat} (h : x < 32) : valB (x : Int) = true := by
  unfold valB
  rw [decide_eq_true_iff]
  omega
theorem asc_ge {l : List Int} (h : AscI l) (h0 : ∀ y ∈ l, 0 ≤ y) : ∀ i, i < l.length → (i : Int) ≤ l.getD i 0
  | 0, hi => by have := h0 _ (mem_getD.2 ⟨0, hi, rfl⟩); omega
  | i + 1, hi => by
    have ih := asc_ge h h0 i (by omega)
    have := ascI_getD h (show i < i + 1 by omega) hi
    omega
theorem asc_len {l : List Int} (h : AscI l) (hb : ∀ y ∈ l, valB y = true) : l.length ≤ 32 := by
  by_cases h0 : l.length = 0
  · omega
  · have h1 := asc_ge h (fun y hy => by obtain ⟨X, rfl, -⟩ := valN (hb y hy); omega) (l.length - 1) (by omega)
    obtain ⟨X, h2, h3⟩ := valN (hb _ (mem_getD.2 ⟨l.length - 1, by omega, rfl⟩))
    omega
theorem asc_ok {l : List Int} (h : AscI l) (hb : ∀ y ∈ l, valB y = true) : setsOk l = true := by
  unfold setsOk
  rw [Bool.and_eq_true, decide_eq_true_iff, List.all_eq_true]
  have := asc_len h hb
  exact ⟨hb, by omega⟩
theorem minS_asc (l : List Int) : AscI (minS l) := by
  unfold minS
  split
  · exact mnTo_asc _ _
  · exact List.Pairwise.nil
theorem subN_anti {a b : Nat} (h1 : subN a b = true) (h2 : subN b a = true) : a = b := by
  unfold subN at *
  rw [beq_iff_eq] at *
  rw [← h1, Nat.and_comm]
  exact h2
theorem add_sub_fin : ∀ (a b : Fin 32) (j : Fin 5), subN a.val b.val = true → bitB b.val j.val = true → bitB a.val j.val = false → subN (a.val + 2 ^ j.val) b.val = true := by decide +kernel
/-- The sets that stand for x among those that an edge leads to. -/
def CandN (f : Nat → Bool) (e c : Nat) : Prop := ∃ y : Nat, y < 32 ∧ (y : Int) ∈ minS (brdTo f 32) ∧ (hitI (e : Int) (y : Int) = true ∧ c = y ∨ hitI (e : Int) (y : Int) = false ∧ ∃ j, j < 5 ∧ bitB e j = true ∧ c = y + 2 ^ j)
theorem no_bit {e y j : Nat} (he : e < 32) (hy : y < 32) (hj : j < 5) (h : hitI (e : Int) (y : Int) = false) (hb : bitB e j = true) : bitB y j = false := by
  cases hc : bitB y j with
  | false => rfl
  | true => rw [(hit_iff he hy).2 ⟨j, hj, hb, hc⟩] at h; cases h
theorem cand_iff {f : Nat → Bool} {e : Nat} (he : e < 32) (z : Int) : z ∈ grwTo (minS (brdTo f 32)) (e : Int) (minS (brdTo f 32)).length ↔ ∃ c : Nat, z = (c : Int) ∧ CandN f e c := by
  rw [grwTo_mem]
  have hm : ∀ y ∈ minS (brdTo f 32), ∃ Y : Nat, y = (Y : Int) ∧ Y < 32 := fun y hy => by
    obtain ⟨x, h1, -, h3, -⟩ := (minS_brd f (Nat.le_refl _) y).1 hy
    exact ⟨x, h3, h1⟩
  constructor
  · rintro ⟨t, ht, h⟩
    have hy := mem_getD.2 ⟨t, ht, rfl⟩
    obtain ⟨Y, e1, hY⟩ := hm _ hy
    rw [e1] at h hy
    rw [hit_comm_fin ⟨Y, hY⟩ ⟨e, he⟩] at h
    rcases h with ⟨h1, rfl⟩ | ⟨h1, j, hj, hb, rfl⟩
    · exact ⟨Y, rfl, Y, hY, hy, .inl ⟨h1, rfl⟩⟩
    · have hn := no_bit he hY hj h1 (by simpa using hb)
      exact ⟨Y + 2 ^ j, or_fin9 ⟨Y, hY⟩ ⟨j, hj⟩ hn, Y, hY, hy, .inr ⟨h1, j, hj, by simpa using hb, rfl⟩⟩
  · rintro ⟨c, rfl, Y, hY, hy, h⟩
    obtain ⟨t, ht, e1⟩ := mem_getD.1 hy
    refine ⟨t, ht, ?_⟩
    rw [← e1, hit_comm_fin ⟨Y, hY⟩ ⟨e, he⟩]
    rcases h with ⟨h1, rfl⟩ | ⟨h1, j, hj, hb, rfl⟩
    · exact .inl ⟨h1, rfl⟩
    · exact .inr ⟨h1, j, hj, by simpa using hb, (or_fin9 ⟨Y, hY⟩ ⟨j, hj⟩ (no_bit he hY hj h1 hb)).symm⟩
theorem minS_sub' {l : List Int} (hl : setsOk l = true) {x : Int} (h : x ∈ minS l) : ∃ t, t < l.length ∧ ∃ X : Nat, x = (X : Int) := by
  unfold minS at h
  rw [if_pos hl, mnTo_mem] at h
  obtain ⟨t, ht, e, -⟩ := h
  unfold setsOk at hl
  rw [Bool.and_eq_true, List.all_eq_true] at hl
  obtain ⟨X, hX, -⟩ := valN (hl.1 x (mem_getD.2 ⟨t, ht, e⟩))
  exact ⟨t, ht, X, hX⟩
theorem grw_min {f : Nat → Bool} {e : Nat} (he : e < 32) (hup : UpN 32 (fun x => f x = true)) :
    grwL (minS (brdTo f 32)) (e : Int) = minS (brdTo (fun x => f x && hitI (e : Int) (x : Int)) 32) := by
  have hL : setsOk (minS (brdTo f 32)) = true := asc_ok (minS_asc _) fun y hy => by
    obtain ⟨x, h1, -, rfl, -⟩ := (minS_brd f (Nat.le_refl _) y).1 hy
    exact val_nat h1
  -- what is led to hits, and everything that hits lies above something that is led to
  have hg : ∀ c, CandN f e c → c < 32 ∧ f c = true ∧ hitI (e : Int) (c : Int) = true := by
    rintro c ⟨y, hy, hm, h⟩
    obtain ⟨x, -, hx2, hx3, -⟩ := (minS_brd f (Nat.le_refl _) (y : Int)).1 hm
    obtain rfl : y = x := by omega
    rcases h with ⟨h1, rfl⟩ | ⟨h1, j, hj, hb, rfl⟩
    · exact ⟨hy, hx2, h1⟩
    · have hn := no_bit he hy hj h1 hb
      obtain ⟨m1, m2, m3, -⟩ := more_fin ⟨y, hy⟩ ⟨j, hj⟩ hn
      exact ⟨m1, hup y _ hy m1 m2 hx2, (hit_iff he m1).2 ⟨j, hj, hb, m3⟩⟩
  have hc : ∀ z, z < 32 → f z = true → hitI (e : Int) (z : Int) = true → ∃ c, CandN f e c ∧ subN c z = true := by
    intro z hz h1 h2
    obtain ⟨y, hy, -, hs, hl⟩ := least_ex (f := fun x => f x = true) z hz h1
    obtain ⟨l1, l2⟩ := (least_iff (n := 32) (Nat.le_refl _) hup hy).1 hl
    have hm : (y : Int) ∈ minS (brdTo f 32) := (minS_brd f (Nat.le_refl _) _).2 ⟨y, hy, l1, rfl, l2⟩
    cases hh : hitI (e : Int) (y : Int) with
    | true => exact ⟨y, ⟨y, hy, hm, .inl ⟨hh, rfl⟩⟩, hs⟩
    | false =>
      obtain ⟨j, hj, b1, b2⟩ := (hit_iff he hz).1 h2
      exact ⟨y + 2 ^ j, ⟨y, hy, hm, .inr ⟨hh, j, hj, b1, rfl⟩⟩, add_sub_fin ⟨y, hy⟩ ⟨z, hz⟩ ⟨j, hj⟩ hs b2 (no_bit he hy hj hh b1)⟩
  have hD : ∀ z, z ∈ ddTo (grwTo (minS (brdTo f 32)) (e : Int) (minS (brdTo f 32)).length) (grwTo (minS (brdTo f 32)) (e : Int) (minS (brdTo f 32)).length).length ↔ ∃ c : Nat, z = (c : Int) ∧ CandN f e c := fun z => (dd_mem _ _).trans (cand_iff he z)
  have hDk := asc_ok (ddTo_asc (grwTo (minS (brdTo f 32)) (e : Int) (minS (brdTo f 32)).length) _) fun y hy => by
    obtain ⟨c, rfl, h⟩ := (hD y).1 hy
    exact val_nat (hg c h).1
  unfold grwL
  rw [if_pos (by rw [hL, val_nat he]; rfl)]
  refine ascI_unique _ _ (minS_asc _) (minS_asc _) fun x => ?_
  have hbD : ∀ y ∈ ddTo (grwTo (minS (brdTo f 32)) (e : Int) (minS (brdTo f 32)).length) (grwTo (minS (brdTo f 32)) (e : Int) (minS (brdTo f 32)).length).length, ∃ x : Nat, x < 32 ∧ y = (x : Int) := fun y hy => by
    obtain ⟨c, rfl, h⟩ := (hD y).1 hy
    exact ⟨c, (hg c h).1, rfl⟩
  rw [minS_brd _ (Nat.le_refl _)]
  constructor
  · intro hx
    obtain ⟨X, rfl⟩ : ∃ X : Nat, x = (X : Int) := by
      obtain ⟨t, -, h⟩ := minS_sub' hDk hx
      exact h
    obtain ⟨h1, h2⟩ := (minS_mem hDk hbD X).1 hx
    obtain ⟨c, e1, hcd⟩ := (hD _).1 h1
    obtain rfl : X = c := by omega
    obtain ⟨g1, g2, g3⟩ := hg X hcd
    refine ⟨X, g1, by rw [g2, g3]; rfl, rfl, fun z hz hgz hs => ?_⟩
    rw [Bool.and_eq_true] at hgz
    obtain ⟨c, c1, c2⟩ := hc z hz hgz.1 hgz.2
    have := h2 c ((hD _).2 ⟨c, rfl, c1⟩) (subN_trans c2 hs)
    subst this
    exact subN_anti hs c2
  · rintro ⟨X, hX, hgX, rfl, hmin⟩
    rw [Bool.and_eq_true] at hgX
    obtain ⟨c, c1, c2⟩ := hc X hX hgX.1 hgX.2
    obtain ⟨g1, g2, g3⟩ := hg c c1
    have := hmin c g1 (by rw [g2, g3]; rfl) c2
    subst this
    refine (minS_mem hDk hbD c).2 ⟨(hD _).2 ⟨c, rfl, c1⟩, fun z hz hs => ?_⟩
    obtain ⟨d, e1, hd⟩ := (hD _).1 hz
    obtain rfl : z = d := by omega
    obtain ⟨k1, k2, k3⟩ := hg z hd
    exact hmin z k1 (by rw [k2, k3]; rfl) hs
theorem hit_upN (E : List Int) (i : Nat) (hE : ∀ t, t < i → valB (E.getD t 0) = true) : UpN 32 (fun x => hitTo E x i = true) := fun a b ha hb hs h => by
  simp only at h ⊢
  rw [hitTo_iff] at h ⊢
  intro t ht
  obtain ⟨X, e, hX⟩ := valN (hE t ht)
  have := h t ht
  rw [e] at this ⊢
  exact hit_up hX ha hb hs this
/-- The first i edges taken into account: the smallest sets that hit them. -/
theorem trTo_eq (E : List Int) : ∀ i, (∀ t, t < i → valB (E.getD t 0) = true) → trTo E i = minS (brdTo (fun x => hitTo E x i) 32)
  | 0, _ => by
    show [0] = minS (brdTo (fun _ => true) 32)
    decide +kernel
  | i + 1, hE => by
    obtain ⟨X, e, hX⟩ := valN (hE i (by omega))
    have h := grw_min (f := fun x => hitTo E x i) hX (hit_upN E i fun t ht => hE t (by omega))
    unfold trTo
    rw [trTo_eq E i fun t ht => hE t (by omega), e, h]
    congr 2
    funext x
    show _ = (hitTo E x i && hitI (E.getD i 0) (x : Int))
    rw [e]
end Go.Proofs.Ytbbbdabmbiggkaa
namespace Go.Proofs.Ytbbbdabmbiggkaa
open Go.RowKit

def difB (q : Nat) (x : Int) : Bool := bits .and .i64 (x / 2 ^ q) 1 == 0
def difV (c q : Nat) (x : Int) : Int := bits .andNot .i64 (bits .andNot .i64 (2 ^ c - 1) x) (2 ^ q)
def difTo (c q : Nat) (l : List Int) : Nat → List Int
  | 0 => []
  | i + 1 => if difB q (l.getD i 0) = true then put4 (difTo c q l i) (difV c q (l.getD i 0)) else difTo c q l i
def difS (c : Int) (ll : List (List Int)) (m q : Int) : List Int := if 0 ≤ q ∧ q ≤ c - 1 then difTo c.toNat q.toNat (agrS c ll m) (agrS c ll m).length else []
theorem difTo_len (c q : Nat) (l : List Int) (i : Nat) : (difTo c q l i).length ≤ i := by
  induction i with
  | zero => simp [difTo]
  | succ i ih => have := put4_len (difTo c q l i) (difV c q (l.getD i 0)); unfold difTo; split <;> omega
theorem keep2 {w0 w w' : World} {p q : Addr} {a b : Value} (h : w.cell? p = some a ∧ w.cell? q = some b ∧ Below w0.heap.size w0 w) (k : Below w.heap.size w w') : w'.cell? p = some a ∧ w'.cell? q = some b ∧ Below w0.heap.size w0 w' :=
  ⟨(k.cell (World.block_lt_of_cell? w _ h.1)).trans h.1, (k.cell (World.block_lt_of_cell? w _ h.2.1)).trans h.2.1, h.2.2.trans (k.mono h.2.2.size)⟩
theorem agrS_fine {c m : Int} {ll : List (List Int)} (h : 0 < (agrS c ll m).length) : 1 ≤ c ∧ c ≤ 5 := by
  unfold agrS at h
  split at h
  · rename_i hf
    have hT : isT c ll = true := by unfold fineT at hf; simp at hf; exact hf.1
    exact ⟨(isT_bd hT).1, (isT_bd hT).2.1⟩
  · simp at h
theorem wrap_pow (j : Nat) (hj : j ≤ 4) : wrap64 (2 ^ j) = 2 ^ j := by
  refine IntWalk.wrap64_in _ ?_
  rcases (show j = 0 ∨ j = 1 ∨ j = 2 ∨ j = 3 ∨ j = 4 by omega) with rfl | rfl | rfl | rfl | rfl <;> decide
set_option maxHeartbeats 3200000 in
theorem differenceSets_any (c m q : Int) (v : Value) (ll : List (List Int)) (w : World) (hr : ReadSS w v ll) (hl : ll.length ≤ 1048576) (ht : ∀ i, i < ll.length → (ll.getD i []).length ≤ 1048576) :
    Calls Try.prog 31 #[.agg #[.int .i64 c, v], .int .i64 m, .int .i64 q] w (RetI (difS c ll m q) w) := by
  have hb1 := (Below.refl w.heap.size w).alloc (Nat.le_refl _) (.cells #[.int .i64 c, v] 34)
  have HAS := Lib.hid (fun w' (hb : Below w.heap.size w w') => agreeSets_any c m v ll w' (hr.kept hb) hl ht)
  obtain ⟨a, cap, rfl, -⟩ := hr
  clear ht
  have hle := agrS_len c ll m
  have HFI := Lib.hid (agrS_fine (c := c) (ll := ll) (m := m))
  have HD : Hid (difS c ll m q = if 0 ≤ q ∧ q ≤ c - 1 then difTo c.toNat q.toNat (agrS c ll m) (agrS c ll m).length else []) := Lib.hid rfl
  obtain ⟨A, hA⟩ : ∃ A, A = agrS c ll m := ⟨_, rfl⟩
  rw [← hA] at HAS hle HFI HD
  clear hA
  go_enter Try.func31, Try.ntmps31
  have hb2 := hb1.alloc hb1.size (.cells #[] 3)
  have hbb : Below (w.alloc (.cells #[.int .i64 c, .slice a ll.length cap] 34)).heap.size (w.alloc (.cells #[.int .i64 c, .slice a ll.length cap] 34)) ((w.alloc (.cells #[.int .i64 c, .slice a ll.length cap] 34)).alloc (.cells #[] 3)) := (Below.refl _ _).alloc (Nat.le_refl _) _
  have hmk : OwnI ((w.alloc (.cells #[.int .i64 c, .slice a ll.length cap] 34)).alloc (.cells #[] 3)) w.heap.size (.slice (some ⟨w.heap.size + 1, 0, none⟩) 0 0) [] := by
    have h := OwnI.made (World.ownsRow_made (base := w.heap.size) (e := 3) (size := 1) (w.alloc (.cells #[.int .i64 c, .slice a ll.length cap] 34)) #[] 0 (by simp) (by unfold maxLen; omega) rfl)
    rwa [World.size_alloc] at h
  obtain ⟨c0, c1⟩ := box2 hbb
  go_wp2_with fail
  refine (HAS.out _ hb2).mono ?_
  rintro e w2 ⟨va, rfl, oa, b2⟩
  have ho2 := hmk.kept b2 (fun k hk => (OwnI.lt hmk k hk).2)
  have hbb2 := hbb.trans (b2.mono hbb.size)
  have hbw2 := hb2.trans (b2.mono hb2.size)
  obtain ⟨d0, d1⟩ := box2 hbb2
  obtain ⟨aa, acap, rfl, haa⟩ := oa.read
  have HAA := Lib.hid haa
  have HB0 := Lib.hid d0
  clear hmk hb2 hbb b2 oa c0 c1 haa d1 hb1 hbb2
  by_cases hA0 : A.length = 0
  · obtain rfl := List.eq_nil_of_length_eq_zero hA0
    clear hA0
    have HE : Hid (difS c ll m q = []) := Lib.hid (by rw [HD.out]; split <;> rfl)
    go_wp2_with fail
    refine wp_loop_rounds 1 ?_
    rw [rounds_succ]
    go_wp2_with fail
    go_ret
    exact ⟨_, rfl, by rw [HE.out]; exact ho2, hbw2⟩
  · obtain ⟨hc1, hc5⟩ := HFI.out (by omega)
    obtain ⟨C, rfl⟩ : ∃ C : Nat, c = (C : Int) := ⟨c.toNat, by omega⟩
    have hwc : IntKind.i64.wrap ((C : Int) - 1) = (C : Int) - 1 := by rw [IntKind.wrap_i64]; omega
    have hA1 : 0 < A.length := by omega
    have HIN := Lib.hid (fun w' => in_any q 0 ((C : Int) - 1) w')
    by_cases hq : 0 ≤ q ∧ q ≤ (C : Int) - 1
    · rw [decide_eq_true hq] at HIN
      have HE : Hid (difS (C : Int) ll m q = difTo C q.toNat A A.length) := Lib.hid (by rw [HD.out, if_pos hq]; rfl)
      obtain ⟨Q, rfl⟩ : ∃ Q : Nat, q = (Q : Int) := ⟨q.toNat, by omega⟩
      rw [show ((Q : Int)).toNat = Q by omega] at HE
      have hQ4 : Q ≤ 4 := by omega
      clear hq hA0 HD
      go_wp2_with fail
      go_loopw [7, 9] (fun ov iv wr => ∃ i : Nat, i ≤ A.length ∧ iv = .int .i64 (i : Int) ∧ OwnI wr w.heap.size ov (difTo C Q A i) ∧ Below w2.heap.size w2 wr) (fun _ iv _ => A.length - (intOf iv).toNat)
      case atStart => exact ⟨0, by omega, rfl, ho2, Below.refl _ _⟩
      case round =>
        obtain ⟨i, hi, rfl, ho, hb⟩ := hrel
        have hbw := hbw2.trans (hb.mono hbw2.size)
        have e0 := (hb.cell (World.block_lt_of_cell? w2 _ HB0.out)).trans HB0.out
        by_cases hlt : i < A.length
        · have hd : decide ((i : Int) < (A.length : Int)) = true := decide_eq_true (by omega)
          have HS : Hid (difTo C Q A (i + 1) = if difB Q (A.getD i 0) = true then put4 (difTo C Q A i) (difV C Q (A.getD i 0)) else difTo C Q A i) := Lib.hid rfl
          obtain ⟨xa, rfl, hxi⟩ := HAA.out i hlt
          rw [get_getD A i hlt] at hxi
          obtain ⟨x, hx⟩ : ∃ x, x = A.getD i 0 := ⟨_, rfl⟩
          have hol := difTo_len C Q A i
          obtain ⟨lc, hlc⟩ : ∃ lc, lc = difTo C Q A i := ⟨_, rfl⟩
          rw [← hlc] at HS ho hol
          rw [← hx] at HS hxi
          have hxw := (hb.cell (World.block_lt_of_cell? w2 _ hxi)).trans hxi
          have i0 : (0 : Int) ≤ (i : Int) := by omega
          have i1 : (i : Int) < (A.length : Int) := by omega
          clear hx hxi hlc
          cases hdb : difB Q x with
          | false =>
            rw [if_neg (by rw [hdb]; simp)] at HS
            have hdb2 : (bits .and .i64 (x / 2 ^ Q) 1 == 0) = false := hdb
            clear hdb
            go_wp2_with fail
            refine (HIN.out _).mono ?_
            rintro e w' ⟨rfl, rfl⟩
            go_wp2_with fail
            go_roundw
            case rel => exact ⟨i + 1, by omega, by go_num, by rw [HS.out]; exact ho, hb⟩
            case measure => simp [intOf]; omega
          | true =>
            rw [if_pos hdb] at HS
            have hdb2 : (bits .and .i64 (x / 2 ^ Q) 1 == 0) = true := hdb
            have HALL := Lib.hid (fun w' => all_any (C : Int) w' (by omega) (by omega))
            have HS0 := Lib.hid (show (fun w' => w'.cell? ⟨w.heap.size, 0, none⟩ = some (.int .i64 (C : Int)) ∧ w'.cell? (xa.add i) = some (.int .i64 x) ∧ Below wr.heap.size wr w') wr.drew from ⟨e0, hxw, (Below.refl _ _).drew⟩)
            clear hdb
            go_wp2_with fail
            refine (HIN.out _).mono ?_
            rintro e w' ⟨rfl, rfl⟩
            go_wp2_with fail
            refine wp_region_noPanic ?_
            refine wp_region_held_drew (S := (fun w' => w'.cell? ⟨w.heap.size, 0, none⟩ = some (.int .i64 (C : Int)) ∧ w'.cell? (xa.add i) = some (.int .i64 x) ∧ Below wr.heap.size wr w')) (by kernel_rfl) ?_ (fun hHeld => ?_)
            · ((try dsimp only); (first | exact hS | exact hHeld | exact HS0.out))
            refine wpAnyH_take (i := 0) (v := ?_) rfl (by kernel_rfl) (by kernel_rfl) (by kernel_rfl) (fun _ _ _ h => h) (Or.inl ⟨by rfl, ?_⟩) (by assumption) ?_
            rotate_left
            · (intro w hSw; (try dsimp only at hSw); go_simp; (try with_reducible rfl))
            (try simp only [Act.put, List.getElem_toArray, List.getElem_cons_zero, List.setIfInBounds_toArray, List.set_cons_zero, List.set_cons_succ])
            refine wpAnyH_take (i := 1) (v := ?_) rfl (by kernel_rfl) (by kernel_rfl) (by kernel_rfl) (fun _ _ _ h => h) (Or.inl ⟨by rfl, ?_⟩) (by assumption) ?_
            rotate_left
            · (intro w hSw; (try dsimp only at hSw); go_simp; (try with_reducible rfl))
            (try simp only [Act.put, List.getElem_toArray, List.getElem_cons_succ, List.getElem_cons_zero, List.setIfInBounds_toArray, List.set_cons_zero, List.set_cons_succ])
            refine wpAnyH_take (i := 2) (v := ?_) rfl (by kernel_rfl) (by kernel_rfl) (by kernel_rfl) (fun _ _ _ h => h) (Or.inl ⟨by rfl, ?_⟩) (by assumption) ?_
            rotate_left
            · (intro w hSw; (try dsimp only at hSw); go_simp; (try with_reducible rfl))
            (try simp only [Act.put, List.getElem_toArray, List.getElem_cons_succ, List.getElem_cons_zero, List.setIfInBounds_toArray, List.set_cons_zero, List.set_cons_succ])
            refine wpAnyH_take (i := 4) (v := ?_) rfl (by kernel_rfl) (by kernel_rfl) (by kernel_rfl) (fun _ _ _ h => h) (Or.inl ⟨by rfl, ?_⟩) (by assumption) ?_
            rotate_left
            · (intro w hSw; (try dsimp only at hSw); go_simp; (try with_reducible rfl))
            (try simp only [Act.put, List.getElem_toArray, List.getElem_cons_succ, List.getElem_cons_zero, List.setIfInBounds_toArray, List.set_cons_zero, List.set_cons_succ])
            refine wpAnyH_take (i := 5) (v := ?_) rfl (by kernel_rfl) (by kernel_rfl) (by kernel_rfl) (fun _ _ _ h => h) (Or.inl ⟨by rfl, ?_⟩) (by assumption) ?_
            rotate_left
            · (intro w hSw; (try dsimp only at hSw); go_simp; (try with_reducible rfl))
            (try simp only [Act.put, List.getElem_toArray, List.getElem_cons_succ, List.getElem_cons_zero, List.setIfInBounds_toArray, List.set_cons_zero, List.set_cons_succ])
            refine wpAnyH_take (i := 6) (v := ?_) rfl (by kernel_rfl) (by kernel_rfl) (by kernel_rfl) (fun _ _ _ h => h) (Or.inl ⟨by rfl, ?_⟩) (by assumption) ?_
            rotate_left
            · (intro w hSw; (try dsimp only at hSw); go_simp; (try with_reducible rfl))
            (try simp only [Act.put, List.getElem_toArray, List.getElem_cons_succ, List.getElem_cons_zero, List.setIfInBounds_toArray, List.set_cons_zero, List.set_cons_succ])
            refine wpAnyH_take (i := 7) (v := ?_) rfl (by kernel_rfl) (by kernel_rfl) (by kernel_rfl) (fun _ _ _ h => h) (Or.inl ⟨by rfl, ?_⟩) (by assumption) ?_
            rotate_left
            · (intro w hSw; (try dsimp only at hSw); go_simp; (try with_reducible rfl))
            (try simp only [Act.put, List.getElem_toArray, List.getElem_cons_succ, List.getElem_cons_zero, List.setIfInBounds_toArray, List.set_cons_zero, List.set_cons_succ])
            refine wpAnyH_take (i := 9) (v := ?_) rfl (by kernel_rfl) (by kernel_rfl) (by kernel_rfl) (fun _ _ _ h => h) (Or.inl ⟨by rfl, ?_⟩) (by assumption) ?_
            rotate_left
            · (intro w hSw; (try dsimp only at hSw); go_simp; (try with_reducible rfl))
            (try simp only [Act.put, List.getElem_toArray, List.getElem_cons_succ, List.getElem_cons_zero, List.setIfInBounds_toArray, List.set_cons_zero, List.set_cons_succ])
            refine wpAnyH_take (i := 10) (v := ?_) rfl (by kernel_rfl) (by kernel_rfl) (by kernel_rfl) (fun _ _ _ h => h) (Or.inl ⟨by rfl, ?_⟩) (by assumption) ?_
            rotate_left
            · (intro w hSw; (try dsimp only at hSw); go_simp; (try with_reducible rfl))
            (try simp only [Act.put, List.getElem_toArray, List.getElem_cons_succ, List.getElem_cons_zero, List.setIfInBounds_toArray, List.set_cons_zero, List.set_cons_succ])
            refine wpAnyH_ready (rs := [3]) (by kernel_rfl) (by simp) (AllReadyH.cons rfl (fun K hK => ?_) AllReadyH.nil)
            (first | ((first | (go_at_call 42; refine (HALL.out _).mono ?_; rintro e w' ⟨rfl, rfl⟩) | (go_at_call 47; refine (l4Put_any _ _ _ w.heap.size _ (ho.kept hHeld.2.2 (fun k hk => (OwnI.lt ho k hk).2)) (Nat.le_trans hbw.size hHeld.2.2.size) (by omega)).mono ?_; rintro e w4 ⟨v4, rfl, ho4, b4⟩; have hS := keep2 hHeld b4))) | (go_simp; (first | (go_at_call 42; refine (HALL.out _).mono ?_; rintro e w' ⟨rfl, rfl⟩) | (go_at_call 47; refine (l4Put_any _ _ _ w.heap.size _ (ho.kept hHeld.2.2 (fun k hk => (OwnI.lt ho k hk).2)) (Nat.le_trans hbw.size hHeld.2.2.size) (by omega)).mono ?_; rintro e w4 ⟨v4, rfl, ho4, b4⟩; have hS := keep2 hHeld b4))))
            (try (go_wp2_with fail))
            refine hK.out _ _ ?_ (fun hHeld => ?_)
            · ((try dsimp only); (first | exact hS | exact hHeld | exact HS0.out))
            clear hK K
            (try simp only [Act.put, List.getElem_toArray, List.getElem_cons_succ, List.getElem_cons_zero, List.setIfInBounds_toArray, List.set_cons_zero, List.set_cons_succ])
            refine wpAnyH_take (i := 8) (v := ?_) rfl (by kernel_rfl) (by kernel_rfl) (by kernel_rfl) (fun _ _ _ h => h) (Or.inl ⟨by rfl, ?_⟩) (by assumption) ?_
            rotate_left
            · (intro w hSw; (try dsimp only at hSw); go_simp; (try with_reducible rfl))
            (try simp only [Act.put, List.getElem_toArray, List.getElem_cons_succ, List.getElem_cons_zero, List.setIfInBounds_toArray, List.set_cons_zero, List.set_cons_succ])
            refine wpAnyH_take (i := 11) (v := ?_) rfl (by kernel_rfl) (by kernel_rfl) (by kernel_rfl) (fun _ _ _ h => h) (Or.inl ⟨by rfl, ?_⟩) (by assumption) ?_
            rotate_left
            · (intro w hSw; (try dsimp only at hSw); go_simp; (try with_reducible rfl))
            (try simp only [Act.put, List.getElem_toArray, List.getElem_cons_succ, List.getElem_cons_zero, List.setIfInBounds_toArray, List.set_cons_zero, List.set_cons_succ])
            refine wpAnyH_ready (rs := [12]) (by kernel_rfl) (by simp) (AllReadyH.cons rfl (fun K hK => ?_) AllReadyH.nil)
            (first | ((first | (go_at_call 42; refine (HALL.out _).mono ?_; rintro e w' ⟨rfl, rfl⟩) | (go_at_call 47; refine (l4Put_any _ _ _ w.heap.size _ (ho.kept hHeld.2.2 (fun k hk => (OwnI.lt ho k hk).2)) (Nat.le_trans hbw.size hHeld.2.2.size) (by omega)).mono ?_; rintro e w4 ⟨v4, rfl, ho4, b4⟩; have hS := keep2 hHeld b4))) | (go_simp; (first | (go_at_call 42; refine (HALL.out _).mono ?_; rintro e w' ⟨rfl, rfl⟩) | (go_at_call 47; refine (l4Put_any _ _ _ w.heap.size _ (ho.kept hHeld.2.2 (fun k hk => (OwnI.lt ho k hk).2)) (Nat.le_trans hbw.size hHeld.2.2.size) (by omega)).mono ?_; rintro e w4 ⟨v4, rfl, ho4, b4⟩; have hS := keep2 hHeld b4))))
            (try (go_wp2_with fail))
            refine hK.out _ _ ?_ (fun hHeld => ?_)
            · ((try dsimp only); (first | exact hS | exact hHeld | exact HS0.out))
            clear hK K
            (try simp only [Act.put, List.getElem_toArray, List.getElem_cons_succ, List.getElem_cons_zero, List.setIfInBounds_toArray, List.set_cons_zero, List.set_cons_succ])
            refine wpAnyH_take (i := 13) (v := ?_) rfl (by kernel_rfl) (by kernel_rfl) (by kernel_rfl) (fun _ _ _ h => h) (Or.inl ⟨by rfl, ?_⟩) (by assumption) ?_
            rotate_left
            · (intro w hSw; (try dsimp only at hSw); go_simp; (try with_reducible rfl))
            (try simp only [Act.put, List.getElem_toArray, List.getElem_cons_succ, List.getElem_cons_zero, List.setIfInBounds_toArray, List.set_cons_zero, List.set_cons_succ])
            refine wpAnyH_done (by kernel_rfl) ?_ _
            refine NoPanic.normal ?_
            go_wp2_with fail
            go_roundw
            case rel => exact ⟨i + 1, by omega, by go_num, by rw [HS.out]; exact cast (by rw [difV, IntWalk.i64_left, wrap_pow Q hQ4]) ho4, hb.trans (hHeld.2.2.mono hb.size)⟩
            case measure => simp [intOf]; omega
        · obtain rfl : i = A.length := by omega
          have hd2 : ¬ A.length < A.length := by omega
          go_wp2_with fail
          go_ret
          exact ⟨_, rfl, by rw [HE.out]; exact ho, hbw⟩
    · rw [decide_eq_false hq] at HIN
      have HE : Hid (difS (C : Int) ll m q = []) := Lib.hid (by rw [HD.out, if_neg hq])
      clear hq hA0 HD
      go_wp2_with fail
      refine wp_loop_rounds 1 ?_
      rw [rounds_succ]
      go_wp2_with fail
      refine (HIN.out _).mono ?_
      rintro e w' ⟨rfl, rfl⟩
      go_wp2_with fail
      go_ret
      exact ⟨_, rfl, by rw [HE.out]; exact ho2, hbw2⟩
end Go.Proofs.Ytbbbdabmbiggkaa
