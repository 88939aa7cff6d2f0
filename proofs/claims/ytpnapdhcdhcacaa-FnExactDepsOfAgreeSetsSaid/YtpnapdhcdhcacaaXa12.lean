/- Texts of this claim, merged: ImA, CovE, ClB, ClH, ClV. Conditions: as stated. -/
import Derived.Test.YtpnapdhcdhcacaaXa3
import Derived.Test.YtpnapdhcdhcacaaXa11
import Derived.Test.YtpnapdhcdhcacaaXa9
namespace Go.Proofs.Ytpnapdhcdhcacaa
open Go.RowKit

theorem bits_andNot (a b : Int) : bits .andNot .i64 a b = IntKind.i64.wrap ((BitVec.ofInt 64 a &&& ~~~BitVec.ofInt 64 b).toNat : Int) := rfl
theorem bits_and (a b : Int) : bits .and .i64 a b = IntKind.i64.wrap ((BitVec.ofInt 64 a &&& BitVec.ofInt 64 b).toNat : Int) := rfl
theorem bv_part (x y : BitVec 64) : (x &&& ~~~y = 0#64) ↔ (x &&& y = x) := by
  constructor
  · intro h
    apply BitVec.eq_of_getLsbD_eq
    intro i hi
    have h2 : (x &&& ~~~y).getLsbD i = (0#64).getLsbD i := by rw [h]
    simp [hi] at h2 ⊢
    intro hx; exact h2 hx
  · intro h
    rw [← h, BitVec.and_assoc]
    simp
theorem wrap_nat_zero (n : Nat) (h : n < 2 ^ 64) : (IntKind.i64.wrap (n : Int) = 0) ↔ n = 0 := by
  rw [IntKind.wrap_i64]; omega
theorem bv_zero (x : BitVec 64) : (IntKind.i64.wrap (x.toNat : Int) = 0) ↔ x = 0#64 := by
  rw [wrap_nat_zero _ x.isLt]
  constructor
  · intro h; exact BitVec.eq_of_toNat_eq (by simpa using h)
  · intro h; rw [h]; rfl
theorem bv_self (v : BitVec 64) (x : Int) (h0 : -9223372036854775808 ≤ x) (h1 : x ≤ 9223372036854775807) : (IntKind.i64.wrap (v.toNat : Int) = x) ↔ v = BitVec.ofInt 64 x := by
  rw [IntKind.wrap_i64]
  have e := BitVec.toNat_ofInt (n := 64) x
  have l := v.isLt
  constructor
  · intro h
    apply BitVec.eq_of_toNat_eq
    rw [e]; omega
  · intro h
    rw [h, e]; omega
/-- 'x &^ y == 0': the same as 'x & y == x'. -/
def partZ (x y : Int) : Bool := bits .andNot .i64 x y == 0
theorem partZ_eq (x y : Int) (h0 : -9223372036854775808 ≤ x) (h1 : x ≤ 9223372036854775807) : partZ x y = (bits .and .i64 x y == x) := by
  unfold partZ
  rw [Bool.eq_iff_iff, beq_iff_eq, beq_iff_eq, bits_andNot, bits_and, bv_zero, bv_self _ x h0 h1, bv_part]
theorem and_mask (n : Nat) (hn : n < 63) (x : Int) : bits .and .i64 x (2 ^ n - 1) = x % 2 ^ n := by
  have p1 : (2 : Nat) ^ n < 2 ^ 63 := Nat.pow_lt_pow_right (by omega) hn
  have p0 : 0 < (2 : Nat) ^ n := Nat.pow_pos (by omega)
  have hc : ((2 : Int) ^ n) = ((2 ^ n : Nat) : Int) := by rw [Int.natCast_pow]; rfl
  have h : (BitVec.ofInt 64 (2 ^ n - 1)).toNat = 2 ^ n - 1 := by
    rw [BitVec.toNat_ofInt, hc]; omega
  have key : (BitVec.ofInt 64 x &&& BitVec.ofInt 64 (2 ^ n - 1)).toNat = (x % ((2 ^ 64 : Nat) : Int)).toNat % 2 ^ n := by
    rw [BitVec.toNat_and, BitVec.toNat_ofInt, h, Nat.and_two_pow_sub_one_eq_mod]
  rw [bits_and, key, IntKind.wrap_i64, hc]
  have hd : ((2 ^ n : Nat) : Int) ∣ ((2 ^ 64 : Nat) : Int) := by
    rw [show 64 = n + (64 - n) by omega, Nat.pow_add, Int.natCast_mul]; exact Int.dvd_mul_right _ _
  have e : (((x % ((2 ^ 64 : Nat) : Int)).toNat % 2 ^ n : Nat) : Int) = x % ((2 ^ n : Nat) : Int) := by
    rw [Int.natCast_emod, Int.toNat_of_nonneg (Int.emod_nonneg _ (by decide)), Int.emod_emod_of_dvd _ hd]
  rw [e]
  have q0 := Int.emod_nonneg x (b := ((2 ^ n : Nat) : Int)) (by omega)
  have q1 := Int.emod_lt_of_pos x (b := ((2 ^ n : Nat) : Int)) (by omega)
  omega
theorem partZ_first (n : Nat) (hn : n ≤ 5) (x : Int) (h0 : -9223372036854775808 ≤ x) (h1 : x ≤ 9223372036854775807) : partZ x (2 ^ n - 1) = decide (0 ≤ x ∧ x ≤ 2 ^ n - 1) := by
  rw [partZ_eq x _ h0 h1, and_mask n (by omega), Bool.eq_iff_iff, beq_iff_eq, decide_eq_true_iff]
  have p0 : 0 < (2 : Nat) ^ n := Nat.pow_pos (by omega)
  have hc : ((2 : Int) ^ n) = ((2 ^ n : Nat) : Int) := by rw [Int.natCast_pow]; rfl
  rw [hc]
  constructor
  · intro h
    have q0 := Int.emod_nonneg x (b := ((2 ^ n : Nat) : Int)) (by omega)
    have q1 := Int.emod_lt_of_pos x (b := ((2 ^ n : Nat) : Int)) (by omega)
    omega
  · rintro ⟨a, b⟩; exact Int.emod_eq_of_lt a (by omega)
theorem partZ_31 (x : Int) (h0 : -9223372036854775808 ≤ x) (h1 : x ≤ 9223372036854775807) : partZ x 31 = valB x := partZ_first 5 (by omega) x h0 h1

theorem partOf_any (x y : Int) (w : World) :
    Calls Try.prog 87 #[.int .i64 x, .int .i64 y] w fun e w' => e = .returned (.bool (partZ x y)) ∧ w = w' := by
  go_enter Try.func87, Try.ntmps87
  go_wp2_with fail
  go_ret
  exact ⟨rfl, rfl⟩
theorem colCount_any (n : Int) (w : World) :
    Calls Try.prog 60 #[.int .i64 n] w fun e w' => e = .returned (.bool (decide (0 ≤ n ∧ n ≤ 5))) ∧ w = w' := by
  by_cases h1 : 0 ≤ n <;> by_cases h2 : n ≤ 5
  all_goals
    go_enter Try.func60, Try.ntmps60
    go_wp2
    go_ret
    exact ⟨by simp [h1, h2], rfl⟩
theorem first_any (n : Int) (w : World) (h0 : 0 ≤ n) (h1 : n ≤ 5) :
    Calls Try.prog 68 #[.int .i64 n] w fun e w' => e = .returned (.int .i64 (2 ^ n.toNat - 1)) ∧ w = w' := by
  rcases (show n = 0 ∨ n = 1 ∨ n = 2 ∨ n = 3 ∨ n = 4 ∨ n = 5 by omega) with rfl | rfl | rfl | rfl | rfl | rfl
  all_goals
    go_enter Try.func68, Try.ntmps68
    go_wp2
    go_ret
    exact ⟨rfl, rfl⟩
/-- The number of ones. -/
theorem ones_any (X : Fin 32) (w : World) :
    Calls Try.prog 124 #[.int .u64 ((X.val : Nat) : Int)] w fun e w' => e = .returned (.int .i64 (cnt ((X.val : Nat) : Int) : Int)) ∧ w = w' := by
  go_enter Try.func124, Try.ntmps124
  go_wp2_with fail
  go_ret
  refine ⟨ret_int ?_, rfl⟩
  revert X
  decide +kernel
theorem onesCount_any (X : Nat) (h : X < 32) (w : World) :
    Calls Try.prog 122 #[.int .u64 (X : Int)] w fun e w' => e = .returned (.int .i64 (cnt (X : Int) : Int)) ∧ w = w' := by
  go_enter Try.func122, Try.ntmps122
  go_wp2_with fail
  refine (ones_any ⟨X, h⟩ _).mono ?_
  rintro e w' ⟨rfl, rfl⟩
  go_wp2_with fail
  go_ret
  exact ⟨rfl, rfl⟩
theorem size_any (X : Nat) (h : X < 32) (w : World) :
    Calls Try.prog 121 #[.int .i64 (X : Int)] w fun e w' => e = .returned (.int .i64 (cnt (X : Int) : Int)) ∧ w = w' := by
  go_enter Try.func121, Try.ntmps121
  go_wp2_with fail
  refine (onesCount_any X h _).mono ?_
  rintro e w' ⟨rfl, rfl⟩
  go_wp2_with fail
  go_ret
  exact ⟨rfl, rfl⟩
theorem has_any (X k : Nat) (hk : k ≤ 62) (w : World) :
    Calls Try.prog 73 #[.int .i64 (X : Int), .int .i64 (k : Int)] w fun e w' => e = .returned (.bool (bitB X k)) ∧ w = w' := by
  have hb : (bits BinOp.and IntKind.i64 ((X : Int) / 2 ^ k) 1 != 0) = bitB X k := by
    rw [← bit_test, i64_and_1, Bool.eq_iff_iff, bne_iff_ne, beq_iff_eq]; omega
  go_enter Try.func73, Try.ntmps73
  go_wp2_with fail
  go_ret
  exact ⟨rfl, rfl⟩
theorem implIsA_any (n x : Int) (h0 : -9223372036854775808 ≤ x) (h1 : x ≤ 9223372036854775807) (w : World) :
    Calls Try.prog 59 #[.int .i64 n, .int .i64 x] w fun e w' => e = .returned (.bool (isA n x)) ∧ Below w.heap.size w w' := by
  by_cases hn : 0 ≤ n ∧ n ≤ 5
  · have hd : decide (0 ≤ n ∧ n ≤ 5) = true := by simp [hn]
    have HZ : Hid (isA n x = partZ x (2 ^ n.toNat - 1)) := Lib.hid (by rw [partZ_first n.toNat (by omega) x h0 h1]; unfold isA; simp [hn])
    go_enter Try.func59, Try.ntmps59
    go_wp2_with fail
    refine (colCount_any _ _).mono ?_
    rintro e w' ⟨rfl, rfl⟩
    go_wp2_with fail
    refine (first_any _ _ hn.1 hn.2).mono ?_
    rintro e w' ⟨rfl, rfl⟩
    go_wp2_with fail
    refine (partOf_any _ _ _).mono ?_
    rintro e w' ⟨rfl, rfl⟩
    go_wp2_with fail
    go_ret
    exact ⟨ret_b HZ.out, Below.refl _ _⟩
  · have hd : decide (0 ≤ n ∧ n ≤ 5) = false := by simp only [hn, decide_false]
    go_enter Try.func59, Try.ntmps59
    go_wp2_with fail
    refine (colCount_any _ _).mono ?_
    rintro e w' ⟨rfl, rfl⟩
    go_wp2_with fail
    go_ret
    exact ⟨ret_b (by unfold isA; simp only [hn, false_and, decide_false]), Below.refl _ _⟩
end Go.Proofs.Ytpnapdhcdhcacaa
namespace Go.Proofs.Ytpnapdhcdhcacaa
open Go.RowKit

theorem filter_next {α : Type} (p : α → Bool) (l : List α) (d : α) (k : Nat) (h : k < l.length) : (l.take (k + 1)).filter p = if p (l.getD k d) = true then (l.take k).filter p ++ [l.getD k d] else (l.take k).filter p := by
  rw [take_succ_getD l d k h, List.filter_append]
  by_cases hp : p (l.getD k d) = true
  · rw [if_pos hp, List.filter_cons_of_pos hp]; rfl
  · rw [if_neg hp, List.filter_cons_of_neg hp]
    simp
theorem mdIn_filter (f : Int → Nat → Bool) (ps : List Int) (r : Nat) (l0 : List (Int × Int)) : ∀ n, n ≤ ps.length → mdIn f ps r l0 n = l0 ++ ((ps.take n).filter (fun S => f S r)).map (fun S => (S, (r : Int)))
  | 0, _ => by simp [mdIn]
  | n + 1, h => by
    have ih := mdIn_filter f ps r l0 n (by omega)
    have e := filter_next (fun S => f S r) ps 0 n h
    unfold mdIn
    by_cases hf : f (ps.getD n 0) r = true
    · rw [if_pos hf] at e
      rw [if_pos hf, e, ih, List.map_append, ← List.append_assoc]; rfl
    · rw [if_neg hf] at e
      rw [if_neg hf, e, ih]
theorem mdOut_succ (f : Int → Nat → Bool) (ps : List Int) (r : Nat) : mdOut f ps (r + 1) = mdOut f ps r ++ (ps.filter (fun S => f S r)).map (fun S => (S, (r : Int))) := by
  have h := mdIn_filter f ps r (mdOut f ps r) ps.length (Nat.le_refl _)
  rw [List.take_length] at h
  exact h
theorem mdOut_filter (f : Int → Nat → Bool) (q : Int × Int → Bool) (ps : List Int) : ∀ C, (mdOut f ps C).filter q = mdOut (fun S r => f S r && q (S, (r : Int))) ps C
  | 0 => rfl
  | C + 1 => by
    rw [mdOut_succ, mdOut_succ, List.filter_append, mdOut_filter f q ps C, List.filter_map, List.filter_filter]
    congr 2
    exact List.filter_congr fun S _ => Bool.and_comm _ _
/-- e says no more than d. -/
def covB (e d : Int × Int) : Bool := decide (e.2 = d.2) && partZ e.1 d.1
/-- Whether a different one of the list covers d. -/
def unB (l : List (Int × Int)) (d : Int × Int) : Bool := l.any fun e => !decide (e = d) && covB e d
def uncL (l : List (Int × Int)) : List (Int × Int) := l.filter fun d => !unB l d
def candL (C : Nat) : List (Int × Int) := mdOut (fun S r => !bitB S.toNat r) (parts (C : Int)) C
theorem part_sub (a b : Nat) (ha : a < 32) (hb : b < 32) : partZ (a : Int) (b : Int) = subN a b := by
  have h : ∀ a b : Fin 32, partZ ((a.val : Nat) : Int) ((b.val : Nat) : Int) = subN a.val b.val := by decide +kernel
  exact h ⟨a, ha⟩ ⟨b, hb⟩
/-- The dependencies of a filtered list of candidates that no other one covers. -/
theorem unc_low {C : Nat} (hC : C ≤ 5) (g : Int × Int → Bool) :
    uncL ((candL C).filter g) = mdOut (fun S r => decide (S ∈ minS (fltTo (fun S => !bitB S.toNat r && g (S, (r : Int))) (parts (C : Int)) (parts (C : Int)).length))) (parts (C : Int)) C := by
  have h32 := two5 hC
  have hl : (candL C).filter g = mdOut (fun S r => !bitB S.toNat r && g (S, (r : Int))) (parts (C : Int)) C := mdOut_filter _ _ _ _
  have key : ∀ l, l = mdOut (fun S r => !bitB S.toNat r && g (S, (r : Int))) (parts (C : Int)) C →
      (mdOut (fun S r => !bitB S.toNat r && g (S, (r : Int))) (parts (C : Int)) C).filter (fun d => !unB l d) =
      mdOut (fun S r => decide (S ∈ minS (fltTo (fun S => !bitB S.toNat r && g (S, (r : Int))) (parts (C : Int)) (parts (C : Int)).length))) (parts (C : Int)) C := by
    intro l hll
    rw [mdOut_filter]
    refine mdOut_same _ fun S hS r hr => ?_
    obtain ⟨x, hx, rfl⟩ := (parts_mem hC S).1 hS
    obtain ⟨k1, k2⟩ := flt_small hC (fun S => !bitB S.toNat r && g (S, (r : Int)))
    have hmem : ∀ z : Nat, ((z : Int) ∈ fltTo (fun S => !bitB S.toNat r && g (S, (r : Int))) (parts (C : Int)) (parts (C : Int)).length ↔ z < 2 ^ C ∧ (!bitB z r && g ((z : Int), (r : Int))) = true) := by
      intro z
      rw [fltTo_mem]
      constructor
      · rintro ⟨t, t1, t2, t3⟩
        obtain ⟨z', z1, z2⟩ := (parts_mem hC _).1 (mem_getD.2 ⟨t, t1, t3⟩)
        obtain rfl : z = z' := by omega
        rw [← t3] at t2
        exact ⟨z1, t2⟩
      · rintro ⟨z1, z2⟩
        obtain ⟨t, t1, t2⟩ := mem_getD.1 ((parts_mem hC (z : Int)).2 ⟨z, z1, rfl⟩)
        exact ⟨t, t1, by rw [← t2]; exact z2, t2⟩
    have hml : ∀ z : Nat, z < 2 ^ C → (((z : Int), (r : Int)) ∈ l ↔ (!bitB z r && g ((z : Int), (r : Int))) = true) := by
      intro z hz
      rw [hll, mdOut_mem]
      constructor
      · rintro ⟨r', r1, S, r2, r3, r4⟩
        obtain ⟨e1, e2⟩ := Prod.mk.inj r4
        obtain rfl : r = r' := by omega
        subst e1
        exact r3
      · intro h
        exact ⟨r, hr, (z : Int), (parts_mem hC _).2 ⟨z, hz, rfl⟩, h, rfl⟩
    rw [Bool.eq_iff_iff, decide_eq_true_iff, minS_mem k1 k2 x, hmem x, Bool.and_eq_true, Bool.not_eq_true']
    show (_ ∧ _) ↔ _
    constructor
    · rintro ⟨h1, h2⟩
      refine ⟨⟨hx, h1⟩, fun z hz hs => Classical.byContradiction fun hne => ?_⟩
      obtain ⟨z1, z2⟩ := (hmem z).1 hz
      have : unB l ((x : Int), (r : Int)) = true := by
        unfold unB
        rw [List.any_eq_true]
        refine ⟨((z : Int), (r : Int)), (hml z z1).2 z2, ?_⟩
        rw [Bool.and_eq_true, Bool.not_eq_true']
        refine ⟨decide_eq_false fun e => hne (by have := (Prod.mk.inj e).1; omega), ?_⟩
        unfold covB
        simp only [decide_true, Bool.true_and]
        rw [part_sub z x (by omega) (by omega)]; exact hs
      rw [h2] at this
      cases this
    · rintro ⟨⟨-, h1⟩, h2⟩
      refine ⟨h1, Bool.eq_false_iff.2 fun h => ?_⟩
      unfold unB at h
      rw [List.any_eq_true] at h
      obtain ⟨e, he, h⟩ := h
      rw [Bool.and_eq_true, Bool.not_eq_true', decide_eq_false_iff_not] at h
      obtain ⟨hne, hc⟩ := h
      have he' := he
      rw [hll, mdOut_mem] at he'
      obtain ⟨r', r1, S, r2, r3, rfl⟩ := he'
      obtain ⟨z, hz, rfl⟩ := (parts_mem hC S).1 r2
      unfold covB at hc
      rw [Bool.and_eq_true, decide_eq_true_iff] at hc
      obtain ⟨e2, hp⟩ := hc
      simp only at e2 hp
      obtain rfl : r = r' := by omega
      rw [part_sub z x (by omega) (by omega)] at hp
      obtain rfl := h2 z ((hmem z).2 ⟨hz, (hml z hz).1 he⟩) hp
      exact hne rfl
  unfold uncL
  rw [hl]
  exact key _ rfl
theorem unc_min {C : Nat} {ll : List (List Int)} {m : Int} (hf : fineT (C : Int) ll m = true) (h1 : 1 ≤ C) (hC : C ≤ 5) :
    uncL ((candL C).filter (fun d => holdsD (C : Int) ll m d.1 d.2)) = minD C ll m := by
  rw [unc_low hC]
  unfold minD
  refine mdOut_same _ fun S hS r hr => ?_
  obtain ⟨x, hx, rfl⟩ := (parts_mem hC S).1 hS
  rw [Bool.eq_iff_iff, decide_eq_true_iff]
  show _ ↔ minN C ll m x r = true
  refine low_min hC hr (fun z hz => ?_) hx
  rw [Bool.and_eq_true, Bool.not_eq_true']
  have ho := okD_all (S := z) (R := r) hf h1 hC hz hr
  have h3 := holds_iff ho rfl rfl rfl hC hr
  rw [← h3]
  exact Iff.rfl
theorem unc_app {C : Nat} {ll : List (List Int)} {m rows : Int} (hC : C ≤ 5) :
    uncL ((candL C).filter (fun d => decide (remD (C : Int) ll m d.1 d.2 ≤ rows))) = appD C ll m rows := by
  rw [unc_low hC]
  rfl
/-- The greatest and the smallest sets hang on the members alone. -/
theorem maxS_ext {l l' : List Int} (h : setsOk l = true) (h' : setsOk l' = true) (he : ∀ y, y ∈ l ↔ y ∈ l') : maxS l = maxS l' := by
  unfold maxS
  rw [if_pos h, if_pos h']
  refine ascI_unique _ _ (mxTo_asc _ _) (mxTo_asc _ _) fun y => ?_
  have step : ∀ (a b : List Int), (∀ y, y ∈ a ↔ y ∈ b) → y ∈ mxTo a a.length → y ∈ mxTo b b.length := by
    intro a b hab hy
    rw [mxTo_mem] at hy ⊢
    obtain ⟨t, t1, t2, t3⟩ := hy
    obtain ⟨s, s1, s2⟩ := mem_getD.1 ((hab y).1 (mem_getD.2 ⟨t, t1, t2⟩))
    refine ⟨s, s1, s2, (topK_iff _ _ _).2 fun u hu => ?_⟩
    obtain ⟨v, v1, v2⟩ := mem_getD.1 ((hab _).2 (mem_getD.2 ⟨u, hu, rfl⟩))
    have := (topK_iff _ _ _).1 t3 v v1
    rw [← v2] at this
    exact this
  exact ⟨step _ _ he, step _ _ fun z => (he z).symm⟩
theorem minS_ext {l l' : List Int} (h : setsOk l = true) (h' : setsOk l' = true) (he : ∀ y, y ∈ l ↔ y ∈ l') : minS l = minS l' := by
  unfold minS
  rw [if_pos h, if_pos h']
  refine ascI_unique _ _ (mnTo_asc _ _) (mnTo_asc _ _) fun y => ?_
  have step : ∀ (a b : List Int), (∀ y, y ∈ a ↔ y ∈ b) → y ∈ mnTo a a.length → y ∈ mnTo b b.length := by
    intro a b hab hy
    rw [mnTo_mem] at hy ⊢
    obtain ⟨t, t1, t2, t3⟩ := hy
    obtain ⟨s, s1, s2⟩ := mem_getD.1 ((hab y).1 (mem_getD.2 ⟨t, t1, t2⟩))
    refine ⟨s, s1, s2, (lowK_iff _ _ _).2 fun u hu => ?_⟩
    obtain ⟨v, v1, v2⟩ := mem_getD.1 ((hab _).2 (mem_getD.2 ⟨u, hu, rfl⟩))
    have := (lowK_iff _ _ _).1 t3 v v1
    rw [← v2] at this
    exact this
  exact ⟨step _ _ he, step _ _ fun z => (he z).symm⟩
theorem parts_len32 {C : Nat} (hC : C ≤ 5) : (parts (C : Int)).length ≤ 32 := by
  have h2 : ∀ C : Fin 6, (parts ((C.val : Nat) : Int)).length ≤ 32 := by decide +kernel
  exact h2 ⟨C, by omega⟩
theorem filt_ok {C : Nat} (hC : C ≤ 5) (g : Int → Bool) : setsOk ((parts (C : Int)).filter g) = true := by
  have h32 := two5 hC
  unfold setsOk
  rw [Bool.and_eq_true, decide_eq_true_iff, List.all_eq_true]
  refine ⟨fun y hy => ?_, ?_⟩
  · obtain ⟨x, hx, rfl⟩ := (parts_mem hC y).1 (List.mem_filter.1 hy).1
    have h : ∀ x : Fin 32, valB ((x.val : Nat) : Int) = true := by decide +kernel
    exact h ⟨x, by omega⟩
  · have h1 := List.length_filter_le g (parts (C : Int))
    have := parts_len32 hC
    omega
theorem filt_brd {C : Nat} (hC : C ≤ 5) {g : Int → Bool} {f : Nat → Bool} (h : ∀ x : Nat, x < 2 ^ C → g (x : Int) = f x) (y : Int) : y ∈ (parts (C : Int)).filter g ↔ y ∈ brdTo f (2 ^ C) := by
  rw [List.mem_filter, brdTo_mem]
  constructor
  · rintro ⟨h1, h2⟩
    obtain ⟨x, hx, rfl⟩ := (parts_mem hC y).1 h1
    exact ⟨x, hx, by rw [← h x hx]; exact h2, rfl⟩
  · rintro ⟨x, hx, h2, rfl⟩
    exact ⟨(parts_mem hC _).2 ⟨x, hx, rfl⟩, by rw [h x hx]; exact h2⟩
theorem max_filt {C : Nat} (hC : C ≤ 5) {g : Int → Bool} {f : Nat → Bool} (h : ∀ x : Nat, x < 2 ^ C → g (x : Int) = f x) : maxS ((parts (C : Int)).filter g) = maxS (brdTo f (2 ^ C)) :=
  maxS_ext (filt_ok hC g) (brdTo_ok f (two5 hC)) (filt_brd hC h)
theorem min_filt {C : Nat} (hC : C ≤ 5) {g : Int → Bool} {f : Nat → Bool} (h : ∀ x : Nat, x < 2 ^ C → g (x : Int) = f x) : minS ((parts (C : Int)).filter g) = minS (brdTo f (2 ^ C)) :=
  minS_ext (filt_ok hC g) (brdTo_ok f (two5 hC)) (filt_brd hC h)
theorem holds_h7 {C : Nat} {ll : List (List Int)} {m : Int} (hf : fineT (C : Int) ll m = true) (h1 : 1 ≤ C) (hC : C ≤ 5) {x R : Nat} (hx : x < 2 ^ C) (hR : R < C) : holdsD (C : Int) ll m (x : Int) (R : Int) = h7 C ll m x R := by
  have ho := okD_all (S := x) (R := R) hf h1 hC hx hR
  have h3 := holds_iff ho rfl rfl rfl hC hR
  rw [Bool.eq_iff_iff, h3, h7_iff hC hR]
/-- The border, from the list of sets by size. -/
theorem brd_filt {C : Nat} {ll : List (List Int)} {m : Int} {R : Nat} (hf : fineT (C : Int) ll m = true) (h1 : 1 ≤ C) (hC : C ≤ 5) (hR : R < C) :
    maxS (((parts (C : Int)).filter (fun S => !bitB S.toNat R)).filter (fun S => !holdsD (C : Int) ll m S (R : Int))) = brdL C ll m R := by
  rw [List.filter_filter]
  unfold brdL
  refine max_filt hC fun x hx => ?_
  rw [holds_h7 hf h1 hC hx hR]
  show (_ && !bitB x R) = _
  rw [Bool.and_comm]
theorem parts_small (n S : Int) (h : S ∈ parts n) : ∃ X : Nat, S = (X : Int) ∧ X < 32 := by
  by_cases hn : 0 ≤ n ∧ n ≤ 5
  · obtain ⟨C, rfl⟩ : ∃ C : Nat, n = (C : Int) := ⟨n.toNat, by omega⟩
    obtain ⟨h0, h1⟩ := parts_nat ⟨C, by omega⟩ S h
    exact ⟨S.toNat, by omega, by omega⟩
  · unfold parts at h
    rw [if_neg hn] at h
    cases h
theorem all_hit {p : Int → Bool} (l : List Int) (d : Int) (k : Nat) (h : k < l.length) (hp : p (l.getD k d) = false) : l.all p = false := by
  cases h' : l.all p with
  | false => rfl
  | true =>
    have := List.all_eq_true.1 h' (l.getD k d) (by rw [List.getD_eq_getElem?_getD, List.getElem?_eq_getElem h]; exact List.getElem_mem h)
    rw [hp] at this; cases this
end Go.Proofs.Ytpnapdhcdhcacaa
namespace Go.Proofs.Ytpnapdhcdhcacaa
open Go.RowKit

/-- The dependency applies to x: its left side is there, its right one is not. -/
def appN (x : Nat) (d : Int × Int) : Bool := subN d.1.toNat x && !bitB x d.2.toNat
def frst (l : List (Int × Int)) (x : Nat) : Nat := l.findIdx (appN x)
/-- The steps from x on, at most so many. -/
def drv (l : List (Int × Int)) (R : Nat) : Nat → Nat → List (Int × Int × Int)
  | 0, _ => []
  | k + 1, x => if bitB x R = true then [] else if frst l x < l.length then ((frst l x : Int), (x : Int), (orN x (l.getD (frst l x) (0, 0)).2.toNat : Int)) :: drv l R k (orN x (l.getD (frst l x) (0, 0)).2.toNat) else []
def impB (n : Int) (l : List (Int × Int)) (d : Int × Int) : Bool := arD n l && (depB n d.1 d.2 && bitB (clo l d.1.toNat) d.2.toNat)
def derL (n : Int) (l : List (Int × Int)) (d : Int × Int) : List (Int × Int × Int) := if impB n l d = true then drv l d.2.toNat 6 d.1.toNat else []
theorem frst_at {l : List (Int × Int)} {x i : Nat} (hi : i < l.length) (h : appN x (l.getD i (0, 0)) = true) (hn : ∀ j, j < i → appN x (l.getD j (0, 0)) = false) : frst l x = i := by
  have hg : ∀ j (hj : j < l.length), l.getD j (0, 0) = l[j] := fun j hj => by rw [List.getD_eq_getElem?_getD, List.getElem?_eq_getElem hj]; rfl
  unfold frst
  rw [List.findIdx_eq hi]
  exact ⟨by rw [← hg i hi]; exact h, fun j hj => by rw [← hg j (by omega)]; exact hn j hj⟩
theorem frst_app {l : List (Int × Int)} {x : Nat} (h : frst l x < l.length) : appN x (l.getD (frst l x) (0, 0)) = true := by
  rw [List.getD_eq_getElem?_getD, List.getElem?_eq_getElem h]
  exact List.findIdx_getElem (w := h)
theorem frst_none {l : List (Int × Int)} {x : Nat} (h : ¬ frst l x < l.length) : ClosedN l x := by
  intro d hd hs
  cases hb : bitB x d.2.toNat with
  | true => rfl
  | false => exact absurd (List.findIdx_lt_length_of_exists ⟨d, hd, by unfold appN; rw [hs, hb]; rfl⟩) h
theorem orN_not : ∀ (x : Fin 32) (R : Fin 5), bitB x.val R.val = false → popN x.val + 1 ≤ popN (orN x.val R.val) := by decide +kernel
theorem drv_end {l : List (Int × Int)} {R k x : Nat} (h : bitB x R = true) : drv l R k x = [] := by
  cases k with
  | zero => rfl
  | succ k => unfold drv; rw [if_pos h]
theorem sub_bitN {a b : Nat} (ha : a < 32) (hb : b < 32) (h : subN a b = true) {R : Nat} (hR : R < 5) (h2 : bitB a R = true) : bitB b R = true := (subN_bit ⟨a, ha⟩ ⟨b, hb⟩).1 h ⟨R, hR⟩ h2
/-- A step of the derivation. -/
theorem drv_step {C : Nat} {l : List (Int × Int)} (hC : C ≤ 5) (hl : DepsN C l) {L R k x : Nat} (hL : L < 32) (hR : R < 5) (hx : x < 32) (hLx : subN L x = true) (hxc : subN x (clo l L) = true) (himp : bitB (clo l L) R = true) (hb : bitB x R = false) (hk : 6 ≤ popN x + k) :
    ∃ k' y, k = k' + 1 ∧ frst l x < l.length ∧ y = orN x (l.getD (frst l x) (0, 0)).2.toNat ∧ drv l R k x = ((frst l x : Int), (x : Int), (y : Int)) :: drv l R k' y ∧ 6 ≤ popN y + k' ∧ y < 32 ∧ subN L y = true ∧ subN y (clo l L) = true := by
  obtain ⟨c1, c2, -, c3, c4⟩ := clo_spec hC hl hL
  have hf : frst l x < l.length := Classical.byContradiction fun hn => by
    have h1 := c4 x hx hLx (frst_none hn)
    rw [sub_bitN c1 hx h1 hR himp] at hb
    cases hb
  have ha := frst_app hf
  unfold appN at ha
  rw [Bool.and_eq_true, Bool.not_eq_true'] at ha
  obtain ⟨Ld, Rd, e, hLd, hRd⟩ := hl _ (memD hf)
  have eR : (l.getD (frst l x) (0, 0)).2.toNat = Rd := by rw [e]; rfl
  rw [eR] at ha
  have p5 := popN_le x
  obtain ⟨k', rfl⟩ : ∃ k', k = k' + 1 := ⟨k - 1, by omega⟩
  have h1 := orN_fin ⟨x, hx⟩ ⟨Rd, by omega⟩
  have h2 := orN_not ⟨x, hx⟩ ⟨Rd, by omega⟩ ha.2
  have h3 := orN_least ⟨x, hx⟩ ⟨_, c1⟩ ⟨Rd, by omega⟩ hxc (by
    have := c3 _ (memD hf) (subN_trans ha.1 hxc)
    rw [eR] at this
    exact this)
  simp only at h1 h2 h3
  refine ⟨k', orN x Rd, rfl, hf, by rw [eR], ?_, by omega, h1.1, subN_trans hLx h1.2.1, h3⟩
  conv => lhs; unfold drv
  rw [if_neg (by rw [hb]; exact Bool.false_ne_true), if_pos hf, eR]
theorem drv_len (l : List (Int × Int)) (R : Nat) : ∀ k x, (drv l R k x).length ≤ k
  | 0, _ => Nat.le_refl _
  | k + 1, x => by
    unfold drv
    split
    · exact Nat.zero_le _
    · split
      · rw [List.length_cons]
        have := drv_len l R k (orN x (l.getD (frst l x) (0, 0)).2.toNat)
        omega
      · exact Nat.zero_le _
theorem derL_len (n : Int) (l : List (Int × Int)) (d : Int × Int) : (derL n l d).length ≤ 6 := by
  unfold derL
  split
  · exact drv_len _ _ _ _
  · exact Nat.zero_le _
/-- The set after the first i steps; whether they are right. -/
def chkX (l : List (Int × Int)) (x : Nat) (s : List (Int × Int × Int)) : Nat → Nat
  | 0 => x
  | i + 1 => orN (chkX l x s i) (l.getD (s.getD i (0, 0, 0)).1.toNat (0, 0)).2.toNat
def chkAt (l : List (Int × Int)) (x : Nat) (t : Int × Int × Int) : Bool :=
  decide (0 ≤ t.1 ∧ t.1 < (l.length : Int)) && (t.2.1 == (x : Int)) && subN (l.getD t.1.toNat (0, 0)).1.toNat x && (t.2.2 == (orN x (l.getD t.1.toNat (0, 0)).2.toNat : Int))
def chkTo (l : List (Int × Int)) (x : Nat) (s : List (Int × Int × Int)) : Nat → Bool
  | 0 => true
  | i + 1 => chkTo l x s i && chkAt l (chkX l x s i) (s.getD i (0, 0, 0))
def chkB (n : Int) (l : List (Int × Int)) (d : Int × Int) (s : List (Int × Int × Int)) : Bool :=
  arD n l && (depB n d.1 d.2 && (chkTo l d.1.toNat s s.length && bitB (chkX l d.1.toNat s s.length) d.2.toNat))
theorem chkX_lt {C : Nat} {l : List (Int × Int)} (hC : C ≤ 5) (hl : DepsN C l) {x : Nat} (hx : x < 32) (s : List (Int × Int × Int)) : ∀ i, chkTo l x s i = true → chkX l x s i < 32
  | 0, _ => hx
  | i + 1, h => by
    unfold chkTo at h
    rw [Bool.and_eq_true] at h
    have h1 := chkX_lt hC hl hx s i h.1
    have h2 := h.2
    unfold chkAt at h2
    rw [Bool.and_eq_true, Bool.and_eq_true, Bool.and_eq_true, decide_eq_true_iff] at h2
    obtain ⟨Ld, Rd, e, hLd, hRd⟩ := hl _ (memD (l := l) (i := (s.getD i (0, 0, 0)).1.toNat) (by omega))
    unfold chkX
    rw [e]
    exact (orN_fin ⟨_, h1⟩ ⟨Rd, by omega⟩).1
theorem chkTo_le {l : List (Int × Int)} {x : Nat} {s : List (Int × Int × Int)} : ∀ {j i : Nat}, i ≤ j → chkTo l x s j = true → chkTo l x s i = true
  | 0, i, h, hj => by rw [show i = 0 by omega]; exact hj
  | j + 1, i, h, hj => by
    by_cases e : i = j + 1
    · rw [e]; exact hj
    · unfold chkTo at hj
      rw [Bool.and_eq_true] at hj
      exact chkTo_le (by omega) hj.1
/-- The sets that are their own closures. -/
def clsL (n : Int) (l : List (Int × Int)) : List Int := if arD n l = true then brdTo (clB l) (2 ^ n.toNat) else []
def smB (n : Int) (a b : List (Int × Int)) : Bool := arD n a && (arD n b && decide (clsL n a = clsL n b))
def cloZ (n : Int) (l : List (Int × Int)) (s : Int) : Int := if (arD n l && isA n s) = true then (clo l s.toNat : Int) else 0
end Go.Proofs.Ytpnapdhcdhcacaa
namespace Go.Proofs.Ytpnapdhcdhcacaa
open Go.RowKit

theorem chkX_cons (l : List (Int × Int)) (x : Nat) (t : Int × Int × Int) (s : List (Int × Int × Int)) : ∀ j, chkX l x (t :: s) (j + 1) = chkX l (orN x (l.getD t.1.toNat (0, 0)).2.toNat) s j
  | 0 => rfl
  | j + 1 => by
    have ih := chkX_cons l x t s j
    show orN (chkX l x (t :: s) (j + 1)) _ = orN (chkX l _ s j) _
    rw [ih]
    rfl
theorem chkTo_cons (l : List (Int × Int)) (x : Nat) (t : Int × Int × Int) (s : List (Int × Int × Int)) : ∀ j, chkTo l x (t :: s) (j + 1) = (chkAt l x t && chkTo l (orN x (l.getD t.1.toNat (0, 0)).2.toNat) s j)
  | 0 => by
    show (true && chkAt l x t) = (chkAt l x t && true)
    rw [Bool.true_and, Bool.and_true]
  | j + 1 => by
    have ih := chkTo_cons l x t s j
    have hx := chkX_cons l x t s j
    show (chkTo l x (t :: s) (j + 1) && chkAt l (chkX l x (t :: s) (j + 1)) (s.getD j (0, 0, 0))) = (chkAt l x t && (chkTo l _ s j && chkAt l (chkX l _ s j) (s.getD j (0, 0, 0))))
    rw [ih, hx, Bool.and_assoc]
/-- What is derived is right. -/
theorem drv_right {C : Nat} {l : List (Int × Int)} (hC : C ≤ 5) (hl : DepsN C l) {L R : Nat} (hL : L < 32) (hR : R < 5) (himp : bitB (clo l L) R = true) : ∀ k x, x < 32 → subN L x = true → subN x (clo l L) = true → 6 ≤ popN x + k → chkTo l x (drv l R k x) (drv l R k x).length = true ∧ bitB (chkX l x (drv l R k x) (drv l R k x).length) R = true
  | k, x, hx, h1, h2, h3 => by
    cases hb : bitB x R with
    | true =>
      rw [drv_end hb]
      exact ⟨rfl, hb⟩
    | false =>
      obtain ⟨k', y, hk, hf, hy, hd, hk', hy32, hLy, hyc⟩ := drv_step hC hl hL hR hx h1 h2 himp hb h3
      obtain ⟨i1, i2⟩ := drv_right hC hl hL hR himp k' y hy32 hLy hyc hk'
      have ht : orN x (l.getD ((frst l x : Int), (x : Int), (y : Int)).1.toNat (0, 0)).2.toNat = y := hy.symm
      have ha := frst_app hf
      unfold appN at ha
      rw [Bool.and_eq_true] at ha
      have hat : chkAt l x ((frst l x : Int), (x : Int), (y : Int)) = true := by
        unfold chkAt
        rw [ht]
        simp only
        rw [decide_eq_true (show 0 ≤ (frst l x : Int) ∧ (frst l x : Int) < (l.length : Int) by omega), show ((frst l x : Int)).toNat = frst l x from rfl, ha.1]
        simp
      rw [hd, List.length_cons, chkTo_cons, chkX_cons, ht, hat, i1, i2]
      exact ⟨rfl, rfl⟩
termination_by k => k
decreasing_by all_goals omega
theorem der_right {n : Int} {l : List (Int × Int)} {d : Int × Int} (h : impB n l d = true) : chkB n l d (derL n l d) = true := by
  have h2 := h
  unfold impB at h2
  rw [Bool.and_eq_true, Bool.and_eq_true] at h2
  obtain ⟨ha, hd, hb⟩ := h2
  obtain ⟨C, rfl, -, hC, -, hl⟩ := arD_n ha
  obtain ⟨-, k1, k2, k3⟩ := depB_iff.1 hd
  have hL : d.1.toNat < 32 := by
    unfold isA at k1
    rw [decide_eq_true_iff, show ((C : Int)).toNat = C from rfl] at k1
    have hz : ((2 ^ C : Nat) : Int) = (2 : Int) ^ C := by rw [Int.natCast_pow]; rfl
    have h32 := two5 hC
    omega
  obtain ⟨i1, i2⟩ := drv_right hC hl hL (by omega) hb 6 d.1.toNat hL (subN_refl _) (clo_spec hC hl hL).2.1 (by omega)
  unfold chkB derL
  rw [if_pos h, ha, hd, i1, i2]
  rfl
theorem drv_short {C : Nat} {l : List (Int × Int)} (hC : C ≤ 5) (hl : DepsN C l) (R : Nat) : ∀ k x, x < 32 → popN x + (drv l R k x).length ≤ 5
  | 0, x, _ => popN_le x
  | k + 1, x, hx => by
    unfold drv
    split
    · exact popN_le x
    · split
      · rename_i hf
        have ha := frst_app hf
        unfold appN at ha
        rw [Bool.and_eq_true, Bool.not_eq_true'] at ha
        obtain ⟨Ld, Rd, e, hLd, hRd⟩ := hl _ (memD hf)
        have eR : (l.getD (frst l x) (0, 0)).2.toNat = Rd := by rw [e]; rfl
        rw [eR] at ha ⊢
        have h1 := orN_not ⟨x, hx⟩ ⟨Rd, by omega⟩ ha.2
        have h2 := drv_short hC hl R k (orN x Rd) (orN_fin ⟨x, hx⟩ ⟨Rd, by omega⟩).1
        simp only at h1
        rw [List.length_cons]
        omega
      · exact popN_le x
theorem der_short (n : Int) (l : List (Int × Int)) (d : Int × Int) : (derL n l d).length ≤ 5 := by
  unfold derL
  split
  · rename_i h
    unfold impB at h
    rw [Bool.and_eq_true, Bool.and_eq_true] at h
    obtain ⟨ha, hd, -⟩ := h
    obtain ⟨C, rfl, -, hC, -, hl⟩ := arD_n ha
    obtain ⟨-, k1, -⟩ := depB_iff.1 hd
    have hL : d.1.toNat < 32 := by
      unfold isA at k1
      rw [decide_eq_true_iff, show ((C : Int)).toNat = C from rfl] at k1
      have hz : ((2 ^ C : Nat) : Int) = (2 : Int) ^ C := by rw [Int.natCast_pow]; rfl
      have h32 := two5 hC
      omega
    have := drv_short hC hl d.2.toNat 6 d.1.toNat hL
    omega
  · exact Nat.zero_le _
theorem andN_sub : ∀ a b : Fin 32, subN (a.val &&& b.val) a.val = true ∧ subN (a.val &&& b.val) b.val = true ∧ a.val &&& b.val ≤ a.val := by decide +kernel
theorem andN_bit : ∀ (a b : Fin 32) (R : Fin 5), bitB (a.val &&& b.val) R.val = (bitB a.val R.val && bitB b.val R.val) := by decide +kernel
theorem andN_int : ∀ a b : Fin 32, bits .and .i64 ((a.val : Nat) : Int) ((b.val : Nat) : Int) = ((a.val &&& b.val : Nat) : Int) := by decide +kernel
/-- What two closed sets have in common is closed. -/
theorem closed_and {C : Nat} {l : List (Int × Int)} (hC : C ≤ 5) (hl : DepsN C l) {a b : Nat} (ha : a < 32) (hb : b < 32) (h1 : ClosedN l a) (h2 : ClosedN l b) : ClosedN l (a &&& b) := by
  intro d hd hs
  obtain ⟨Ld, Rd, e, hLd, hRd⟩ := hl d hd
  obtain ⟨s1, s2, -⟩ := andN_sub ⟨a, ha⟩ ⟨b, hb⟩
  have q1 := h1 d hd (subN_trans hs s1)
  have q2 := h2 d hd (subN_trans hs s2)
  have eR : d.2.toNat = Rd := by rw [e]; rfl
  rw [eR] at q1 q2 ⊢
  rw [andN_bit ⟨a, ha⟩ ⟨b, hb⟩ ⟨Rd, by omega⟩]
  simp only
  rw [q1, q2]
  rfl
theorem brd_mem (f : Nat → Bool) (y : Int) : ∀ n, (y ∈ brdTo f n ↔ ∃ x : Nat, x < n ∧ f x = true ∧ y = (x : Int))
  | 0 => by
    constructor
    · intro h; cases h
    · rintro ⟨x, h, -⟩; omega
  | n + 1 => by
    have ih := brd_mem f y n
    have h : brdTo f (n + 1) = if f n = true then brdTo f n ++ [(n : Int)] else brdTo f n := rfl
    rw [h]
    split
    · rename_i hf
      rw [List.mem_append, ih, List.mem_singleton]
      constructor
      · rintro (⟨x, h1, h2, h3⟩ | h3)
        · exact ⟨x, by omega, h2, h3⟩
        · exact ⟨n, by omega, hf, h3⟩
      · rintro ⟨x, h1, h2, h3⟩
        by_cases e : x = n
        · rw [e] at h3; exact .inr h3
        · exact .inl ⟨x, by omega, h2, h3⟩
    · rename_i hf
      rw [ih]
      constructor
      · rintro ⟨x, h1, h2⟩; exact ⟨x, by omega, h2⟩
      · rintro ⟨x, h1, h2, h3⟩
        by_cases e : x = n
        · rw [e] at h2; exact absurd h2 hf
        · exact ⟨x, by omega, h2, h3⟩
theorem cls_mem {C : Nat} {l : List (Int × Int)} (ha : arD (C : Int) l = true) (y : Int) : y ∈ clsL (C : Int) l ↔ ∃ x : Nat, x < 2 ^ C ∧ ClosedN l x ∧ y = (x : Int) := by
  unfold clsL
  rw [if_pos ha, show ((C : Int)).toNat = C from rfl, brd_mem]
  refine exists_congr fun x => and_congr_right fun _ => and_congr_left fun _ => clB_iff l x
/-- Closed sets hold what they have in common. -/
theorem cls_and {C : Nat} {l : List (Int × Int)} (hC : C ≤ 5) (hl : DepsN C l) (ha : arD (C : Int) l = true) {y z : Int} (hy : y ∈ clsL (C : Int) l) (hz : z ∈ clsL (C : Int) l) : bits .and .i64 y z ∈ clsL (C : Int) l := by
  obtain ⟨a, ha1, ha2, rfl⟩ := (cls_mem ha y).1 hy
  obtain ⟨b, hb1, hb2, rfl⟩ := (cls_mem ha z).1 hz
  have h32 := two5 hC
  refine (cls_mem ha _).2 ⟨a &&& b, ?_, closed_and hC hl (by omega) (by omega) ha2 hb2, andN_int ⟨a, by omega⟩ ⟨b, by omega⟩⟩
  have := (andN_sub ⟨a, by omega⟩ ⟨b, by omega⟩).2.2
  simp only at this
  omega
/-- An implied dependency holds in every closed set. -/
theorem cls_imp {C : Nat} {l : List (Int × Int)} (hC : C ≤ 5) (hl : DepsN C l) {L R x : Nat} (hL : L < 32) (hR : R < 5) (hx : x < 32) (himp : bitB (clo l L) R = true) (hc : ClosedN l x) (hs : subN L x = true) : bitB x R = true := by
  obtain ⟨c1, -, -, -, c4⟩ := clo_spec hC hl hL
  exact sub_bitN c1 hx (c4 x hx hs hc) hR himp
/-- The closure of a closure. -/
theorem clo_clo {C : Nat} {l : List (Int × Int)} (hC : C ≤ 5) (hl : DepsN C l) {x : Nat} (hx : x < 32) : clo l (clo l x) = clo l x := by
  obtain ⟨c1, -, -, c3, -⟩ := clo_spec hC hl hx
  exact (clo_id hC hl c1).2 c3
end Go.Proofs.Ytpnapdhcdhcacaa
namespace Go.Proofs.Ytpnapdhcdhcacaa
open Go.RowKit

/-- A row: 0 in the columns of X, v in the others. -/
def rowA (X : Nat) (v : Int) : Nat → List Int
  | 0 => []
  | k + 1 => rowA X v k ++ [if bitB X k = true then 0 else v]
theorem rowA_len (X : Nat) (v : Int) : ∀ C, (rowA X v C).length = C
  | 0 => rfl
  | k + 1 => by unfold rowA; rw [List.length_append, rowA_len X v k]; rfl
theorem rowA_get (X : Nat) (v : Int) : ∀ C j, j < C → (rowA X v C).getD j 0 = if bitB X j = true then 0 else v
  | 0, _, h => absurd h (by omega)
  | k + 1, j, h => by
    unfold rowA
    rw [List.getD_eq_getElem?_getD]
    by_cases e : j < k
    · rw [List.getElem?_append_left (by rw [rowA_len]; exact e), ← List.getD_eq_getElem?_getD]
      exact rowA_get X v k j e
    · obtain rfl : j = k := by omega
      rw [List.getElem?_append_right (by rw [rowA_len]; omega), rowA_len, Nat.sub_self]
      rfl
theorem rowA_mem {X : Nat} {v : Int} : ∀ {C : Nat} {x : Int}, x ∈ rowA X v C → x = 0 ∨ x = v
  | 0, _, h => by cases h
  | k + 1, x, h => by
    unfold rowA at h
    rw [List.mem_append] at h
    rcases h with h | h
    · exact rowA_mem h
    · rw [List.mem_singleton] at h
      rw [h]
      split
      · exact .inl rfl
      · exact .inr rfl
/-- The rows of a list of sets and values. -/
def rowsA (C : Nat) (ps : List (Nat × Int)) : List (List Int) := ps.map fun p => rowA p.1 p.2 C
theorem rowsA_get (C : Nat) (ps : List (Nat × Int)) {i : Nat} (h : i < ps.length) : (rowsA C ps).getD i [] = rowA (ps.getD i (0, 0)).1 (ps.getD i (0, 0)).2 C := by
  unfold rowsA
  rw [List.getD_eq_getElem?_getD, List.getElem?_map, List.getD_eq_getElem?_getD, List.getElem?_eq_getElem h]
  rfl
/-- The values ascend, from 0 with all columns on. -/
structure AscZ (C : Nat) (ps : List (Nat × Int)) : Prop where
  pos : 0 < ps.length
  first : ps.getD 0 (0, 0) = (2 ^ C - 1, 0)
  asc : ∀ a b, a < b → b < ps.length → (ps.getD a (0, 0)).2 < (ps.getD b (0, 0)).2
theorem full_bit : ∀ (C : Fin 6) (j : Fin 5), bitB (2 ^ C.val - 1) j.val = decide (j.val < C.val) := by decide +kernel
theorem low12 : ∀ (C : Fin 6) (x : Fin 32) (j : Fin 5), x.val < 2 ^ C.val → C.val ≤ j.val → bitB x.val j.val = false := by decide +kernel
theorem AscZ.up {C : Nat} {ps : List (Nat × Int)} (h : AscZ C ps) {b : Nat} (hb0 : 0 < b) (hb : b < ps.length) : 0 < (ps.getD b (0, 0)).2 := by
  have := h.asc 0 b hb0 hb
  rw [h.first] at this
  exact this
/-- Two rows agree in what their sets have in common. -/
theorem rows_agree {C : Nat} (hC : C ≤ 5) {ps : List (Nat × Int)} (h : AscZ C ps) {a b : Nat} (hab : a < b) (hb : b < ps.length) {S : Nat} (hS : S < 2 ^ C) :
    agB C (rowsA C ps) 0 (S : Int) a b = true ↔ ∀ j, j < C → bitB S j = true → bitB (ps.getD a (0, 0)).1 j = true ∧ bitB (ps.getD b (0, 0)).1 j = true := by
  rw [agB_iff C (rowsA C ps) 0 S a b hC hS]
  have hv := h.asc a b hab hb
  have hv0 := h.up (b := b) (by omega) hb
  have key : ∀ j, j < C → (eqC 0 (((rowsA C ps).getD a []).getD j 0) (((rowsA C ps).getD b []).getD j 0) = true ↔ bitB (ps.getD a (0, 0)).1 j = true ∧ bitB (ps.getD b (0, 0)).1 j = true) := by
    intro j hj
    rw [rowsA_get C ps (by omega), rowsA_get C ps hb, rowA_get _ _ C j hj, rowA_get _ _ C j hj]
    unfold eqC
    rw [decide_eq_true_iff]
    by_cases ha : a = 0
    · subst ha
      rw [h.first]
      simp only
      have hf := full_bit ⟨C, by omega⟩ ⟨j, by omega⟩
      simp only at hf
      rw [hf, decide_eq_true hj]
      obtain ⟨vb, hvb⟩ : ∃ vb, vb = (ps.getD b (0, 0)).2 := ⟨_, rfl⟩
      obtain ⟨Xb, hXb⟩ : ∃ Xb, Xb = (ps.getD b (0, 0)).1 := ⟨_, rfl⟩
      rw [← hvb] at hv0 ⊢
      rw [← hXb]
      cases bitB Xb j <;> simp <;> omega
    · have hva := h.up (b := a) (by omega) (by omega)
      obtain ⟨vb, hvb⟩ : ∃ vb, vb = (ps.getD b (0, 0)).2 := ⟨_, rfl⟩
      obtain ⟨Xb, hXb⟩ : ∃ Xb, Xb = (ps.getD b (0, 0)).1 := ⟨_, rfl⟩
      obtain ⟨u, hu⟩ : ∃ u, u = (ps.getD a (0, 0)).2 := ⟨_, rfl⟩
      obtain ⟨Xa, hXa⟩ : ∃ Xa, Xa = (ps.getD a (0, 0)).1 := ⟨_, rfl⟩
      rw [← hvb] at hv0 hv ⊢
      rw [← hu] at hv hva ⊢
      rw [← hXb, ← hXa]
      cases bitB Xa j <;> cases bitB Xb j <;> simp <;> omega
  constructor
  · intro h j hj hb; exact (key j hj).1 (h j hj hb)
  · intro h j hj hb; exact (key j hj).2 (h j hj hb)
/-- What holds in such a table hangs on the sets alone. -/
theorem rows_hold {C : Nat} (hC : C ≤ 5) {ps : List (Nat × Int)} (h : AscZ C ps) (hX : ∀ p ∈ ps, p.1 < 2 ^ C) {L R : Nat} (hL : L < 2 ^ C) (hR : R < C) :
    HoldsAll C (rowsA C ps) 0 L R ↔ ∀ p ∈ ps, subN L p.1 = true → bitB p.1 R = true := by
  have h32 := two5 hC
  have hR2 : 2 ^ R < 2 ^ C := Nat.pow_lt_pow_right (by omega) hR
  have hlen : (rowsA C ps).length = ps.length := List.length_map _
  have hpb := fun (j : Nat) (hj : j < 5) => pow_bit ⟨R, by omega⟩ ⟨j, hj⟩
  simp only at hpb
  have hmem : ∀ {i : Nat}, i < ps.length → ps.getD i (0, 0) ∈ ps := fun {i} hi => by
    rw [List.getD_eq_getElem?_getD, List.getElem?_eq_getElem hi]; exact List.getElem_mem hi
  have hsub : ∀ {X : Nat}, X < 2 ^ C → (subN L X = true ↔ ∀ j, j < C → bitB L j = true → bitB X j = true) := fun {X} hX => by
    rw [subN_bit ⟨L, by omega⟩ ⟨X, by omega⟩]
    constructor
    · intro h j hj hb; exact h ⟨j, by omega⟩ hb
    · intro h j hb
      by_cases hj : j.val < C
      · exact h j hj hb
      · have := low12 ⟨C, by omega⟩ ⟨L, by omega⟩ j hL (Nat.not_lt.1 hj)
        rw [this] at hb
        cases hb
  constructor
  · intro hh p hp hs
    obtain ⟨b, hb, rfl⟩ := List.getElem_of_mem hp
    have hg : ps.getD b (0, 0) = ps[b] := by rw [List.getD_eq_getElem?_getD, List.getElem?_eq_getElem hb]; rfl
    rw [← hg] at hs hp ⊢
    by_cases hb0 : b = 0
    · subst hb0
      rw [h.first]
      have hf := full_bit ⟨C, by omega⟩ ⟨R, by omega⟩
      simp only at hf
      rw [hf, decide_eq_true hR]
    · have h1 := hh 0 b (by omega) (by rw [hlen]; exact hb) ((rows_agree hC h (by omega) hb hL).2 fun j hj hbj => ⟨by
        rw [h.first]
        have hf := full_bit ⟨C, by omega⟩ ⟨j, by omega⟩
        simp only at hf
        rw [hf, decide_eq_true hj], (hsub (hX _ hp)).1 hs j hj hbj⟩)
      exact ((rows_agree hC h (by omega) hb hR2).1 h1 R hR (by rw [hpb R (by omega)]; exact decide_eq_true rfl)).2
  · intro hh a b hab hb hag
    rw [hlen] at hb
    have h1 := (rows_agree hC h hab hb hL).1 hag
    refine (rows_agree hC h hab hb hR2).2 fun j hj hbj => ?_
    rw [hpb j (by omega)] at hbj
    have e : j = R := of_decide_eq_true hbj
    subst e
    exact ⟨hh _ (hmem (by omega)) ((hsub (hX _ (hmem (by omega)))).2 fun j hj hbj => (h1 j hj hbj).1), hh _ (hmem hb) ((hsub (hX _ (hmem hb))).2 fun j hj hbj => (h1 j hj hbj).2)⟩
/-- The sets and values of an example table: all columns, and each closed set but that one. -/
def armP (C : Nat) (c : List Int) : Nat → List (Nat × Int)
  | 0 => [(2 ^ C - 1, 0)]
  | i + 1 => if c.getD i 0 = (2 : Int) ^ C - 1 then armP C c i else armP C c i ++ [((c.getD i 0).toNat, (i : Int) + 1)]
theorem armP_mem {C : Nat} {c : List Int} {p : Nat × Int} : ∀ i, (p ∈ armP C c i ↔ p = (2 ^ C - 1, 0) ∨ ∃ j, j < i ∧ c.getD j 0 ≠ (2 : Int) ^ C - 1 ∧ p = ((c.getD j 0).toNat, (j : Int) + 1))
  | 0 => by
    unfold armP
    rw [List.mem_singleton]
    constructor
    · exact .inl
    · rintro (h | ⟨j, h, -⟩)
      · exact h
      · exact absurd h (by omega)
  | i + 1 => by
    have ih := armP_mem (C := C) (c := c) (p := p) i
    unfold armP
    split
    · rename_i he
      rw [ih]
      constructor
      · rintro (h | ⟨j, h1, h2⟩)
        · exact .inl h
        · exact .inr ⟨j, by omega, h2⟩
      · rintro (h | ⟨j, h1, h2, h3⟩)
        · exact .inl h
        · by_cases e : j = i
          · subst e; exact absurd he h2
          · exact .inr ⟨j, by omega, h2, h3⟩
    · rename_i he
      rw [List.mem_append, List.mem_singleton, ih]
      constructor
      · rintro ((h | ⟨j, h1, h2⟩) | h)
        · exact .inl h
        · exact .inr ⟨j, by omega, h2⟩
        · exact .inr ⟨i, by omega, he, h⟩
      · rintro (h | ⟨j, h1, h2, h3⟩)
        · exact .inl (.inl h)
        · by_cases e : j = i
          · subst e; exact .inr h3
          · exact .inl (.inr ⟨j, by omega, h2, h3⟩)
theorem armP_len (C : Nat) (c : List Int) : ∀ i, (armP C c i).length ≤ i + 1
  | 0 => Nat.le_refl _
  | i + 1 => by
    have := armP_len C c i
    unfold armP
    split
    · omega
    · rw [List.length_append]; simp; omega
theorem armP_asc (C : Nat) (c : List Int) : ∀ i, AscZ C (armP C c i) ∧ ∀ p ∈ armP C c i, p.2 ≤ (i : Int)
  | 0 => by
    refine ⟨⟨Nat.zero_lt_one, rfl, fun a b h hb => ?_⟩, fun p hp => ?_⟩
    · unfold armP at hb
      simp at hb
      omega
    · unfold armP at hp
      rw [List.mem_singleton] at hp
      rw [hp]
      exact Int.le_refl _
  | i + 1 => by
    obtain ⟨h1, h2⟩ := armP_asc C c i
    unfold armP
    split
    · exact ⟨h1, fun p hp => by have := h2 p hp; omega⟩
    · have hg : ∀ a, a < (armP C c i).length → (armP C c i ++ [((c.getD i 0).toNat, (i : Int) + 1)]).getD a (0, 0) = (armP C c i).getD a (0, 0) := fun a ha => by
        rw [List.getD_eq_getElem?_getD, List.getElem?_append_left ha, ← List.getD_eq_getElem?_getD]
      refine ⟨⟨by rw [List.length_append]; have := h1.pos; omega, by rw [hg 0 h1.pos]; exact h1.first, fun a b hab hb => ?_⟩, fun p hp => ?_⟩
      · rw [List.length_append] at hb
        simp only [List.length_singleton] at hb
        rw [hg a (by omega)]
        by_cases e : b < (armP C c i).length
        · rw [hg b e]; exact h1.asc a b hab e
        · have hm : (armP C c i).getD a (0, 0) ∈ armP C c i := by
            rw [List.getD_eq_getElem?_getD, List.getElem?_eq_getElem (show a < (armP C c i).length by omega)]; exact List.getElem_mem _
          have := h2 _ hm
          have hb' : (armP C c i ++ [((c.getD i 0).toNat, (i : Int) + 1)]).getD b (0, 0) = ((c.getD i 0).toNat, (i : Int) + 1) := by
            rw [List.getD_eq_getElem?_getD, List.getElem?_append_right (by omega), show b - (armP C c i).length = 0 by omega]; rfl
          rw [hb']
          show _ < (i : Int) + 1
          omega
      · rw [List.mem_append, List.mem_singleton] at hp
        rcases hp with hp | hp
        · have := h2 p hp; omega
        · rw [hp]; exact Int.le_refl _
/-- The rows of the example table. -/
def armL (n : Int) (l : List (Int × Int)) : List (List Int) := if arD n l = true then rowsA n.toNat (armP n.toNat (clsL n l) (clsL n l).length) else []
theorem closed_full {C : Nat} {l : List (Int × Int)} (hC : C ≤ 5) (hl : DepsN C l) : ClosedN l (2 ^ C - 1) := by
  intro d hd _
  obtain ⟨L, R, e, hL, hR⟩ := hl d hd
  have hf := full_bit ⟨C, by omega⟩ ⟨R, by omega⟩
  simp only at hf
  rw [e]
  show bitB (2 ^ C - 1) R = true
  rw [hf, decide_eq_true hR]
theorem cls_len (n : Int) (l : List (Int × Int)) : (clsL n l).length ≤ 32 := by
  unfold clsL
  split
  · rename_i h
    obtain ⟨C, rfl, h1, h5, -, -⟩ := arD_n h
    have := brdTo_len (clB l) (2 ^ C)
    have := two5 h5
    show (brdTo (clB l) (2 ^ C)).length ≤ 32
    omega
  · exact Nat.zero_le _
/-- An example table is a table; what holds in it is what follows. -/
theorem arm_facts {C : Nat} {l : List (Int × Int)} (ha : arD (C : Int) l = true) :
    isT (C : Int) (armL (C : Int) l) = true ∧ (∀ x ∈ l, holdsD (C : Int) (armL (C : Int) l) 0 x.1 x.2 = true) ∧ ∀ L R : Nat, L < 2 ^ C → R < C → holdsD (C : Int) (armL (C : Int) l) 0 (L : Int) (R : Int) = bitB (clo l L) R := by
  obtain ⟨C', e, h1, h5, -, hd⟩ := arD_n ha
  obtain rfl : C = C' := by omega
  have h32 := two5 h5
  have hE : armL (C : Int) l = rowsA C (armP C (clsL (C : Int) l) (clsL (C : Int) l).length) := by unfold armL; rw [if_pos ha]; rfl
  have hlen := cls_len (C : Int) l
  obtain ⟨k1, k2⟩ := armP_asc C (clsL (C : Int) l) (clsL (C : Int) l).length
  have k3 := armP_len C (clsL (C : Int) l) (clsL (C : Int) l).length
  have kp : ∀ p ∈ armP C (clsL (C : Int) l) (clsL (C : Int) l).length, p.1 < 2 ^ C ∧ ClosedN l p.1 ∧ 0 ≤ p.2 := by
    intro p hp
    rcases (armP_mem _).1 hp with rfl | ⟨j, hj, hne, rfl⟩
    · have : 0 < 2 ^ C := Nat.pow_pos (by omega)
      exact ⟨by show 2 ^ C - 1 < 2 ^ C; omega, closed_full h5 hd, Int.le_refl _⟩
    · have hm : (clsL (C : Int) l).getD j 0 ∈ clsL (C : Int) l := by rw [List.getD_eq_getElem?_getD, List.getElem?_eq_getElem hj]; exact List.getElem_mem hj
      obtain ⟨x, hx, hc, he⟩ := (cls_mem ha _).1 hm
      rw [he]
      exact ⟨hx, hc, by omega⟩
  have hT : isT (C : Int) (armL (C : Int) l) = true := by
    rw [hE]
    unfold isT
    rw [Bool.and_eq_true, Bool.and_eq_true, decide_eq_true_iff, decide_eq_true_iff, List.all_eq_true]
    refine ⟨fun r hr => ?_, ⟨by omega, by omega⟩, by unfold rowsA; rw [List.length_map]; omega⟩
    unfold rowsA at hr
    obtain ⟨p, hp, rfl⟩ := List.mem_map.1 hr
    unfold rowOk
    rw [Bool.and_eq_true, List.all_eq_true, decide_eq_true_iff]
    refine ⟨fun x hx => ?_, by rw [rowA_len]⟩
    have h2 := k2 p hp
    have h0 := (kp p hp).2.2
    unfold cellOk
    rcases rowA_mem hx with rfl | rfl
    · simp
    · simp; omega
  have hF : ∀ L R : Nat, L < 2 ^ C → R < C → holdsD (C : Int) (armL (C : Int) l) 0 (L : Int) (R : Int) = bitB (clo l L) R := by
    intro L R hL hR
    have hok : okD (C : Int) (armL (C : Int) l) 0 (L : Int) (R : Int) = true := by
      unfold okD fineT
      rw [hT, depB_iff.2 ⟨⟨by omega, by omega⟩, isA_fit h5 hL, by omega, by omega⟩]
      rfl
    rw [Bool.eq_iff_iff, holds_iff hok rfl rfl rfl h5 hR, hE, rows_hold h5 k1 (fun p hp => (kp p hp).1) hL hR]
    obtain ⟨c1, c2, c3, c4, c5⟩ := clo_spec h5 hd (x := L) (by omega)
    constructor
    · intro h
      refine Classical.byContradiction fun hno => ?_
      have hm : ((clo l L : Nat) : Int) ∈ clsL (C : Int) l := (cls_mem ha _).2 ⟨_, c3 hL, c4, rfl⟩
      obtain ⟨j, hj, hg⟩ := List.getElem_of_mem hm
      have hg' : (clsL (C : Int) l).getD j 0 = ((clo l L : Nat) : Int) := by rw [List.getD_eq_getElem?_getD, List.getElem?_eq_getElem hj]; exact hg
      have hne : (clsL (C : Int) l).getD j 0 ≠ (2 : Int) ^ C - 1 := by
        rw [hg']
        intro e
        have hz : ((2 ^ C : Nat) : Int) = (2 : Int) ^ C := by rw [Int.natCast_pow]; rfl
        have hp : 0 < 2 ^ C := Nat.pow_pos (by omega)
        have e' : clo l L = 2 ^ C - 1 := by omega
        have hf := full_bit ⟨C, by omega⟩ ⟨R, by omega⟩
        simp only at hf
        rw [e', hf, decide_eq_true hR] at hno
        exact hno rfl
      exact hno (by
        have := h (((clsL (C : Int) l).getD j 0).toNat, (j : Int) + 1) ((armP_mem _).2 (.inr ⟨j, hj, hne, rfl⟩)) (by rw [hg']; exact c2)
        rw [hg'] at this
        exact this)
    · intro h p hp hs
      exact sub_bitN c1 (by have := (kp p hp).1; omega) (c5 _ (by have := (kp p hp).1; omega) hs (kp p hp).2.1) (by omega) h
  refine ⟨hT, fun x hx => ?_, hF⟩
  obtain ⟨L, R, rfl, hL, hR⟩ := hd x hx
  rw [hF L R hL hR]
  obtain ⟨c1, c2, c3, c4, c5⟩ := clo_spec h5 hd (x := L) (by omega)
  exact c4 _ hx c2
/-- The rows of a table in which the dependencies hold and another one does not. -/
def ctrL (n : Int) (l : List (Int × Int)) (d : Int × Int) : List (List Int) := if arD n l = true ∧ depB n d.1 d.2 = true ∧ impB n l d = false then rowsA n.toNat [(2 ^ n.toNat - 1, 0), (clo l d.1.toNat, 1)] else []
def ctrB (n : Int) (l : List (Int × Int)) (d : Int × Int) : Bool := decide (arD n l = true ∧ depB n d.1 d.2 = true ∧ impB n l d = false)
theorem isA_lt12 {C : Nat} {x : Int} (hC : C ≤ 5) (h : isA (C : Int) x = true) : ∃ X : Nat, x = (X : Int) ∧ X < 32 ∧ X < 2 ^ C := by
  unfold isA at h
  rw [decide_eq_true_iff, show ((C : Int)).toNat = C from rfl] at h
  have h32 := two5 hC
  have hz : ((2 ^ C : Nat) : Int) = (2 : Int) ^ C := by rw [Int.natCast_pow]; rfl
  exact ⟨x.toNat, by omega, by omega, by omega⟩
theorem ctr_facts {n : Int} {l : List (Int × Int)} {d : Int × Int} (h : ctrB n l d = true) :
    isT n (ctrL n l d) = true ∧ (∀ x ∈ l, holdsD n (ctrL n l d) 0 x.1 x.2 = true) ∧ holdsD n (ctrL n l d) 0 d.1 d.2 = false ∧ (ctrL n l d).length = 2 := by
  have hc := of_decide_eq_true h
  obtain ⟨ha, hb, hi⟩ := hc
  obtain ⟨C, rfl, h1, h5, -, hd⟩ := arD_n ha
  have h32 := two5 h5
  obtain ⟨⟨-, -⟩, hA, hr0, hr1⟩ := depB_iff.1 hb
  obtain ⟨L, hL', hL32, hL⟩ := isA_lt12 h5 hA
  obtain ⟨R, hR'⟩ : ∃ R : Nat, d.2 = (R : Int) := ⟨d.2.toNat, by omega⟩
  have hR : R < C := by omega
  have hE : ctrL (C : Int) l d = rowsA C [(2 ^ C - 1, 0), (clo l L, 1)] := by
    unfold ctrL
    rw [if_pos ⟨ha, hb, hi⟩, hL']
    rfl
  have hno : bitB (clo l L) R = false := by
    unfold impB at hi
    rw [ha, hb, hL', hR', Bool.true_and, Bool.true_and] at hi
    exact hi
  obtain ⟨c1, c2, c3, c4, c5⟩ := clo_spec h5 hd (x := L) hL32
  have kA : AscZ C [(2 ^ C - 1, 0), (clo l L, 1)] := ⟨Nat.zero_lt_two, rfl, fun a b hab hb => by
    simp only [List.length_cons, List.length_nil] at hb
    obtain rfl : a = 0 := by omega
    obtain rfl : b = 1 := by omega
    exact Int.zero_lt_one⟩
  have kp : ∀ p ∈ [((2 ^ C - 1 : Nat), (0 : Int)), (clo l L, 1)], p.1 < 2 ^ C ∧ ClosedN l p.1 ∧ (p.2 = 0 ∨ p.2 = 1) := by
    intro p hp
    rcases List.mem_cons.1 hp with rfl | hp
    · have : 0 < 2 ^ C := Nat.pow_pos (by omega)
      exact ⟨by show 2 ^ C - 1 < 2 ^ C; omega, closed_full h5 hd, .inl rfl⟩
    · rw [List.mem_singleton] at hp
      subst hp
      exact ⟨c3 hL, c4, .inr rfl⟩
  have hT : isT (C : Int) (ctrL (C : Int) l d) = true := by
    rw [hE]
    unfold isT
    rw [Bool.and_eq_true, Bool.and_eq_true, decide_eq_true_iff, decide_eq_true_iff, List.all_eq_true]
    refine ⟨fun r hr => ?_, ⟨by omega, by omega⟩, by unfold rowsA; rw [List.length_map]; simp⟩
    unfold rowsA at hr
    obtain ⟨p, hp, rfl⟩ := List.mem_map.1 hr
    unfold rowOk
    rw [Bool.and_eq_true, List.all_eq_true, decide_eq_true_iff]
    refine ⟨fun x hx => ?_, by rw [rowA_len]⟩
    have h2 := (kp p hp).2.2
    unfold cellOk
    rcases rowA_mem hx with rfl | rfl
    · simp
    · simp; omega
  have hF : ∀ L' R' : Nat, L' < 2 ^ C → R' < C → (holdsD (C : Int) (ctrL (C : Int) l d) 0 (L' : Int) (R' : Int) = true ↔ ∀ p ∈ [((2 ^ C - 1 : Nat), (0 : Int)), (clo l L, 1)], subN L' p.1 = true → bitB p.1 R' = true) := by
    intro L' R' hL' hR'
    have hok : okD (C : Int) (ctrL (C : Int) l d) 0 (L' : Int) (R' : Int) = true := by
      unfold okD fineT
      rw [hT, depB_iff.2 ⟨⟨by omega, by omega⟩, isA_fit h5 hL', by omega, by omega⟩]
      rfl
    rw [holds_iff hok rfl rfl rfl h5 hR', hE, rows_hold h5 kA (fun p hp => (kp p hp).1) hL' hR']
  refine ⟨hT, fun x hx => ?_, ?_, by rw [hE]; rfl⟩
  · have hx' := hx
    obtain ⟨L', R', rfl, hL2, hR2⟩ := hd x hx
    exact (hF L' R' hL2 hR2).2 fun p hp hs => (kp p hp).2.1 _ hx' hs
  · rw [hL', hR', Bool.eq_false_iff]
    intro hh
    have := (hF L R hL hR).1 hh (clo l L, 1) (by simp) c2
    rw [hno] at this
    cases this
end Go.Proofs.Ytpnapdhcdhcacaa
