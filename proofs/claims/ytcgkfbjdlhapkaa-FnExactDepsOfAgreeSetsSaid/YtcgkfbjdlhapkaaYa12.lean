/- Texts of this claim, merged: ImA, CovE, ClB, DepG, DepH. Conditions: as stated. -/
import Derived.Test.YtcgkfbjdlhapkaaYa3
import Derived.Test.YtcgkfbjdlhapkaaYa11
import Derived.Test.YtcgkfbjdlhapkaaYa9
import Derived.Test.YtcgkfbjdlhapkaaYa7
import Derived.Test.YtcgkfbjdlhapkaaYa2
import Derived.Deep.RegionHeld3
namespace Go.Proofs.Ytcgkfbjdlhapkaa
open Go.RowKit

theorem bits_andNot (a b : Int) : bits .andNot .i64 a b = IntKind.i64.wrap ((BitVec.ofInt 64 a &&& ~~~BitVec.ofInt 64 b).toNat : Int) := rfl
theorem bits_and (a b : Int) : bits .and .i64 a b = IntKind.i64.wrap ((BitVec.ofInt 64 a &&& BitVec.ofInt 64 b).toNat : Int) := rfl
theorem bv_part (x y : BitVec 64) : (x &&& ~~~y = 0#64) ↔ (x &&& y = x) := by
  constructor
  · intro h
    apply BitVec.eq_of_getLsbD_eq
    intro i hi
    have h2 : (x &&& ~~~y).getLsbD i = (0#64).getLsbD i := by rw [h]
    simp [hi] at h2 ⊢
    intro hx; exact h2 hx
  · intro h
    rw [← h, BitVec.and_assoc]
    simp
theorem wrap_nat_zero (n : Nat) (h : n < 2 ^ 64) : (IntKind.i64.wrap (n : Int) = 0) ↔ n = 0 := by
  rw [IntKind.wrap_i64]; omega
theorem bv_zero (x : BitVec 64) : (IntKind.i64.wrap (x.toNat : Int) = 0) ↔ x = 0#64 := by
  rw [wrap_nat_zero _ x.isLt]
  constructor
  · intro h; exact BitVec.eq_of_toNat_eq (by simpa using h)
  · intro h; rw [h]; rfl
theorem bv_self (v : BitVec 64) (x : Int) (h0 : -9223372036854775808 ≤ x) (h1 : x ≤ 9223372036854775807) : (IntKind.i64.wrap (v.toNat : Int) = x) ↔ v = BitVec.ofInt 64 x := by
  rw [IntKind.wrap_i64]
  have e := BitVec.toNat_ofInt (n := 64) x
  have l := v.isLt
  constructor
  · intro h
    apply BitVec.eq_of_toNat_eq
    rw [e]; omega
  · intro h
    rw [h, e]; omega
/-- 'x &^ y == 0': the same as 'x & y == x'. -/
def partZ (x y : Int) : Bool := bits .andNot .i64 x y == 0
theorem partZ_eq (x y : Int) (h0 : -9223372036854775808 ≤ x) (h1 : x ≤ 9223372036854775807) : partZ x y = (bits .and .i64 x y == x) := by
  unfold partZ
  rw [Bool.eq_iff_iff, beq_iff_eq, beq_iff_eq, bits_andNot, bits_and, bv_zero, bv_self _ x h0 h1, bv_part]
theorem and_mask (n : Nat) (hn : n < 63) (x : Int) : bits .and .i64 x (2 ^ n - 1) = x % 2 ^ n := by
  have p1 : (2 : Nat) ^ n < 2 ^ 63 := Nat.pow_lt_pow_right (by omega) hn
  have p0 : 0 < (2 : Nat) ^ n := Nat.pow_pos (by omega)
  have hc : ((2 : Int) ^ n) = ((2 ^ n : Nat) : Int) := by rw [Int.natCast_pow]; rfl
  have h : (BitVec.ofInt 64 (2 ^ n - 1)).toNat = 2 ^ n - 1 := by
    rw [BitVec.toNat_ofInt, hc]; omega
  have key : (BitVec.ofInt 64 x &&& BitVec.ofInt 64 (2 ^ n - 1)).toNat = (x % ((2 ^ 64 : Nat) : Int)).toNat % 2 ^ n := by
    rw [BitVec.toNat_and, BitVec.toNat_ofInt, h, Nat.and_two_pow_sub_one_eq_mod]
  rw [bits_and, key, IntKind.wrap_i64, hc]
  have hd : ((2 ^ n : Nat) : Int) ∣ ((2 ^ 64 : Nat) : Int) := by
    rw [show 64 = n + (64 - n) by omega, Nat.pow_add, Int.natCast_mul]; exact Int.dvd_mul_right _ _
  have e : (((x % ((2 ^ 64 : Nat) : Int)).toNat % 2 ^ n : Nat) : Int) = x % ((2 ^ n : Nat) : Int) := by
    rw [Int.natCast_emod, Int.toNat_of_nonneg (Int.emod_nonneg _ (by decide)), Int.emod_emod_of_dvd _ hd]
  rw [e]
  have q0 := Int.emod_nonneg x (b := ((2 ^ n : Nat) : Int)) (by omega)
  have q1 := Int.emod_lt_of_pos x (b := ((2 ^ n : Nat) : Int)) (by omega)
  omega
theorem partZ_first (n : Nat) (hn : n ≤ 5) (x : Int) (h0 : -9223372036854775808 ≤ x) (h1 : x ≤ 9223372036854775807) : partZ x (2 ^ n - 1) = decide (0 ≤ x ∧ x ≤ 2 ^ n - 1) := by
  rw [partZ_eq x _ h0 h1, and_mask n (by omega), Bool.eq_iff_iff, beq_iff_eq, decide_eq_true_iff]
  have p0 : 0 < (2 : Nat) ^ n := Nat.pow_pos (by omega)
  have hc : ((2 : Int) ^ n) = ((2 ^ n : Nat) : Int) := by rw [Int.natCast_pow]; rfl
  rw [hc]
  constructor
  · intro h
    have q0 := Int.emod_nonneg x (b := ((2 ^ n : Nat) : Int)) (by omega)
    have q1 := Int.emod_lt_of_pos x (b := ((2 ^ n : Nat) : Int)) (by omega)
    omega
  · rintro ⟨a, b⟩; exact Int.emod_eq_of_lt a (by omega)
theorem partZ_31 (x : Int) (h0 : -9223372036854775808 ≤ x) (h1 : x ≤ 9223372036854775807) : partZ x 31 = valB x := partZ_first 5 (by omega) x h0 h1

theorem partOf_any (x y : Int) (w : World) :
    Calls Try.prog 88 #[.int .i64 x, .int .i64 y] w fun e w' => e = .returned (.bool (partZ x y)) ∧ w = w' := by
  go_enter Try.func88, Try.ntmps88
  go_wp2_with fail
  go_ret
  exact ⟨rfl, rfl⟩
theorem isValid_any (x : Int) (h0 : -9223372036854775808 ≤ x) (h1 : x ≤ 9223372036854775807) (w : World) :
    Calls Try.prog 136 #[.int .i64 x] w fun e w' => e = .returned (.bool (valB x)) ∧ w = w' := by
  go_enter Try.func136, Try.ntmps136
  go_wp2_with fail
  refine (partOf_any _ _ _).mono ?_
  rintro e w' ⟨rfl, rfl⟩
  go_wp2_with fail
  go_ret
  exact ⟨ret_b (partZ_31 x h0 h1).symm, rfl⟩
theorem colCount_any (n : Int) (w : World) :
    Calls Try.prog 81 #[.int .i64 n] w fun e w' => e = .returned (.bool (decide (0 ≤ n ∧ n ≤ 5))) ∧ w = w' := by
  by_cases h1 : 0 ≤ n <;> by_cases h2 : n ≤ 5
  all_goals
    go_enter Try.func81, Try.ntmps81
    go_wp2
    go_ret
    exact ⟨by simp [h1, h2], rfl⟩
theorem first_any (n : Int) (w : World) (h0 : 0 ≤ n) (h1 : n ≤ 5) :
    Calls Try.prog 43 #[.int .i64 n] w fun e w' => e = .returned (.int .i64 (2 ^ n.toNat - 1)) ∧ w = w' := by
  rcases (show n = 0 ∨ n = 1 ∨ n = 2 ∨ n = 3 ∨ n = 4 ∨ n = 5 by omega) with rfl | rfl | rfl | rfl | rfl | rfl
  all_goals
    go_enter Try.func43, Try.ntmps43
    go_wp2
    go_ret
    exact ⟨rfl, rfl⟩
/-- The number of ones. -/
theorem ones_any (X : Fin 32) (w : World) :
    Calls Try.prog 143 #[.int .u64 ((X.val : Nat) : Int)] w fun e w' => e = .returned (.int .i64 (cnt ((X.val : Nat) : Int) : Int)) ∧ w = w' := by
  go_enter Try.func143, Try.ntmps143
  go_wp2_with fail
  go_ret
  refine ⟨ret_int ?_, rfl⟩
  revert X
  decide +kernel
theorem onesCount_any (X : Nat) (h : X < 32) (w : World) :
    Calls Try.prog 134 #[.int .u64 (X : Int)] w fun e w' => e = .returned (.int .i64 (cnt (X : Int) : Int)) ∧ w = w' := by
  go_enter Try.func134, Try.ntmps134
  go_wp2_with fail
  refine (ones_any ⟨X, h⟩ _).mono ?_
  rintro e w' ⟨rfl, rfl⟩
  go_wp2_with fail
  go_ret
  exact ⟨rfl, rfl⟩
theorem size_any (X : Nat) (h : X < 32) (w : World) :
    Calls Try.prog 120 #[.int .i64 (X : Int)] w fun e w' => e = .returned (.int .i64 (cnt (X : Int) : Int)) ∧ w = w' := by
  go_enter Try.func120, Try.ntmps120
  go_wp2_with fail
  refine (onesCount_any X h _).mono ?_
  rintro e w' ⟨rfl, rfl⟩
  go_wp2_with fail
  go_ret
  exact ⟨rfl, rfl⟩
theorem has_any (X k : Nat) (hk : k ≤ 62) (w : World) :
    Calls Try.prog 78 #[.int .i64 (X : Int), .int .i64 (k : Int)] w fun e w' => e = .returned (.bool (bitB X k)) ∧ w = w' := by
  have hb : (bits BinOp.and IntKind.i64 ((X : Int) / 2 ^ k) 1 != 0) = bitB X k := by
    rw [← bit_test, i64_and_1, Bool.eq_iff_iff, bne_iff_ne, beq_iff_eq]; omega
  go_enter Try.func78, Try.ntmps78
  go_wp2_with fail
  go_ret
  exact ⟨rfl, rfl⟩
theorem implIsA_any (n x : Int) (h0 : -9223372036854775808 ≤ x) (h1 : x ≤ 9223372036854775807) (w : World) :
    Calls Try.prog 92 #[.int .i64 n, .int .i64 x] w fun e w' => e = .returned (.bool (isA n x)) ∧ Below w.heap.size w w' := by
  by_cases hn : 0 ≤ n ∧ n ≤ 5
  · have hd : decide (0 ≤ n ∧ n ≤ 5) = true := by simp [hn]
    have HZ : Hid (isA n x = partZ x (2 ^ n.toNat - 1)) := Lib.hid (by rw [partZ_first n.toNat (by omega) x h0 h1]; unfold isA; simp [hn])
    go_enter Try.func92, Try.ntmps92
    go_wp2_with fail
    refine (colCount_any _ _).mono ?_
    rintro e w' ⟨rfl, rfl⟩
    go_wp2_with fail
    refine (first_any _ _ hn.1 hn.2).mono ?_
    rintro e w' ⟨rfl, rfl⟩
    go_wp2_with fail
    refine (partOf_any _ _ _).mono ?_
    rintro e w' ⟨rfl, rfl⟩
    go_wp2_with fail
    go_ret
    exact ⟨ret_b HZ.out, Below.refl _ _⟩
  · have hd : decide (0 ≤ n ∧ n ≤ 5) = false := by simp only [hn, decide_false]
    go_enter Try.func92, Try.ntmps92
    go_wp2_with fail
    refine (colCount_any _ _).mono ?_
    rintro e w' ⟨rfl, rfl⟩
    go_wp2_with fail
    go_ret
    exact ⟨ret_b (by unfold isA; simp only [hn, false_and, decide_false]), Below.refl _ _⟩
end Go.Proofs.Ytcgkfbjdlhapkaa
namespace Go.Proofs.Ytcgkfbjdlhapkaa
open Go.RowKit

theorem filter_next {α : Type} (p : α → Bool) (l : List α) (d : α) (k : Nat) (h : k < l.length) : (l.take (k + 1)).filter p = if p (l.getD k d) = true then (l.take k).filter p ++ [l.getD k d] else (l.take k).filter p := by
  rw [take_succ_getD l d k h, List.filter_append]
  by_cases hp : p (l.getD k d) = true
  · rw [if_pos hp, List.filter_cons_of_pos hp]; rfl
  · rw [if_neg hp, List.filter_cons_of_neg hp]
    simp
theorem mdIn_filter (f : Int → Nat → Bool) (ps : List Int) (r : Nat) (l0 : List (Int × Int)) : ∀ n, n ≤ ps.length → mdIn f ps r l0 n = l0 ++ ((ps.take n).filter (fun S => f S r)).map (fun S => (S, (r : Int)))
  | 0, _ => by simp [mdIn]
  | n + 1, h => by
    have ih := mdIn_filter f ps r l0 n (by omega)
    have e := filter_next (fun S => f S r) ps 0 n h
    unfold mdIn
    by_cases hf : f (ps.getD n 0) r = true
    · rw [if_pos hf] at e
      rw [if_pos hf, e, ih, List.map_append, ← List.append_assoc]; rfl
    · rw [if_neg hf] at e
      rw [if_neg hf, e, ih]
theorem mdOut_succ (f : Int → Nat → Bool) (ps : List Int) (r : Nat) : mdOut f ps (r + 1) = mdOut f ps r ++ (ps.filter (fun S => f S r)).map (fun S => (S, (r : Int))) := by
  have h := mdIn_filter f ps r (mdOut f ps r) ps.length (Nat.le_refl _)
  rw [List.take_length] at h
  exact h
theorem mdOut_filter (f : Int → Nat → Bool) (q : Int × Int → Bool) (ps : List Int) : ∀ C, (mdOut f ps C).filter q = mdOut (fun S r => f S r && q (S, (r : Int))) ps C
  | 0 => rfl
  | C + 1 => by
    rw [mdOut_succ, mdOut_succ, List.filter_append, mdOut_filter f q ps C, List.filter_map, List.filter_filter]
    congr 2
    exact List.filter_congr fun S _ => Bool.and_comm _ _
/-- e says no more than d. -/
def covB (e d : Int × Int) : Bool := decide (e.2 = d.2) && partZ e.1 d.1
/-- Whether a different one of the list covers d. -/
def unB (l : List (Int × Int)) (d : Int × Int) : Bool := l.any fun e => !decide (e = d) && covB e d
def uncL (l : List (Int × Int)) : List (Int × Int) := l.filter fun d => !unB l d
def candL (C : Nat) : List (Int × Int) := mdOut (fun S r => !bitB S.toNat r) (parts (C : Int)) C
theorem part_sub (a b : Nat) (ha : a < 32) (hb : b < 32) : partZ (a : Int) (b : Int) = subN a b := by
  have h : ∀ a b : Fin 32, partZ ((a.val : Nat) : Int) ((b.val : Nat) : Int) = subN a.val b.val := by decide +kernel
  exact h ⟨a, ha⟩ ⟨b, hb⟩
/-- The dependencies of a filtered list of candidates that no other one covers. -/
theorem unc_low {C : Nat} (hC : C ≤ 5) (g : Int × Int → Bool) :
    uncL ((candL C).filter g) = mdOut (fun S r => decide (S ∈ minS (fltTo (fun S => !bitB S.toNat r && g (S, (r : Int))) (parts (C : Int)) (parts (C : Int)).length))) (parts (C : Int)) C := by
  have h32 := two5 hC
  have hl : (candL C).filter g = mdOut (fun S r => !bitB S.toNat r && g (S, (r : Int))) (parts (C : Int)) C := mdOut_filter _ _ _ _
  have key : ∀ l, l = mdOut (fun S r => !bitB S.toNat r && g (S, (r : Int))) (parts (C : Int)) C →
      (mdOut (fun S r => !bitB S.toNat r && g (S, (r : Int))) (parts (C : Int)) C).filter (fun d => !unB l d) =
      mdOut (fun S r => decide (S ∈ minS (fltTo (fun S => !bitB S.toNat r && g (S, (r : Int))) (parts (C : Int)) (parts (C : Int)).length))) (parts (C : Int)) C := by
    intro l hll
    rw [mdOut_filter]
    refine mdOut_same _ fun S hS r hr => ?_
    obtain ⟨x, hx, rfl⟩ := (parts_mem hC S).1 hS
    obtain ⟨k1, k2⟩ := flt_small hC (fun S => !bitB S.toNat r && g (S, (r : Int)))
    have hmem : ∀ z : Nat, ((z : Int) ∈ fltTo (fun S => !bitB S.toNat r && g (S, (r : Int))) (parts (C : Int)) (parts (C : Int)).length ↔ z < 2 ^ C ∧ (!bitB z r && g ((z : Int), (r : Int))) = true) := by
      intro z
      rw [fltTo_mem]
      constructor
      · rintro ⟨t, t1, t2, t3⟩
        obtain ⟨z', z1, z2⟩ := (parts_mem hC _).1 (mem_getD.2 ⟨t, t1, t3⟩)
        obtain rfl : z = z' := by omega
        rw [← t3] at t2
        exact ⟨z1, t2⟩
      · rintro ⟨z1, z2⟩
        obtain ⟨t, t1, t2⟩ := mem_getD.1 ((parts_mem hC (z : Int)).2 ⟨z, z1, rfl⟩)
        exact ⟨t, t1, by rw [← t2]; exact z2, t2⟩
    have hml : ∀ z : Nat, z < 2 ^ C → (((z : Int), (r : Int)) ∈ l ↔ (!bitB z r && g ((z : Int), (r : Int))) = true) := by
      intro z hz
      rw [hll, mdOut_mem]
      constructor
      · rintro ⟨r', r1, S, r2, r3, r4⟩
        obtain ⟨e1, e2⟩ := Prod.mk.inj r4
        obtain rfl : r = r' := by omega
        subst e1
        exact r3
      · intro h
        exact ⟨r, hr, (z : Int), (parts_mem hC _).2 ⟨z, hz, rfl⟩, h, rfl⟩
    rw [Bool.eq_iff_iff, decide_eq_true_iff, minS_mem k1 k2 x, hmem x, Bool.and_eq_true, Bool.not_eq_true']
    show (_ ∧ _) ↔ _
    constructor
    · rintro ⟨h1, h2⟩
      refine ⟨⟨hx, h1⟩, fun z hz hs => Classical.byContradiction fun hne => ?_⟩
      obtain ⟨z1, z2⟩ := (hmem z).1 hz
      have : unB l ((x : Int), (r : Int)) = true := by
        unfold unB
        rw [List.any_eq_true]
        refine ⟨((z : Int), (r : Int)), (hml z z1).2 z2, ?_⟩
        rw [Bool.and_eq_true, Bool.not_eq_true']
        refine ⟨decide_eq_false fun e => hne (by have := (Prod.mk.inj e).1; omega), ?_⟩
        unfold covB
        simp only [decide_true, Bool.true_and]
        rw [part_sub z x (by omega) (by omega)]; exact hs
      rw [h2] at this
      cases this
    · rintro ⟨⟨-, h1⟩, h2⟩
      refine ⟨h1, Bool.eq_false_iff.2 fun h => ?_⟩
      unfold unB at h
      rw [List.any_eq_true] at h
      obtain ⟨e, he, h⟩ := h
      rw [Bool.and_eq_true, Bool.not_eq_true', decide_eq_false_iff_not] at h
      obtain ⟨hne, hc⟩ := h
      have he' := he
      rw [hll, mdOut_mem] at he'
      obtain ⟨r', r1, S, r2, r3, rfl⟩ := he'
      obtain ⟨z, hz, rfl⟩ := (parts_mem hC S).1 r2
      unfold covB at hc
      rw [Bool.and_eq_true, decide_eq_true_iff] at hc
      obtain ⟨e2, hp⟩ := hc
      simp only at e2 hp
      obtain rfl : r = r' := by omega
      rw [part_sub z x (by omega) (by omega)] at hp
      obtain rfl := h2 z ((hmem z).2 ⟨hz, (hml z hz).1 he⟩) hp
      exact hne rfl
  unfold uncL
  rw [hl]
  exact key _ rfl
theorem unc_min {C : Nat} {ll : List (List Int)} {m : Int} (hf : fineT (C : Int) ll m = true) (h1 : 1 ≤ C) (hC : C ≤ 5) :
    uncL ((candL C).filter (fun d => holdsD (C : Int) ll m d.1 d.2)) = minD C ll m := by
  rw [unc_low hC]
  unfold minD
  refine mdOut_same _ fun S hS r hr => ?_
  obtain ⟨x, hx, rfl⟩ := (parts_mem hC S).1 hS
  rw [Bool.eq_iff_iff, decide_eq_true_iff]
  show _ ↔ minN C ll m x r = true
  refine low_min hC hr (fun z hz => ?_) hx
  rw [Bool.and_eq_true, Bool.not_eq_true']
  have ho := okD_all (S := z) (R := r) hf h1 hC hz hr
  have h3 := holds_iff ho rfl rfl rfl hC hr
  rw [← h3]
  exact Iff.rfl
theorem unc_app {C : Nat} {ll : List (List Int)} {m rows : Int} (hC : C ≤ 5) :
    uncL ((candL C).filter (fun d => decide (remD (C : Int) ll m d.1 d.2 ≤ rows))) = appD C ll m rows := by
  rw [unc_low hC]
  rfl
/-- The greatest and the smallest sets hang on the members alone. -/
theorem maxS_ext {l l' : List Int} (h : setsOk l = true) (h' : setsOk l' = true) (he : ∀ y, y ∈ l ↔ y ∈ l') : maxS l = maxS l' := by
  unfold maxS
  rw [if_pos h, if_pos h']
  refine ascI_unique _ _ (mxTo_asc _ _) (mxTo_asc _ _) fun y => ?_
  have step : ∀ (a b : List Int), (∀ y, y ∈ a ↔ y ∈ b) → y ∈ mxTo a a.length → y ∈ mxTo b b.length := by
    intro a b hab hy
    rw [mxTo_mem] at hy ⊢
    obtain ⟨t, t1, t2, t3⟩ := hy
    obtain ⟨s, s1, s2⟩ := mem_getD.1 ((hab y).1 (mem_getD.2 ⟨t, t1, t2⟩))
    refine ⟨s, s1, s2, (topK_iff _ _ _).2 fun u hu => ?_⟩
    obtain ⟨v, v1, v2⟩ := mem_getD.1 ((hab _).2 (mem_getD.2 ⟨u, hu, rfl⟩))
    have := (topK_iff _ _ _).1 t3 v v1
    rw [← v2] at this
    exact this
  exact ⟨step _ _ he, step _ _ fun z => (he z).symm⟩
theorem minS_ext {l l' : List Int} (h : setsOk l = true) (h' : setsOk l' = true) (he : ∀ y, y ∈ l ↔ y ∈ l') : minS l = minS l' := by
  unfold minS
  rw [if_pos h, if_pos h']
  refine ascI_unique _ _ (mnTo_asc _ _) (mnTo_asc _ _) fun y => ?_
  have step : ∀ (a b : List Int), (∀ y, y ∈ a ↔ y ∈ b) → y ∈ mnTo a a.length → y ∈ mnTo b b.length := by
    intro a b hab hy
    rw [mnTo_mem] at hy ⊢
    obtain ⟨t, t1, t2, t3⟩ := hy
    obtain ⟨s, s1, s2⟩ := mem_getD.1 ((hab y).1 (mem_getD.2 ⟨t, t1, t2⟩))
    refine ⟨s, s1, s2, (lowK_iff _ _ _).2 fun u hu => ?_⟩
    obtain ⟨v, v1, v2⟩ := mem_getD.1 ((hab _).2 (mem_getD.2 ⟨u, hu, rfl⟩))
    have := (lowK_iff _ _ _).1 t3 v v1
    rw [← v2] at this
    exact this
  exact ⟨step _ _ he, step _ _ fun z => (he z).symm⟩
theorem parts_len32 {C : Nat} (hC : C ≤ 5) : (parts (C : Int)).length ≤ 32 := by
  have h2 : ∀ C : Fin 6, (parts ((C.val : Nat) : Int)).length ≤ 32 := by decide +kernel
  exact h2 ⟨C, by omega⟩
theorem filt_ok {C : Nat} (hC : C ≤ 5) (g : Int → Bool) : setsOk ((parts (C : Int)).filter g) = true := by
  have h32 := two5 hC
  unfold setsOk
  rw [Bool.and_eq_true, decide_eq_true_iff, List.all_eq_true]
  refine ⟨fun y hy => ?_, ?_⟩
  · obtain ⟨x, hx, rfl⟩ := (parts_mem hC y).1 (List.mem_filter.1 hy).1
    have h : ∀ x : Fin 32, valB ((x.val : Nat) : Int) = true := by decide +kernel
    exact h ⟨x, by omega⟩
  · have h1 := List.length_filter_le g (parts (C : Int))
    have := parts_len32 hC
    omega
theorem filt_brd {C : Nat} (hC : C ≤ 5) {g : Int → Bool} {f : Nat → Bool} (h : ∀ x : Nat, x < 2 ^ C → g (x : Int) = f x) (y : Int) : y ∈ (parts (C : Int)).filter g ↔ y ∈ brdTo f (2 ^ C) := by
  rw [List.mem_filter, brdTo_mem]
  constructor
  · rintro ⟨h1, h2⟩
    obtain ⟨x, hx, rfl⟩ := (parts_mem hC y).1 h1
    exact ⟨x, hx, by rw [← h x hx]; exact h2, rfl⟩
  · rintro ⟨x, hx, h2, rfl⟩
    exact ⟨(parts_mem hC _).2 ⟨x, hx, rfl⟩, by rw [h x hx]; exact h2⟩
theorem max_filt {C : Nat} (hC : C ≤ 5) {g : Int → Bool} {f : Nat → Bool} (h : ∀ x : Nat, x < 2 ^ C → g (x : Int) = f x) : maxS ((parts (C : Int)).filter g) = maxS (brdTo f (2 ^ C)) :=
  maxS_ext (filt_ok hC g) (brdTo_ok f (two5 hC)) (filt_brd hC h)
theorem min_filt {C : Nat} (hC : C ≤ 5) {g : Int → Bool} {f : Nat → Bool} (h : ∀ x : Nat, x < 2 ^ C → g (x : Int) = f x) : minS ((parts (C : Int)).filter g) = minS (brdTo f (2 ^ C)) :=
  minS_ext (filt_ok hC g) (brdTo_ok f (two5 hC)) (filt_brd hC h)
theorem holds_h7 {C : Nat} {ll : List (List Int)} {m : Int} (hf : fineT (C : Int) ll m = true) (h1 : 1 ≤ C) (hC : C ≤ 5) {x R : Nat} (hx : x < 2 ^ C) (hR : R < C) : holdsD (C : Int) ll m (x : Int) (R : Int) = h7 C ll m x R := by
  have ho := okD_all (S := x) (R := R) hf h1 hC hx hR
  have h3 := holds_iff ho rfl rfl rfl hC hR
  rw [Bool.eq_iff_iff, h3, h7_iff hC hR]
/-- The border, from the list of sets by size. -/
theorem brd_filt {C : Nat} {ll : List (List Int)} {m : Int} {R : Nat} (hf : fineT (C : Int) ll m = true) (h1 : 1 ≤ C) (hC : C ≤ 5) (hR : R < C) :
    maxS (((parts (C : Int)).filter (fun S => !bitB S.toNat R)).filter (fun S => !holdsD (C : Int) ll m S (R : Int))) = brdL C ll m R := by
  rw [List.filter_filter]
  unfold brdL
  refine max_filt hC fun x hx => ?_
  rw [holds_h7 hf h1 hC hx hR]
  show (_ && !bitB x R) = _
  rw [Bool.and_comm]
theorem parts_small (n S : Int) (h : S ∈ parts n) : ∃ X : Nat, S = (X : Int) ∧ X < 32 := by
  by_cases hn : 0 ≤ n ∧ n ≤ 5
  · obtain ⟨C, rfl⟩ : ∃ C : Nat, n = (C : Int) := ⟨n.toNat, by omega⟩
    obtain ⟨h0, h1⟩ := parts_nat ⟨C, by omega⟩ S h
    exact ⟨S.toNat, by omega, by omega⟩
  · unfold parts at h
    rw [if_neg hn] at h
    cases h
theorem all_hit {p : Int → Bool} (l : List Int) (d : Int) (k : Nat) (h : k < l.length) (hp : p (l.getD k d) = false) : l.all p = false := by
  cases h' : l.all p with
  | false => rfl
  | true =>
    have := List.all_eq_true.1 h' (l.getD k d) (by rw [List.getD_eq_getElem?_getD, List.getElem?_eq_getElem h]; exact List.getElem_mem h)
    rw [hp] at this; cases this
end Go.Proofs.Ytcgkfbjdlhapkaa
namespace Go.Proofs.Ytcgkfbjdlhapkaa
open Go.RowKit

/-- The dependency applies to x: its left side is there, its right one is not. -/
def appN (x : Nat) (d : Int × Int) : Bool := subN d.1.toNat x && !bitB x d.2.toNat
def frst (l : List (Int × Int)) (x : Nat) : Nat := l.findIdx (appN x)
/-- The steps from x on, at most so many. -/
def drv (l : List (Int × Int)) (R : Nat) : Nat → Nat → List (Int × Int × Int)
  | 0, _ => []
  | k + 1, x => if bitB x R = true then [] else if frst l x < l.length then ((frst l x : Int), (x : Int), (orN x (l.getD (frst l x) (0, 0)).2.toNat : Int)) :: drv l R k (orN x (l.getD (frst l x) (0, 0)).2.toNat) else []
def impB (n : Int) (l : List (Int × Int)) (d : Int × Int) : Bool := arD n l && (depB n d.1 d.2 && bitB (clo l d.1.toNat) d.2.toNat)
def derL (n : Int) (l : List (Int × Int)) (d : Int × Int) : List (Int × Int × Int) := if impB n l d = true then drv l d.2.toNat 6 d.1.toNat else []
theorem frst_at {l : List (Int × Int)} {x i : Nat} (hi : i < l.length) (h : appN x (l.getD i (0, 0)) = true) (hn : ∀ j, j < i → appN x (l.getD j (0, 0)) = false) : frst l x = i := by
  have hg : ∀ j (hj : j < l.length), l.getD j (0, 0) = l[j] := fun j hj => by rw [List.getD_eq_getElem?_getD, List.getElem?_eq_getElem hj]; rfl
  unfold frst
  rw [List.findIdx_eq hi]
  exact ⟨by rw [← hg i hi]; exact h, fun j hj => by rw [← hg j (by omega)]; exact hn j hj⟩
theorem frst_app {l : List (Int × Int)} {x : Nat} (h : frst l x < l.length) : appN x (l.getD (frst l x) (0, 0)) = true := by
  rw [List.getD_eq_getElem?_getD, List.getElem?_eq_getElem h]
  exact List.findIdx_getElem (w := h)
theorem frst_none {l : List (Int × Int)} {x : Nat} (h : ¬ frst l x < l.length) : ClosedN l x := by
  intro d hd hs
  cases hb : bitB x d.2.toNat with
  | true => rfl
  | false => exact absurd (List.findIdx_lt_length_of_exists ⟨d, hd, by unfold appN; rw [hs, hb]; rfl⟩) h
theorem orN_not : ∀ (x : Fin 32) (R : Fin 5), bitB x.val R.val = false → popN x.val + 1 ≤ popN (orN x.val R.val) := by decide +kernel
theorem drv_end {l : List (Int × Int)} {R k x : Nat} (h : bitB x R = true) : drv l R k x = [] := by
  cases k with
  | zero => rfl
  | succ k => unfold drv; rw [if_pos h]
theorem sub_bitN {a b : Nat} (ha : a < 32) (hb : b < 32) (h : subN a b = true) {R : Nat} (hR : R < 5) (h2 : bitB a R = true) : bitB b R = true := (subN_bit ⟨a, ha⟩ ⟨b, hb⟩).1 h ⟨R, hR⟩ h2
/-- A step of the derivation. -/
theorem drv_step {C : Nat} {l : List (Int × Int)} (hC : C ≤ 5) (hl : DepsN C l) {L R k x : Nat} (hL : L < 32) (hR : R < 5) (hx : x < 32) (hLx : subN L x = true) (hxc : subN x (clo l L) = true) (himp : bitB (clo l L) R = true) (hb : bitB x R = false) (hk : 6 ≤ popN x + k) :
    ∃ k' y, k = k' + 1 ∧ frst l x < l.length ∧ y = orN x (l.getD (frst l x) (0, 0)).2.toNat ∧ drv l R k x = ((frst l x : Int), (x : Int), (y : Int)) :: drv l R k' y ∧ 6 ≤ popN y + k' ∧ y < 32 ∧ subN L y = true ∧ subN y (clo l L) = true := by
  obtain ⟨c1, c2, -, c3, c4⟩ := clo_spec hC hl hL
  have hf : frst l x < l.length := Classical.byContradiction fun hn => by
    have h1 := c4 x hx hLx (frst_none hn)
    rw [sub_bitN c1 hx h1 hR himp] at hb
    cases hb
  have ha := frst_app hf
  unfold appN at ha
  rw [Bool.and_eq_true, Bool.not_eq_true'] at ha
  obtain ⟨Ld, Rd, e, hLd, hRd⟩ := hl _ (memD hf)
  have eR : (l.getD (frst l x) (0, 0)).2.toNat = Rd := by rw [e]; rfl
  rw [eR] at ha
  have p5 := popN_le x
  obtain ⟨k', rfl⟩ : ∃ k', k = k' + 1 := ⟨k - 1, by omega⟩
  have h1 := orN_fin ⟨x, hx⟩ ⟨Rd, by omega⟩
  have h2 := orN_not ⟨x, hx⟩ ⟨Rd, by omega⟩ ha.2
  have h3 := orN_least ⟨x, hx⟩ ⟨_, c1⟩ ⟨Rd, by omega⟩ hxc (by
    have := c3 _ (memD hf) (subN_trans ha.1 hxc)
    rw [eR] at this
    exact this)
  simp only at h1 h2 h3
  refine ⟨k', orN x Rd, rfl, hf, by rw [eR], ?_, by omega, h1.1, subN_trans hLx h1.2.1, h3⟩
  conv => lhs; unfold drv
  rw [if_neg (by rw [hb]; exact Bool.false_ne_true), if_pos hf, eR]
theorem drv_len (l : List (Int × Int)) (R : Nat) : ∀ k x, (drv l R k x).length ≤ k
  | 0, _ => Nat.le_refl _
  | k + 1, x => by
    unfold drv
    split
    · exact Nat.zero_le _
    · split
      · rw [List.length_cons]
        have := drv_len l R k (orN x (l.getD (frst l x) (0, 0)).2.toNat)
        omega
      · exact Nat.zero_le _
theorem derL_len (n : Int) (l : List (Int × Int)) (d : Int × Int) : (derL n l d).length ≤ 6 := by
  unfold derL
  split
  · exact drv_len _ _ _ _
  · exact Nat.zero_le _
/-- The set after the first i steps; whether they are right. -/
def chkX (l : List (Int × Int)) (x : Nat) (s : List (Int × Int × Int)) : Nat → Nat
  | 0 => x
  | i + 1 => orN (chkX l x s i) (l.getD (s.getD i (0, 0, 0)).1.toNat (0, 0)).2.toNat
def chkAt (l : List (Int × Int)) (x : Nat) (t : Int × Int × Int) : Bool :=
  decide (0 ≤ t.1 ∧ t.1 < (l.length : Int)) && (t.2.1 == (x : Int)) && subN (l.getD t.1.toNat (0, 0)).1.toNat x && (t.2.2 == (orN x (l.getD t.1.toNat (0, 0)).2.toNat : Int))
def chkTo (l : List (Int × Int)) (x : Nat) (s : List (Int × Int × Int)) : Nat → Bool
  | 0 => true
  | i + 1 => chkTo l x s i && chkAt l (chkX l x s i) (s.getD i (0, 0, 0))
def chkB (n : Int) (l : List (Int × Int)) (d : Int × Int) (s : List (Int × Int × Int)) : Bool :=
  arD n l && (depB n d.1 d.2 && (chkTo l d.1.toNat s s.length && bitB (chkX l d.1.toNat s s.length) d.2.toNat))
theorem chkX_lt {C : Nat} {l : List (Int × Int)} (hC : C ≤ 5) (hl : DepsN C l) {x : Nat} (hx : x < 32) (s : List (Int × Int × Int)) : ∀ i, chkTo l x s i = true → chkX l x s i < 32
  | 0, _ => hx
  | i + 1, h => by
    unfold chkTo at h
    rw [Bool.and_eq_true] at h
    have h1 := chkX_lt hC hl hx s i h.1
    have h2 := h.2
    unfold chkAt at h2
    rw [Bool.and_eq_true, Bool.and_eq_true, Bool.and_eq_true, decide_eq_true_iff] at h2
    obtain ⟨Ld, Rd, e, hLd, hRd⟩ := hl _ (memD (l := l) (i := (s.getD i (0, 0, 0)).1.toNat) (by omega))
    unfold chkX
    rw [e]
    exact (orN_fin ⟨_, h1⟩ ⟨Rd, by omega⟩).1
theorem chkTo_le {l : List (Int × Int)} {x : Nat} {s : List (Int × Int × Int)} : ∀ {j i : Nat}, i ≤ j → chkTo l x s j = true → chkTo l x s i = true
  | 0, i, h, hj => by rw [show i = 0 by omega]; exact hj
  | j + 1, i, h, hj => by
    by_cases e : i = j + 1
    · rw [e]; exact hj
    · unfold chkTo at hj
      rw [Bool.and_eq_true] at hj
      exact chkTo_le (by omega) hj.1
/-- The sets that are their own closures. -/
def clsL (n : Int) (l : List (Int × Int)) : List Int := if arD n l = true then brdTo (clB l) (2 ^ n.toNat) else []
def smB (n : Int) (a b : List (Int × Int)) : Bool := arD n a && (arD n b && decide (clsL n a = clsL n b))
def cloZ (n : Int) (l : List (Int × Int)) (s : Int) : Int := if (arD n l && isA n s) = true then (clo l s.toNat : Int) else 0
end Go.Proofs.Ytcgkfbjdlhapkaa
namespace Go.Proofs.Ytcgkfbjdlhapkaa
open Go.RowKit

/-- The slice value v can be read: it holds these dependencies. -/
def ReadD (w : World) (v : Value) (ds : List (Int × Int)) : Prop :=
  ∃ (a : Option Addr) (cap : Nat), v = .slice a ds.length cap ∧ ∀ i, i < ds.length → ∃ b o, a = some ⟨b, o, none⟩ ∧ w.cell? ⟨b, o + i * 2, none⟩ = some (.int .i64 (ds.getD i (0, 0)).1) ∧ w.cell? ⟨b, o + i * 2 + 1, none⟩ = some (.int .i64 (ds.getD i (0, 0)).2)
end Go.Proofs.Ytcgkfbjdlhapkaa
namespace Go.Proofs.Ytcgkfbjdlhapkaa
open Go.RowKit

/-- The cells of a list of dependencies. -/
def depsV : List (Int × Int) → List Value
  | [] => []
  | d :: t => .int .i64 d.1 :: .int .i64 d.2 :: depsV t
theorem depsV_len : ∀ ds : List (Int × Int), (depsV ds).length = ds.length * 2
  | [] => rfl
  | d :: t => by simp only [depsV, List.length_cons, depsV_len t]; omega
theorem depsV_get : ∀ (ds : List (Int × Int)) (i : Nat), i < ds.length → (depsV ds)[i * 2]? = some (.int .i64 (ds.getD i (0, 0)).1) ∧ (depsV ds)[i * 2 + 1]? = some (.int .i64 (ds.getD i (0, 0)).2)
  | [], i, h => absurd h (Nat.not_lt_zero _)
  | d :: t, 0, _ => ⟨rfl, rfl⟩
  | d :: t, i + 1, h => by
    have ih := depsV_get t i (by simpa using h)
    rw [show (i + 1) * 2 = i * 2 + 1 + 1 by omega]
    simpa [depsV] using ih
theorem depsV_set : ∀ (ds : List (Int × Int)) (i : Nat) (a b : Int), ((depsV ds).set (i * 2) (.int .i64 a)).set (i * 2 + 1) (.int .i64 b) = depsV (ds.set i (a, b))
  | [], i, a, b => by simp [depsV]
  | d :: t, 0, a, b => rfl
  | d :: t, i + 1, a, b => by
    have ih := depsV_set t i a b
    rw [show (i + 1) * 2 = i * 2 + 1 + 1 by omega]
    simp only [depsV, List.set_cons_succ]
    rw [ih]
/-- A slice of dependencies that the call owns. -/
def OwnD (w : World) (B : Nat) (v : Value) (ds : List (Int × Int)) : Prop := w.ownsRow B 44 2 v ds.length (depsV ds)
theorem infoDp : (Try.prog.info? 44).map (fun i => (i.zero, i.size, i.bytes)) = some (some (.agg #[.int .i64 0, .int .i64 0]), 2, 16) := by kernel_rfl
theorem OwnD.read {w : World} {B : Nat} {v : Value} {ds : List (Int × Int)} (h : OwnD w B v ds) : ReadD w v ds := by
  rcases h.2 with ⟨rfl, h0⟩ | ⟨g, cap, cur, rfl, hB, hgg, rest⟩
  · exact ⟨none, 0, by rw [h0], fun i hi => by omega⟩
  · refine ⟨_, cap, rfl, fun i hi => ⟨g, 0, rfl, ?_, ?_⟩⟩
    · rw [Nat.zero_add, World.ownsRow.cellAt h (i * 2) (by omega), (depsV_get ds i hi).1]
    · rw [Nat.zero_add, World.ownsRow.cellAt h (i * 2 + 1) (by omega), (depsV_get ds i hi).2]
theorem ReadD.kept {w w' : World} {v : Value} {ds : List (Int × Int)} (h : ReadD w v ds) (hb : Below w.heap.size w w') : ReadD w' v ds := by
  obtain ⟨a, cap, hv, hc⟩ := h
  refine ⟨a, cap, hv, fun i hi => ?_⟩
  obtain ⟨b, o, ha, h0, h1⟩ := hc i hi
  exact ⟨b, o, ha, (hb.cell (World.block_lt_of_cell? w _ h0)).trans h0, (hb.cell (World.block_lt_of_cell? w _ h1)).trans h1⟩
theorem OwnD.lt {w : World} {B : Nat} {v : Value} {ds : List (Int × Int)} (h : OwnD w B v ds) : ∀ k, v.ownBlock = some k → B ≤ k ∧ k < w.heap.size := World.ownsRow.lt h
theorem OwnD.below {w w' : World} {B C : Nat} {v : Value} {ds : List (Int × Int)} (h : OwnD w B v ds) (hb : Below C w w') (hC : ∀ k, v.ownBlock = some k → k < C) : OwnD w' B v ds := by
  refine ⟨h.1, ?_⟩
  rcases h.2 with hn | ⟨g, cap, cur, rfl, hB, hgg, rest⟩
  · exact .inl hn
  · exact .inr ⟨g, cap, cur, rfl, hB, (hb.block g (hC g rfl)).trans hgg, rest⟩
theorem OwnD.store {w : World} {B g cap n : Nat} {ds : List (Int × Int)} (h : OwnD w B (.slice (some ⟨g, 0, none⟩) n cap) ds) (i : Nat) (a b : Int) : OwnD ((w.setCell ⟨g, i * 2, none⟩ (.int .i64 a)).setCell ⟨g, i * 2 + 1, none⟩ (.int .i64 b)) B (.slice (some ⟨g, 0, none⟩) n cap) (ds.set i (a, b)) := by
  have hn : n = ds.length := by rcases h.2 with ⟨h', _⟩ | ⟨g', cap', cur, h', _⟩ <;> simp at h'; omega
  subst hn
  have h1 := (World.ownsRow.stored (World.ownsRow.stored h (i * 2) (.int .i64 a)).1 (i * 2 + 1) (.int .i64 b)).1
  rw [depsV_set] at h1
  unfold OwnD
  rw [List.length_set]; exact h1
set_option maxHeartbeats 800000 in
theorem szDepS_any (v : Value) (ds : List (Int × Int)) (w : World) (hr : ReadD w v ds) (left : Int) (h0 : 0 ≤ left) (h1 : left ≤ 1048576) (hs : ds.length ≤ 9223372036854775807) :
    Calls Try.prog 11 #[v, .int .i64 left] w fun e w' => e = .returned (.int .i64 (szD left ds.length)) ∧ w = w' := by
  obtain ⟨a, cap, rfl, -⟩ := hr
  by_cases hle : (ds.length : Int) ≤ left
  · have HE : Hid (szD left ds.length = left - ds.length) := Lib.hid (by unfold szD; rw [if_pos hle])
    go_enter Try.func11, Try.ntmps11
    go_wp2_with fail
    go_ret
    exact ⟨ret_int HE.out.symm, rfl⟩
  · have HE : Hid (szD left ds.length = -1) := Lib.hid (by unfold szD; rw [if_neg hle])
    have hlt : left < (ds.length : Int) := by omega
    go_enter Try.func11, Try.ntmps11
    go_wp2_with fail
    go_ret
    exact ⟨ret_int HE.out.symm, rfl⟩
theorem depsV_zero : ∀ n : Nat, depsV (List.replicate n (0, 0)) = List.replicate (n * 2) (.int .i64 0)
  | 0 => rfl
  | n + 1 => by
    rw [show (n + 1) * 2 = n * 2 + 1 + 1 by omega, List.replicate_succ, List.replicate_succ, List.replicate_succ, depsV, depsV_zero n]
theorem made_deps (n : Nat) : (madeCells (Value.cells (.agg #[.int .i64 0, .int .i64 0])) (n * 2)).toList = depsV (List.replicate n (0, 0)) := by
  rw [depsV_zero]
  unfold madeCells
  apply List.ext_getElem
  · simp
  · intro i h1 h2
    simp only [Array.toList_map, List.getElem_map, List.getElem_replicate, Array.getElem_toList, Array.getElem_range]
    show (#[Value.int .i64 0, Value.int .i64 0])[i % 2]! = _
    rcases (show i % 2 = 0 ∨ i % 2 = 1 by omega) with h | h <;> rw [h] <;> rfl
theorem OwnD.full {w : World} {B : Nat} {v : Value} {n : Nat} (h : w.ownsRow B 44 2 v n (madeCells (Value.cells (.agg #[.int .i64 0, .int .i64 0])) (n * 2)).toList) : OwnD w B v (List.replicate n (0, 0)) := by
  unfold OwnD
  rw [List.length_replicate, ← made_deps]; exact h
/-- A slice of dependencies of the call's own. -/
def RetD (ds : List (Int × Int)) (w : World) (e : Ending) (w' : World) : Prop := ∃ v, e = .returned v ∧ OwnD w' w.heap.size v ds ∧ Below w.heap.size w w'
set_option maxRecDepth 20000 in
set_option maxHeartbeats 1600000 in
theorem toDepS_any (v : Value) (ds : List (Int × Int)) (w : World) (hr : ReadD w v ds) (hl : ds.length ≤ 1048576) :
    Calls Try.prog 13 #[v] w (RetD ds w) := by
  obtain ⟨i0, hi, hz0, hz1, hz2⟩ := info_parts infoDp
  have HI : Hid (_ ∧ _ ∧ _ ∧ _) := Lib.hid ⟨hi, hz0, hz1, hz2⟩
  clear hi hz0 hz1 hz2
  obtain ⟨a, cap, rfl, ha⟩ := hr
  have HA := Lib.hid ha
  clear ha
  go_enter Try.func13, Try.ntmps13
  go_wp2_with (at_make; refine wpList_make_full _ rfl _ _ 26 rfl w.heap.size 44 i0 (.agg #[.int .i64 0, .int .i64 0]) 2 Try.underlying26 HI.out.1 HI.out.2.1 HI.out.2.2.1 .i64 .i64 _ _ ds.length rfl rfl rfl rfl (by rw [HI.out.2.2.2]; omega) (by unfold maxLen; omega) (Nat.le_refl _) ?_; intro w0 hown0 hgrow0)
  have hown := OwnD.full hown0
  have hb0 := (Below.refl w.heap.size w).grown hgrow0 (Nat.le_refl _) (by simp)
  clear hown0 hgrow0
  go_loopw [4] (fun iv wr => ∃ (k : Nat) (l : List (Int × Int)), k ≤ ds.length ∧ iv = .int .i64 (k : Int) ∧ OwnD wr w.heap.size (.slice (some ⟨w.heap.size, 0, none⟩) ds.length ds.length) l ∧ Hid (l.length = ds.length ∧ l.take k = ds.take k) ∧ Below w.heap.size w wr) (fun iv _ => ds.length - (intOf iv).toNat)
  case atStart => exact ⟨0, _, by omega, rfl, hown, Lib.hid ⟨by simp, by simp⟩, hb0⟩
  case round =>
    clear hown hb0
    obtain ⟨k, l, hk, rfl, ho, HL, hb⟩ := hrel
    obtain ⟨w1, hw1⟩ : ∃ w', w' = wr := ⟨_, rfl⟩
    rw [← hw1] at ho hb ⊢
    clear hw1
    by_cases hlt : k < ds.length
    · obtain ⟨b, o, rfl, h0, h1⟩ := HA.out k hlt
      replace h0 := (hb.cell (World.block_lt_of_cell? w _ h0)).trans h0
      replace h1 := (hb.cell (World.block_lt_of_cell? w _ h1)).trans h1
      have z0 : (0 : Int) ≤ (k : Int) := by omega
      have z1 : (k : Int) < (ds.length : Int) := by omega
      obtain ⟨⟨x0, x1⟩, hx⟩ : ∃ z, z = ds.getD k (0, 0) := ⟨_, rfl⟩
      rw [← hx] at h0 h1
      simp only at h0 h1
      have HK := Lib.hid (toDep_any x0 x1 w1)
      have HX := Lib.hid hx
      have HO := Lib.hid ho
      clear hx ho
      go_wp2_with fail
      refine HK.out.mono ?_
      rintro e w2 ⟨rfl, b2⟩
      have ho2 := HO.out.below b2 (fun k hk => (HO.out.lt k hk).2)
      have hb2 := hb.trans (b2.mono hb.size)
      have hlk : k < l.length := by rw [HL.out.1]; exact hlt
      have g0 : w2.cell? ⟨w.heap.size, k * 2, none⟩ = some (.int .i64 (l.getD k (0, 0)).1) := by rw [World.ownsRow.cellAt (show w2.ownsRow w.heap.size _ 2 _ ds.length (depsV l) from by have := ho2; unfold OwnD at this; rw [HL.out.1] at this; exact this) (k * 2) (by omega), (depsV_get l k hlk).1]
      have g1 : w2.cell? ⟨w.heap.size, k * 2 + 1, none⟩ = some (.int .i64 (l.getD k (0, 0)).2) := by rw [World.ownsRow.cellAt (show w2.ownsRow w.heap.size _ 2 _ ds.length (depsV l) from by have := ho2; unfold OwnD at this; rw [HL.out.1] at this; exact this) (k * 2 + 1) (by omega), (depsV_get l k hlk).2]
      have f0 : w2.frozen? ⟨w.heap.size, k * 2, none⟩ = false := World.ownsRow.frozenAt (show w2.ownsRow w.heap.size _ 2 _ ds.length (depsV l) from by have := ho2; unfold OwnD at this; rw [HL.out.1] at this; exact this) _
      have f1 : w2.frozen? ⟨w.heap.size, k * 2 + 1, none⟩ = false := World.ownsRow.frozenAt (show w2.ownsRow w.heap.size _ 2 _ ds.length (depsV l) from by have := ho2; unfold OwnD at this; rw [HL.out.1] at this; exact this) _
      have HS := Lib.hid (ho2.store k x0 x1)
      have hbe := (hb2.setCell (p := ⟨w.heap.size, k * 2, none⟩) (Nat.le_refl _) (.int .i64 x0)).setCell (p := ⟨w.heap.size, k * 2 + 1, none⟩) (Nat.le_refl _) (.int .i64 x1)
      have HN : Hid ((l.set k (x0, x1)).length = ds.length ∧ (l.set k (x0, x1)).take (k + 1) = ds.take (k + 1)) := Lib.hid ⟨by rw [List.length_set]; exact HL.out.1, by
        rw [take_succ_getD ds (0, 0) k hlt, take_succ_getD (l.set k (x0, x1)) (0, 0) k (by rw [List.length_set]; exact hlk), List.take_set_of_le (Nat.le_refl _), HL.out.2, ← HX.out]
        congr 2
        rw [List.getD_eq_getElem?_getD, List.getElem?_set_self hlk]; rfl⟩
      clear ho2 b2
      go_wp2_with fail
      go_roundw
      case rel => exact ⟨k + 1, _, by omega, by go_num, HS.out, HN, hbe⟩
      case measure => simp [intOf]; omega
    · obtain rfl : k = ds.length := by omega
      have he : l = ds := by
        have h := HL.out.2
        rw [List.take_length, List.take_of_length_le (by rw [HL.out.1]; exact Nat.le_refl _)] at h
        exact h
      subst he
      go_wp2_with fail
      go_ret
      exact ⟨_, rfl, ho, hb⟩
/-- What a region of two lists' places holds on to. -/
theorem keep4 {w3 w' w'' : World} {p0 p1 p2 p3 : Addr} {v0 v1 v2 v3 : Value} (h : w'.cell? p0 = some v0 ∧ w'.cell? p1 = some v1 ∧ w'.cell? p2 = some v2 ∧ w'.cell? p3 = some v3 ∧ Below w3.heap.size w3 w') (b : Below w'.heap.size w' w'') :
    w''.cell? p0 = some v0 ∧ w''.cell? p1 = some v1 ∧ w''.cell? p2 = some v2 ∧ w''.cell? p3 = some v3 ∧ Below w3.heap.size w3 w'' :=
  ⟨(b.cell (World.block_lt_of_cell? _ _ h.1)).trans h.1, (b.cell (World.block_lt_of_cell? _ _ h.2.1)).trans h.2.1, (b.cell (World.block_lt_of_cell? _ _ h.2.2.1)).trans h.2.2.1, (b.cell (World.block_lt_of_cell? _ _ h.2.2.2.1)).trans h.2.2.2.1, h.2.2.2.2.trans (b.mono h.2.2.2.2.size)⟩
theorem below4 {w3 w' : World} {p0 p1 p2 p3 : Addr} {v0 v1 v2 v3 : Value} (h : w'.cell? p0 = some v0 ∧ w'.cell? p1 = some v1 ∧ w'.cell? p2 = some v2 ∧ w'.cell? p3 = some v3 ∧ Below w3.heap.size w3 w') : Below w3.heap.size w3 w' := h.2.2.2.2
theorem dep_box2 (w : World) (T T' : TypeId) (a b l r : Value) : (((w.alloc (.cells #[a, b] T)).alloc (.cells #[l, r] T')).cell? ⟨w.heap.size, 0, none⟩ = some a ∧ ((w.alloc (.cells #[a, b] T)).alloc (.cells #[l, r] T')).cell? ⟨w.heap.size, 1, none⟩ = some b) ∧ ((w.alloc (.cells #[a, b] T)).alloc (.cells #[l, r] T')).cell? ⟨w.heap.size + 1, 0, none⟩ = some l ∧ ((w.alloc (.cells #[a, b] T)).alloc (.cells #[l, r] T')).cell? ⟨w.heap.size + 1, 1, none⟩ = some r := boxTD (Below.refl _ _)
theorem eqDep_any (a b l r : Int) (w : World) :
    Calls Try.prog 44 #[.agg #[.int .i64 a, .int .i64 b], .agg #[.int .i64 l, .int .i64 r]] w fun e w' => e = .returned (.bool (decide (a = l) && decide (b = r))) ∧ Below w.heap.size w w' := by
  have hb1 := (Below.refl w.heap.size w).alloc (Nat.le_refl _) (.cells #[.int .i64 a, .int .i64 b] 44)
  have hb2 := hb1.alloc hb1.size (.cells #[.int .i64 l, .int .i64 r] 44)
  obtain ⟨⟨c0, c1⟩, d0, d1⟩ := dep_box2 w 44 44 (.int .i64 a) (.int .i64 b) (.int .i64 l) (.int .i64 r)
  by_cases h0 : a = l
  · subst h0
    by_cases h1 : b = r
    · subst h1
      go_enter Try.func44, Try.ntmps44
      go_wp2_with fail
      go_ret
      exact ⟨ret_b (by simp), hb2⟩
    · have hne : (b != r) = true := by rw [bne_iff_ne]; exact h1
      go_enter Try.func44, Try.ntmps44
      go_wp2_with fail
      go_ret
      exact ⟨ret_b (by rw [decide_eq_false h1]; simp), hb2⟩
  · have hne : (a != l) = true := by rw [bne_iff_ne]; exact h0
    go_enter Try.func44, Try.ntmps44
    go_wp2_with fail
    go_ret
    exact ⟨ret_b (by rw [decide_eq_false h0]; simp), hb2⟩
set_option maxRecDepth 20000 in
set_option maxHeartbeats 1600000 in
/-- A list against a copy of it. -/
theorem eqDepS_same (v v' : Value) (d : List (Int × Int)) (w : World) (hr : ReadD w v d) (hr' : ReadD w v' d) (hl : d.length ≤ 1048576) :
    Calls Try.prog 16 #[v, v'] w fun e' w' => e' = .returned (.bool true) ∧ Below w.heap.size w w' := by
  obtain ⟨p, cap, rfl, ha⟩ := hr
  obtain ⟨p', cap', rfl, ha'⟩ := hr'
  have HA := Lib.hid ha
  have HA' := Lib.hid ha'
  clear ha ha'
  go_enter Try.func16, Try.ntmps16
  go_wp2_with fail
  go_loopw [5] (fun iv wr => ∃ i : Nat, i ≤ d.length ∧ iv = .int .i64 (i : Int) ∧ Below w.heap.size w wr) (fun iv _ => d.length - (intOf iv).toNat)
  case atStart => exact ⟨0, by omega, rfl, Below.refl _ _⟩
  case round =>
    obtain ⟨i, hi, rfl, hb⟩ := hrel
    obtain ⟨w1, hw1⟩ : ∃ w', w' = wr := ⟨_, rfl⟩
    rw [← hw1] at hb ⊢
    clear hw1
    by_cases hlt : i < d.length
    · obtain ⟨b, o, rfl, h0, h1⟩ := HA.out i hlt
      obtain ⟨b', o', rfl, h0', h1'⟩ := HA'.out i hlt
      replace h0 := (hb.cell (World.block_lt_of_cell? w _ h0)).trans h0
      replace h1 := (hb.cell (World.block_lt_of_cell? w _ h1)).trans h1
      replace h0' := (hb.cell (World.block_lt_of_cell? w _ h0')).trans h0'
      replace h1' := (hb.cell (World.block_lt_of_cell? w _ h1')).trans h1'
      have z0 : (0 : Int) ≤ (i : Int) := by omega
      have z1 : (i : Int) < (d.length : Int) := by omega
      obtain ⟨⟨x0, x1⟩, hx⟩ : ∃ z, z = d.getD i (0, 0) := ⟨_, rfl⟩
      rw [← hx] at h0 h1 h0' h1'
      simp only at h0 h1 h0' h1'
      have HQ := Lib.hid (fun w' => eqDep_any x0 x1 x0 x1 w')
      rw [show (decide (x0 = x0) && decide (x1 = x1)) = true by simp] at HQ
      clear hx
      go_wp2_with fail
      go_region_held3 (fun w' => w'.cell? ⟨b, o + i * 2, none⟩ = some (.int .i64 x0) ∧ w'.cell? ⟨b, o + i * 2 + 1, none⟩ = some (.int .i64 x1) ∧ w'.cell? ⟨b', o' + i * 2, none⟩ = some (.int .i64 x0) ∧ w'.cell? ⟨b', o' + i * 2 + 1, none⟩ = some (.int .i64 x1) ∧ Below w.heap.size w w') (first | exact keep4 (by assumption) (by assumption) | exact ⟨h0, h1, h0', h1', hb.drew⟩) (first | (go_at_call 44; refine (HQ.out _).mono ?_; rintro e w91 ⟨rfl, b91⟩))
      have hbe := below4 (w' := w91) (by assumption)
      clear h0 h1 h0' h1' b91
      go_wp2_with fail
      go_roundw
      case rel => exact ⟨i + 1, by omega, by go_num, hbe⟩
      case measure => simp [intOf]; omega
    · obtain rfl : i = d.length := by omega
      go_wp2_with fail
      go_ret
      exact ⟨rfl, hb⟩
end Go.Proofs.Ytcgkfbjdlhapkaa
