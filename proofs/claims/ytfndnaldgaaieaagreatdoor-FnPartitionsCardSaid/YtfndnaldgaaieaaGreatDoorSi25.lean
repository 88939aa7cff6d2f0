/- Texts of this claim, merged: RowOrd, ImA, ImB. Conditions: as stated. -/
import Derived.Test.YtfndnaldgaaieaaGreatDoorSi1
import Derived.Test.YtfndnaldgaaieaaGreatDoorSi6
namespace Go.Proofs.YtfndnaldgaaieaaGreatDoor

/-- By the first value that differs; the shorter one first. -/
def lessR : List Int → List Int → Bool
  | [], [] => false
  | [], _ :: _ => true
  | _ :: _, [] => false
  | a :: s1, b :: bs => if a = b then lessR s1 bs else decide (a < b)
theorem lessR_irrefl (a : List Int) : lessR a a = false := by
  induction a with
  | nil => rfl
  | cons x t ih => simp [lessR, ih]
theorem lessR_trans : ∀ (a b c : List Int), lessR a b = true → lessR b c = true → lessR a c = true
  | [], b, c, h1, h2 => by
    cases c with
    | nil => cases b <;> simp [lessR] at h1 h2
    | cons => rfl
  | x :: s1, [], c, h1, _ => by simp [lessR] at h1
  | x :: s1, y :: bs, [], _, h2 => by simp [lessR] at h2
  | x :: s1, y :: bs, z :: cs, h1, h2 => by
    unfold lessR at *
    by_cases hxy : x = y
    · subst hxy
      rw [if_pos rfl] at h1
      by_cases hxz : x = z
      · subst hxz; rw [if_pos rfl] at *; exact lessR_trans s1 bs cs h1 h2
      · rw [if_neg hxz] at *; exact h2
    · rw [if_neg hxy] at h1
      by_cases hyz : y = z
      · subst hyz; rw [if_neg hxy]; exact h1
      · rw [if_neg hyz] at h2
        simp only [decide_eq_true_eq] at h1 h2
        rw [if_neg (by omega)]
        simp only [decide_eq_true_eq]; omega
theorem lessR_total : ∀ (a b : List Int), lessR a b = false → lessR b a = false → a = b
  | [], [], _, _ => rfl
  | [], _ :: _, h, _ => by simp [lessR] at h
  | _ :: _, [], _, h => by simp [lessR] at h
  | x :: s1, y :: bs, h1, h2 => by
    unfold lessR at h1 h2
    by_cases hxy : x = y
    · subst hxy
      rw [if_pos rfl] at h1 h2
      rw [lessR_total s1 bs h1 h2]
    · rw [if_neg hxy] at h1
      rw [if_neg (fun e => hxy e.symm)] at h2
      simp only [decide_eq_false_iff_not] at h1 h2
      omega
theorem lessR_asymm {a b : List Int} (h : lessR a b = true) : lessR b a = false := by
  cases hb : lessR b a with
  | false => rfl
  | true => have := lessR_trans a b a h hb; rw [lessR_irrefl] at this; cases this
/-- In order, no two equal. -/
def Asc (l : List (List Int)) : Prop := l.Pairwise fun a b => lessR a b = true
theorem asc_unique : ∀ (a b : List (List Int)), Asc a → Asc b → (∀ x, x ∈ a ↔ x ∈ b) → a = b
  | [], [], _, _, _ => rfl
  | [], y :: bs, _, _, h => by have := (h y).2 (by simp); cases this
  | x :: s1, [], _, _, h => by have := (h x).1 (by simp); cases this
  | x :: s1, y :: bs, ha, hb, h => by
    unfold Asc at ha hb
    rw [List.pairwise_cons] at ha hb
    have hxy : x = y := by
      have h1 := (h x).1 (by simp)
      have h2 := (h y).2 (by simp)
      rw [List.mem_cons] at h1 h2
      rcases h1 with h1 | h1
      · exact h1
      · rcases h2 with h2 | h2
        · exact h2.symm
        · have e1 := ha.1 y h2
          have e2 := hb.1 x h1
          rw [lessR_asymm e1] at e2; cases e2
    subst hxy
    have hx1 : ∀ z ∈ s1, z ≠ x := fun z hz e => by have := ha.1 z hz; rw [e, lessR_irrefl] at this; cases this
    have hx2 : ∀ z ∈ bs, z ≠ x := fun z hz e => by have := hb.1 z hz; rw [e, lessR_irrefl] at this; cases this
    rw [asc_unique s1 bs ha.2 hb.2 fun z => ⟨fun hz => by
      have := (h z).1 (by simp [hz])
      rw [List.mem_cons] at this
      exact this.resolve_left (hx1 z hz), fun hz => by
      have := (h z).2 (by simp [hz])
      rw [List.mem_cons] at this
      exact this.resolve_left (hx2 z hz)⟩]
/-- The place of a row in a list in order. -/
def insR (x : List Int) : List (List Int) → List (List Int)
  | [] => [x]
  | y :: t => if lessR x y = true then x :: y :: t else if lessR y x = true then y :: insR x t else y :: t
theorem insR_mem (x z : List Int) (l : List (List Int)) : z ∈ insR x l ↔ z = x ∨ z ∈ l := by
  induction l with
  | nil => simp [insR]
  | cons y t ih =>
    unfold insR
    by_cases h1 : lessR x y = true
    · rw [if_pos h1]; simp
    · rw [if_neg h1]
      by_cases h2 : lessR y x = true
      · rw [if_pos h2, List.mem_cons, ih, List.mem_cons]
        constructor
        · rintro (h | h | h)
          · exact .inr (.inl h)
          · exact .inl h
          · exact .inr (.inr h)
        · rintro (h | h | h)
          · exact .inr (.inl h)
          · exact .inl h
          · exact .inr (.inr h)
      · rw [if_neg h2]
        have e : x = y := lessR_total x y (by simpa using h1) (by simpa using h2)
        subst e; simp
theorem insR_asc (x : List Int) (l : List (List Int)) (h : Asc l) : Asc (insR x l) := by
  induction l with
  | nil => exact List.pairwise_singleton _ _
  | cons y t ih =>
    unfold Asc at h
    rw [List.pairwise_cons] at h
    unfold insR
    by_cases h1 : lessR x y = true
    · rw [if_pos h1]
      unfold Asc
      rw [List.pairwise_cons, List.pairwise_cons]
      refine ⟨fun z hz => ?_, h⟩
      rw [List.mem_cons] at hz
      rcases hz with rfl | hz
      · exact h1
      · exact lessR_trans _ _ _ h1 (h.1 z hz)
    · rw [if_neg h1]
      by_cases h2 : lessR y x = true
      · rw [if_pos h2]
        unfold Asc
        rw [List.pairwise_cons]
        refine ⟨fun z hz => ?_, ih h.2⟩
        rw [insR_mem] at hz
        rcases hz with rfl | hz
        · exact h2
        · exact h.1 z hz
      · rw [if_neg h2]
        unfold Asc
        rw [List.pairwise_cons]; exact h
/-- The different rows, in order. -/
def onceL (l : List (List Int)) : List (List Int) := l.foldr insR []
theorem onceL_mem (l : List (List Int)) (z : List Int) : z ∈ onceL l ↔ z ∈ l := by
  induction l with
  | nil => simp [onceL]
  | cons x t ih => unfold onceL at *; rw [List.foldr_cons, insR_mem, ih, List.mem_cons]
theorem onceL_asc (l : List (List Int)) : Asc (onceL l) := by
  induction l with
  | nil => exact List.Pairwise.nil
  | cons x t ih => unfold onceL at *; rw [List.foldr_cons]; exact insR_asc _ _ ih
theorem onceL_eq {l m : List (List Int)} (h1 : Asc m) (h2 : ∀ z, z ∈ m ↔ z ∈ l) : m = onceL l :=
  asc_unique m (onceL l) h1 (onceL_asc l) fun z => by rw [h2, onceL_mem]
theorem insR_len (x : List Int) (l : List (List Int)) : (insR x l).length ≤ l.length + 1 := by
  induction l with
  | nil => simp [insR]
  | cons y t ih =>
    unfold insR
    split
    · simp
    · split
      · simp; exact ih
      · simp
theorem onceL_len (l : List (List Int)) : (onceL l).length ≤ l.length := by
  induction l with
  | nil => simp [onceL]
  | cons x t ih => unfold onceL at *; rw [List.foldr_cons, List.length_cons]; have := insR_len x (t.foldr insR []); omega
theorem onceL_rows {l : List (List Int)} {n : Nat} (h : ∀ r ∈ l, r.length = n) : ∀ r ∈ onceL l, r.length = n := fun r hr => h r ((onceL_mem l r).1 hr)

/-! ### Two lists in order, s1 one: rows beside their values -/
def mergeP : List (Value × List Int) → List (Value × List Int) → List (Value × List Int)
  | [], bs => bs
  | a :: s1, [] => a :: s1
  | a :: s1, b :: bs => if lessR a.2 b.2 = true then a :: mergeP s1 (b :: bs) else if lessR b.2 a.2 = true then b :: mergeP (a :: s1) bs else mergeP (a :: s1) bs
termination_by la lb => la.length + lb.length
theorem mergeP_nil_left (bs : List (Value × List Int)) : mergeP [] bs = bs := by unfold mergeP; rfl
theorem mergeP_nil_right (s1 : List (Value × List Int)) : mergeP s1 [] = s1 := by cases s1 <;> (unfold mergeP; rfl)
theorem mergeP_cons (a b : Value × List Int) (s1 bs : List (Value × List Int)) : mergeP (a :: s1) (b :: bs) = if lessR a.2 b.2 = true then a :: mergeP s1 (b :: bs) else if lessR b.2 a.2 = true then b :: mergeP (a :: s1) bs else mergeP (a :: s1) bs := by
  rw [mergeP]
theorem mergeP_mem : ∀ (s1 bs : List (Value × List Int)) (z : Value × List Int), z ∈ mergeP s1 bs → z ∈ s1 ∨ z ∈ bs
  | [], bs, z, h => by rw [mergeP_nil_left] at h; exact .inr h
  | a :: s1, [], z, h => by rw [mergeP_nil_right] at h; exact .inl h
  | a :: s1, b :: bs, z, h => by
    rw [mergeP_cons] at h
    split at h
    · rw [List.mem_cons] at h
      rcases h with rfl | h
      · exact .inl (by simp)
      · exact (mergeP_mem s1 (b :: bs) z h).imp (fun h => by simp [h]) id
    · split at h
      · rw [List.mem_cons] at h
        rcases h with rfl | h
        · exact .inr (by simp)
        · exact (mergeP_mem (a :: s1) bs z h).imp id (fun h => by simp [h])
      · exact (mergeP_mem (a :: s1) bs z h).imp id (fun h => by simp [h])
termination_by s1 bs => s1.length + bs.length
def AscP (l : List (Value × List Int)) : Prop := l.Pairwise fun a b => lessR a.2 b.2 = true
theorem mergeP_asc : ∀ (s1 bs : List (Value × List Int)), AscP s1 → AscP bs → AscP (mergeP s1 bs)
  | [], bs, _, hb => by rw [mergeP_nil_left]; exact hb
  | a :: s1, [], ha, _ => by rw [mergeP_nil_right]; exact ha
  | a :: s1, b :: bs, ha, hb => by
    have ha' := ha
    have hb' := hb
    unfold AscP at ha' hb'
    rw [List.pairwise_cons] at ha' hb'
    rw [mergeP_cons]
    by_cases h1 : lessR a.2 b.2 = true
    · rw [if_pos h1]
      unfold AscP
      rw [List.pairwise_cons]
      refine ⟨fun z hz => ?_, mergeP_asc s1 (b :: bs) ha'.2 hb⟩
      rcases mergeP_mem s1 (b :: bs) z hz with h | h
      · exact ha'.1 z h
      · rw [List.mem_cons] at h
        rcases h with rfl | h
        · exact h1
        · exact lessR_trans _ _ _ h1 (hb'.1 z h)
    · rw [if_neg h1]
      by_cases h2 : lessR b.2 a.2 = true
      · rw [if_pos h2]
        unfold AscP
        rw [List.pairwise_cons]
        refine ⟨fun z hz => ?_, mergeP_asc (a :: s1) bs ha hb'.2⟩
        rcases mergeP_mem (a :: s1) bs z hz with h | h
        · rw [List.mem_cons] at h
          rcases h with rfl | h
          · exact h2
          · exact lessR_trans _ _ _ h2 (ha'.1 z h)
        · exact hb'.1 z h
      · rw [if_neg h2]; exact mergeP_asc (a :: s1) bs ha hb'.2
termination_by s1 bs => s1.length + bs.length
theorem mergeP_rows : ∀ (s1 bs : List (Value × List Int)) (x : List Int), (x ∈ (mergeP s1 bs).map (·.2)) ↔ x ∈ s1.map (·.2) ∨ x ∈ bs.map (·.2)
  | [], bs, x => by rw [mergeP_nil_left]; simp
  | a :: s1, [], x => by rw [mergeP_nil_right]; simp
  | a :: s1, b :: bs, x => by
    rw [mergeP_cons]
    by_cases h1 : lessR a.2 b.2 = true
    · rw [if_pos h1]
      have ih := mergeP_rows s1 (b :: bs) x
      simp only [List.map_cons, List.mem_cons] at ih ⊢
      rw [ih]
      constructor
      · rintro (h | h | h | h)
        · exact .inl (.inl h)
        · exact .inl (.inr h)
        · exact .inr (.inl h)
        · exact .inr (.inr h)
      · rintro ((h | h) | h | h)
        · exact .inl h
        · exact .inr (.inl h)
        · exact .inr (.inr (.inl h))
        · exact .inr (.inr (.inr h))
    · rw [if_neg h1]
      have ih := mergeP_rows (a :: s1) bs x
      by_cases h2 : lessR b.2 a.2 = true
      · rw [if_pos h2]
        simp only [List.map_cons, List.mem_cons] at ih ⊢
        rw [ih]
        constructor
        · rintro (h | (h | h) | h)
          · exact .inr (.inl h)
          · exact .inl (.inl h)
          · exact .inl (.inr h)
          · exact .inr (.inr h)
        · rintro ((h | h) | h | h)
          · exact .inr (.inl (.inl h))
          · exact .inr (.inl (.inr h))
          · exact .inl h
          · exact .inr (.inr h)
      · have e := lessR_total _ _ (by simpa using h1) (by simpa using h2)
        rw [if_neg h2]
        simp only [List.map_cons, List.mem_cons] at ih ⊢
        rw [ih]
        constructor
        · rintro ((h | h) | h)
          · exact .inl (.inl h)
          · exact .inl (.inr h)
          · exact .inr (.inr h)
        · rintro ((h | h) | h | h)
          · exact .inl (.inl h)
          · exact .inl (.inr h)
          · exact .inl (.inl (by rw [h, e]))
          · exact .inr h
termination_by s1 bs => s1.length + bs.length
theorem mergeP_pair {R : Value × List Int → Value × List Int → Prop} : ∀ (s1 bs : List (Value × List Int)), s1.Pairwise R → bs.Pairwise R → (∀ x ∈ s1, ∀ y ∈ bs, R x y ∧ R y x) → (mergeP s1 bs).Pairwise R
  | [], bs, _, hb, _ => by rw [mergeP_nil_left]; exact hb
  | a :: s1, [], ha, _, _ => by rw [mergeP_nil_right]; exact ha
  | a :: s1, b :: bs, ha, hb, hab => by
    have ha' := ha
    have hb' := hb
    rw [List.pairwise_cons] at ha' hb'
    rw [mergeP_cons]
    split
    · rw [List.pairwise_cons]
      refine ⟨fun z hz => ?_, mergeP_pair s1 (b :: bs) ha'.2 hb (fun x hx y hy => hab x (by simp [hx]) y hy)⟩
      rcases mergeP_mem s1 (b :: bs) z hz with h | h
      · exact ha'.1 z h
      · exact (hab a (by simp) z h).1
    · split
      · rw [List.pairwise_cons]
        refine ⟨fun z hz => ?_, mergeP_pair (a :: s1) bs ha hb'.2 (fun x hx y hy => hab x hx y (by simp [hy]))⟩
        rcases mergeP_mem (a :: s1) bs z hz with h | h
        · exact (hab z h b (by simp)).2
        · exact hb'.1 z h
      · exact mergeP_pair (a :: s1) bs ha hb'.2 (fun x hx y hy => hab x hx y (by simp [hy]))
termination_by s1 bs => s1.length + bs.length
theorem mergeP_len : ∀ (s1 bs : List (Value × List Int)), (mergeP s1 bs).length ≤ s1.length + bs.length
  | [], bs => by rw [mergeP_nil_left]; simp
  | a :: s1, [] => by rw [mergeP_nil_right]; simp
  | a :: s1, b :: bs => by
    rw [mergeP_cons]
    split
    · have := mergeP_len s1 (b :: bs); simp at *; omega
    · split
      · have := mergeP_len (a :: s1) bs; simp at *; omega
      · have := mergeP_len (a :: s1) bs; simp at *; omega
termination_by s1 bs => s1.length + bs.length
end Go.Proofs.YtfndnaldgaaieaaGreatDoor
namespace Go.Proofs.YtfndnaldgaaieaaGreatDoor
open Go.RowKit

theorem bits_andNot (a b : Int) : bits .andNot .i64 a b = IntKind.i64.wrap ((BitVec.ofInt 64 a &&& ~~~BitVec.ofInt 64 b).toNat : Int) := rfl
theorem bits_and (a b : Int) : bits .and .i64 a b = IntKind.i64.wrap ((BitVec.ofInt 64 a &&& BitVec.ofInt 64 b).toNat : Int) := rfl
theorem bv_part (x y : BitVec 64) : (x &&& ~~~y = 0#64) ↔ (x &&& y = x) := by
  constructor
  · intro h
    apply BitVec.eq_of_getLsbD_eq
    intro i hi
    have h2 : (x &&& ~~~y).getLsbD i = (0#64).getLsbD i := by rw [h]
    simp [hi] at h2 ⊢
    intro hx; exact h2 hx
  · intro h
    rw [← h, BitVec.and_assoc]
    simp
theorem wrap_nat_zero (n : Nat) (h : n < 2 ^ 64) : (IntKind.i64.wrap (n : Int) = 0) ↔ n = 0 := by
  rw [IntKind.wrap_i64]; omega
theorem bv_zero (x : BitVec 64) : (IntKind.i64.wrap (x.toNat : Int) = 0) ↔ x = 0#64 := by
  rw [wrap_nat_zero _ x.isLt]
  constructor
  · intro h; exact BitVec.eq_of_toNat_eq (by simpa using h)
  · intro h; rw [h]; rfl
theorem bv_self (v : BitVec 64) (x : Int) (h0 : -9223372036854775808 ≤ x) (h1 : x ≤ 9223372036854775807) : (IntKind.i64.wrap (v.toNat : Int) = x) ↔ v = BitVec.ofInt 64 x := by
  rw [IntKind.wrap_i64]
  have e := BitVec.toNat_ofInt (n := 64) x
  have l := v.isLt
  constructor
  · intro h
    apply BitVec.eq_of_toNat_eq
    rw [e]; omega
  · intro h
    rw [h, e]; omega
/-- 'x &^ y == 0': the same as 'x & y == x'. -/
def partZ (x y : Int) : Bool := bits .andNot .i64 x y == 0
theorem partZ_eq (x y : Int) (h0 : -9223372036854775808 ≤ x) (h1 : x ≤ 9223372036854775807) : partZ x y = (bits .and .i64 x y == x) := by
  unfold partZ
  rw [Bool.eq_iff_iff, beq_iff_eq, beq_iff_eq, bits_andNot, bits_and, bv_zero, bv_self _ x h0 h1, bv_part]
theorem and_mask (n : Nat) (hn : n < 63) (x : Int) : bits .and .i64 x (2 ^ n - 1) = x % 2 ^ n := by
  have p1 : (2 : Nat) ^ n < 2 ^ 63 := Nat.pow_lt_pow_right (by omega) hn
  have p0 : 0 < (2 : Nat) ^ n := Nat.pow_pos (by omega)
  have hc : ((2 : Int) ^ n) = ((2 ^ n : Nat) : Int) := by rw [Int.natCast_pow]; rfl
  have h : (BitVec.ofInt 64 (2 ^ n - 1)).toNat = 2 ^ n - 1 := by
    rw [BitVec.toNat_ofInt, hc]; omega
  have key : (BitVec.ofInt 64 x &&& BitVec.ofInt 64 (2 ^ n - 1)).toNat = (x % ((2 ^ 64 : Nat) : Int)).toNat % 2 ^ n := by
    rw [BitVec.toNat_and, BitVec.toNat_ofInt, h, Nat.and_two_pow_sub_one_eq_mod]
  rw [bits_and, key, IntKind.wrap_i64, hc]
  have hd : ((2 ^ n : Nat) : Int) ∣ ((2 ^ 64 : Nat) : Int) := by
    rw [show 64 = n + (64 - n) by omega, Nat.pow_add, Int.natCast_mul]; exact Int.dvd_mul_right _ _
  have e : (((x % ((2 ^ 64 : Nat) : Int)).toNat % 2 ^ n : Nat) : Int) = x % ((2 ^ n : Nat) : Int) := by
    rw [Int.natCast_emod, Int.toNat_of_nonneg (Int.emod_nonneg _ (by decide)), Int.emod_emod_of_dvd _ hd]
  rw [e]
  have q0 := Int.emod_nonneg x (b := ((2 ^ n : Nat) : Int)) (by omega)
  have q1 := Int.emod_lt_of_pos x (b := ((2 ^ n : Nat) : Int)) (by omega)
  omega
theorem partZ_first (n : Nat) (hn : n ≤ 5) (x : Int) (h0 : -9223372036854775808 ≤ x) (h1 : x ≤ 9223372036854775807) : partZ x (2 ^ n - 1) = decide (0 ≤ x ∧ x ≤ 2 ^ n - 1) := by
  rw [partZ_eq x _ h0 h1, and_mask n (by omega), Bool.eq_iff_iff, beq_iff_eq, decide_eq_true_iff]
  have p0 : 0 < (2 : Nat) ^ n := Nat.pow_pos (by omega)
  have hc : ((2 : Int) ^ n) = ((2 ^ n : Nat) : Int) := by rw [Int.natCast_pow]; rfl
  rw [hc]
  constructor
  · intro h
    have q0 := Int.emod_nonneg x (b := ((2 ^ n : Nat) : Int)) (by omega)
    have q1 := Int.emod_lt_of_pos x (b := ((2 ^ n : Nat) : Int)) (by omega)
    omega
  · rintro ⟨a, b⟩; exact Int.emod_eq_of_lt a (by omega)
theorem partZ_31 (x : Int) (h0 : -9223372036854775808 ≤ x) (h1 : x ≤ 9223372036854775807) : partZ x 31 = valB x := partZ_first 5 (by omega) x h0 h1

theorem partOf_any (x y : Int) (w : World) :
    Calls Tryz.prog 30 #[.int .i64 x, .int .i64 y] w fun e w' => e = .returned (.bool (partZ x y)) ∧ w = w' := by
  go_enter Tryz.func30, Tryz.ntmps30
  go_wp2_with fail
  go_ret
  exact ⟨rfl, rfl⟩
theorem colCount_any (n : Int) (w : World) :
    Calls Tryz.prog 57 #[.int .i64 n] w fun e w' => e = .returned (.bool (decide (0 ≤ n ∧ n ≤ 5))) ∧ w = w' := by
  by_cases h1 : 0 ≤ n <;> by_cases h2 : n ≤ 5
  all_goals
    go_enter Tryz.func57, Tryz.ntmps57
    go_wp2
    go_ret
    exact ⟨by simp [h1, h2], rfl⟩
theorem first_any (n : Int) (w : World) (h0 : 0 ≤ n) (h1 : n ≤ 5) :
    Calls Tryz.prog 59 #[.int .i64 n] w fun e w' => e = .returned (.int .i64 (2 ^ n.toNat - 1)) ∧ w = w' := by
  rcases (show n = 0 ∨ n = 1 ∨ n = 2 ∨ n = 3 ∨ n = 4 ∨ n = 5 by omega) with rfl | rfl | rfl | rfl | rfl | rfl
  all_goals
    go_enter Tryz.func59, Tryz.ntmps59
    go_wp2
    go_ret
    exact ⟨rfl, rfl⟩
theorem has_any (X k : Nat) (hk : k ≤ 62) (w : World) :
    Calls Tryz.prog 60 #[.int .i64 (X : Int), .int .i64 (k : Int)] w fun e w' => e = .returned (.bool (bitB X k)) ∧ w = w' := by
  have hb : (bits BinOp.and IntKind.i64 ((X : Int) / 2 ^ k) 1 != 0) = bitB X k := by
    rw [← bit_test, i64_and_1, Bool.eq_iff_iff, bne_iff_ne, beq_iff_eq]; omega
  go_enter Tryz.func60, Tryz.ntmps60
  go_wp2_with fail
  go_ret
  exact ⟨rfl, rfl⟩
theorem implIsA_any (n x : Int) (h0 : -9223372036854775808 ≤ x) (h1 : x ≤ 9223372036854775807) (w : World) :
    Calls Tryz.prog 28 #[.int .i64 n, .int .i64 x] w fun e w' => e = .returned (.bool (isA n x)) ∧ Below w.heap.size w w' := by
  by_cases hn : 0 ≤ n ∧ n ≤ 5
  · have hd : decide (0 ≤ n ∧ n ≤ 5) = true := by simp [hn]
    have HZ : Hid (isA n x = partZ x (2 ^ n.toNat - 1)) := Lib.hid (by rw [partZ_first n.toNat (by omega) x h0 h1]; unfold isA; simp [hn])
    go_enter Tryz.func28, Tryz.ntmps28
    go_wp2_with fail
    refine (colCount_any _ _).mono ?_
    rintro e w' ⟨rfl, rfl⟩
    go_wp2_with fail
    refine (first_any _ _ hn.1 hn.2).mono ?_
    rintro e w' ⟨rfl, rfl⟩
    go_wp2_with fail
    refine (partOf_any _ _ _).mono ?_
    rintro e w' ⟨rfl, rfl⟩
    go_wp2_with fail
    go_ret
    exact ⟨ret_b HZ.out, Below.refl _ _⟩
  · have hd : decide (0 ≤ n ∧ n ≤ 5) = false := by simp only [hn, decide_false]
    go_enter Tryz.func28, Tryz.ntmps28
    go_wp2_with fail
    refine (colCount_any _ _).mono ?_
    rintro e w' ⟨rfl, rfl⟩
    go_wp2_with fail
    go_ret
    exact ⟨ret_b (by unfold isA; simp only [hn, false_and, decide_false]), Below.refl _ _⟩
end Go.Proofs.YtfndnaldgaaieaaGreatDoor
namespace Go.Proofs.YtfndnaldgaaieaaGreatDoor
open Go.RowKit

set_option maxHeartbeats 800000 in
theorem members_any (X : Nat) (hX : X < 32) (w : World) :
    Calls Tryz.prog 29 #[.int .i64 (X : Int)] w (RetI (mems (X : Int)) w) := by
  obtain ⟨i0, hi, hz0, hz1, hz2⟩ := info_parts info3i
  have HI : Hid (_ ∧ _ ∧ _ ∧ _) := Lib.hid ⟨hi, hz0, hz1, hz2⟩
  clear hi hz0 hz1 hz2
  have he : mems (X : Int) = memN X 5 := by unfold mems; rw [if_pos (by omega)]; rfl
  have HE := Lib.hid he
  clear he
  have HH := Lib.hid (fun (k : Nat) (hk : k ≤ 62) (w : World) => has_any X k hk w)
  go_enter Tryz.func29, Tryz.ntmps29
  go_wp2_with (at_make; refine wpList_make_own _ rfl _ _ 50 rfl w.heap.size 3 i0 (.int .i64 0) 1 Tryz.underlying50 HI.out.1 HI.out.2.1 HI.out.2.2.1 .i64 .i64 _ 5 rfl rfl (by omega) (by rw [HI.out.2.2.2]; omega) (by unfold maxLen; omega) (Nat.le_refl _) ?_; intro w0 hown0 hgrow0)
  have hb0 := (Below.refl w.heap.size w).grown hgrow0 (Nat.le_refl _) (by simp)
  have hown := OwnI.made hown0
  clear hown0 hgrow0
  go_loopw [3, 4] (fun ov iv wr => ∃ (k : Nat) (l : List Int), k ≤ 5 ∧ iv = .int .i64 (k : Int) ∧ Hid (l = memN X k) ∧ OwnI wr w.heap.size ov l ∧ Below w.heap.size w wr) (fun _ iv _ => (5 - intOf iv).toNat)
  case atStart => exact ⟨0, [], by omega, rfl, Lib.hid rfl, hown, hb0⟩
  case round =>
    obtain ⟨k, l, hk, rfl, hl, ho, hb⟩ := hrel
    by_cases hlt : k < 5
    · have hll : l.length ≤ 5 := by rw [hl.out]; have := memN_len X k; omega
      by_cases hB : bitB X k = true
      · go_wp2_with fail
        refine (HH.out k (by omega) _).mono ?_
        rintro e w' ⟨rfl, rfl⟩
        go_wp2_with (at_builtin; refine wpList_append_own _ rfl _ _ 50 rfl w.heap.size 3 i0 (.int .i64 0) 1 8 Tryz.underlying50 HI.out.1 HI.out.2.1 HI.out.2.2.1 HI.out.2.2.2 rfl (by decide) _ _ _ rfl (World.ownsRow.alloc ho _) ⟨wr.heap.size, 0, none⟩ 1 1 [.int .i64 (k : Int)] rfl rfl (cell_one_new _ _ _) (one_i64 _) (by unfold maxLen; omega) (by omega) (le_alloc hb (Nat.le_refl _) _) ?_; intro v' w1 hown' hgrow _)
        have ho' := OwnI.snoc hown'
        have hb' := (hb.alloc hb.size (.cells #[.int .i64 (k : Int)] 3)).grown hgrow (by simp; have := hb.size; omega) (fun k hk => (OwnI.lt ho k hk).1)
        clear hown' hgrow
        go_wp2_with fail
        go_roundw
        case rel => exact ⟨k + 1, _, by omega, by go_num, Lib.hid (by rw [memN_succ, if_pos hB, ← hl.out]), ho', hb'⟩
        case measure => simp [intOf]; omega
      · have hB2 : bitB X k = false := by simpa using hB
        go_wp2_with fail
        refine (HH.out k (by omega) _).mono ?_
        rintro e w' ⟨rfl, rfl⟩
        go_wp2_with fail
        go_roundw
        case rel => exact ⟨k + 1, _, by omega, by go_num, Lib.hid (by rw [memN_succ, if_neg hB, ← hl.out]), ho, hb⟩
        case measure => simp [intOf]; omega
    · obtain rfl : k = 5 := by omega
      go_wp2_with fail
      go_ret
      exact ⟨_, rfl, by rw [HE.out, ← hl.out]; exact ho, hb⟩
theorem OwnI.none (w : World) (B : Nat) : OwnI w B (.slice .none 0 0) [] := World.ownsRow_nil _ _ _ _
end Go.Proofs.YtfndnaldgaaieaaGreatDoor
