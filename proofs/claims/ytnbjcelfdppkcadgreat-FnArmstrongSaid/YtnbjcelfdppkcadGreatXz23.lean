/- Texts of this claim, merged: Parse, Cut, SpecQ, SpecQ2. Conditions: as stated. -/
import Derived.Test.YtnbjcelfdppkcadGreatXz22
import Derived.Lib.OthersKept
import Derived.Lib.Strings
namespace Go.Proofs.YtnbjcelfdppkcadGreat
open Go.RowKit

/-! ### Digits -/
def isD (b : UInt8) : Prop := 48 ≤ b.toNat ∧ b.toNat ≤ 57
instance (b : UInt8) : Decidable (isD b) := by unfold isD; infer_instance
/-- The number that the digits in a list stand for (other bytes are passed over), and how many there are. -/
def dv (l : List UInt8) : Nat := l.foldl (fun a b => if isD b then a * 10 + (b.toNat - 48) else a) 0
def dk (l : List UInt8) : Nat := l.foldl (fun a b => if isD b then a + 1 else a) 0
theorem dv_snoc (l : List UInt8) (b : UInt8) : dv (l ++ [b]) = if isD b then dv l * 10 + (b.toNat - 48) else dv l := by simp [dv]
theorem dk_snoc (l : List UInt8) (b : UInt8) : dk (l ++ [b]) = if isD b then dk l + 1 else dk l := by simp [dk]
theorem snoc_cases (l : List UInt8) (h : l ≠ []) : ∃ l' b, l = l' ++ [b] := ⟨l.dropLast, l.getLast h, (List.dropLast_concat_getLast h).symm⟩
theorem dv_lt (l : List UInt8) : dv l < 10 ^ dk l ∧ dk l ≤ l.length := by
  suffices h : ∀ n (l : List UInt8), l.length = n → dv l < 10 ^ dk l ∧ dk l ≤ l.length from h _ l rfl
  intro n
  induction n with
  | zero => intro l hl; have := List.eq_nil_of_length_eq_zero hl; subst this; simp [dv, dk]
  | succ n ih =>
    intro l hl
    obtain ⟨l', b, rfl⟩ := snoc_cases l (by intro h; subst h; simp at hl)
    obtain ⟨h1, h2⟩ := ih l' (by simpa using hl)
    rw [dv_snoc, dk_snoc, List.length_append]
    split
    · next h => unfold isD at h; rw [Nat.pow_succ]; simp; omega
    · simp; omega
theorem digit_isD (u : Nat) : isD (UInt8.ofNat (48 + u % 10)) := by
  have : (48 + u % 10) % 256 = 48 + u % 10 := by omega
  unfold isD; simp [this]; omega
theorem digit_val (u : Nat) : (UInt8.ofNat (48 + u % 10)).toNat - 48 = u % 10 := by
  have : (48 + u % 10) % 256 = 48 + u % 10 := by omega
  simp [this]
theorem dec_facts (u : Nat) : dv (Lib.decDigits u) = u ∧ dk (Lib.decDigits u) = (Lib.decDigits u).length ∧ (∀ b ∈ Lib.decDigits u, isD b) ∧ Lib.decDigits u ≠ [] := by
  induction u using Nat.strongRecOn with
  | ind u ih =>
    rw [Lib.decDigits]
    by_cases h : u < 10
    · rw [dif_pos h]
      have e : u = u % 10 := by omega
      rw [e]
      have h1 := digit_isD u
      have h2 := digit_val u
      refine ⟨?_, ?_, ?_, by simp⟩
      · simp only [dv, List.foldl_cons, List.foldl_nil, if_pos h1]; omega
      · simp only [dk, List.foldl_cons, List.foldl_nil, if_pos h1]; rfl
      · intro b hb; rw [List.mem_singleton] at hb; rw [hb]; exact h1
    · rw [dif_neg h]
      obtain ⟨i1, i2, i3, i4⟩ := ih (u / 10) (by omega)
      have h1 := digit_isD u
      have h2 := digit_val u
      refine ⟨?_, ?_, ?_, by simp⟩
      · rw [dv_snoc, if_pos h1, i1, h2]; omega
      · rw [dk_snoc, if_pos h1, i2, List.length_append]; rfl
      · intro b hb
        rcases List.mem_append.1 hb with hb | hb
        · exact i3 b hb
        · rw [List.mem_singleton] at hb; rw [hb]; exact h1
theorem dec_len9 (u : Nat) (h : u ≤ 999999999) : (Lib.decDigits u).length ≤ 9 := by
  suffices hh : ∀ k u, u < 10 ^ (k + 1) → (Lib.decDigits u).length ≤ k + 1 by
    have := hh 8 u (by omega); omega
  intro k
  induction k with
  | zero => intro u h; rw [Lib.decDigits, dif_pos (by omega)]; simp
  | succ k ih =>
    intro u h
    rw [Lib.decDigits]
    by_cases h10 : u < 10
    · rw [dif_pos h10]; simp
    · rw [dif_neg h10, List.length_append]
      have := ih (u / 10) (by rw [Nat.pow_succ] at h; omega)
      simp; omega
/-- The digits behind the sign, and the sign. -/
def body (l : List UInt8) : List UInt8 := Lib.trimPrefix l [45]
def minus (l : List UInt8) : Bool := Lib.hasPrefix l [45]
def val (l : List UInt8) : Int := if minus l = true then -(dv (body l) : Int) else (dv (body l) : Int)
theorem minus_cons (t : List UInt8) : minus (45 :: t) = true ∧ body (45 :: t) = t := by
  have h : Lib.hasPrefix (45 :: t) [45] = true := by simp [Lib.hasPrefix, List.isPrefixOf]
  refine ⟨h, ?_⟩
  unfold body Lib.trimPrefix; rw [h]; simp
theorem minus_digits {t : List UInt8} (h : ∀ b ∈ t, isD b) : minus t = false ∧ body t = t := by
  have h0 : Lib.hasPrefix t [45] = false := by
    cases t with
    | nil => rfl
    | cons b t =>
      have := h b (by simp)
      simp only [Lib.hasPrefix, List.isPrefixOf, Bool.and_true]
      rw [beq_eq_false_iff_ne]
      intro e; subst e; unfold isD at this; revert this; decide
  refine ⟨h0, ?_⟩
  unfold body Lib.trimPrefix; rw [h0]; simp
theorem itoa_parts (m : Int) : body (Lib.itoa m) = Lib.decDigits m.natAbs ∧ minus (Lib.itoa m) = decide (m < 0) ∧ val (Lib.itoa m) = m := by
  unfold val
  by_cases h : m < 0
  · have e : Lib.itoa m = 45 :: Lib.decDigits m.natAbs := by unfold Lib.itoa; rw [if_pos h]
    obtain ⟨a, b⟩ := minus_cons (Lib.decDigits m.natAbs)
    rw [e, a, b, (dec_facts m.natAbs).1]
    exact ⟨rfl, by simp [h], by simp; omega⟩
  · have e : Lib.itoa m = Lib.decDigits m.natAbs := by unfold Lib.itoa; rw [if_neg h]; congr 1; omega
    obtain ⟨a, b⟩ := minus_digits (dec_facts m.natAbs).2.2.1
    rw [e, a, b, (dec_facts m.natAbs).1]
    exact ⟨rfl, by simp [h], by simp; omega⟩
theorem itoa_inj {m m' : Int} (h : Lib.itoa m = Lib.itoa m') : m = m' := by rw [← (itoa_parts m).2.2, h, (itoa_parts m').2.2]

def In9 (m : Int) : Prop := -999999999 ≤ m ∧ m ≤ 999999999
def PA (l : List UInt8) (n : Int) (ok : Bool) : Prop :=
  (In9 n ∧ l = Lib.itoa n ∧ ok = true) ∨ ((∀ m, In9 m → l ≠ Lib.itoa m) ∧ n = 0 ∧ ok = false)
theorem PA.unique {l : List UInt8} {n n' : Int} {ok ok' : Bool} (h : PA l n ok) (h' : PA l n' ok') : n = n' ∧ ok = ok' := by
  rcases h with ⟨a, b, rfl⟩ | ⟨a, rfl, rfl⟩ <;> rcases h' with ⟨a', b', rfl⟩ | ⟨a', rfl, rfl⟩
  · exact ⟨itoa_inj (b.symm.trans b'), rfl⟩
  · exact absurd b (a' _ a)
  · exact absurd b' (a _ a')
  · exact ⟨rfl, rfl⟩
def IntOk (P : Int → Bool → Prop) (w : World) (e : Ending) (w' : World) : Prop := ∃ n ok, P n ok ∧ e = .returned (.tuple #[.int .i64 n, .bool ok]) ∧ Below w.heap.size w w'

theorem dv_body (l : List UInt8) : dv (body l) = dv l ∧ dk (body l) = dk l := by
  unfold body Lib.trimPrefix
  split
  · next h =>
    cases l with
    | nil => simp
    | cons b t =>
      simp only [Lib.hasPrefix, List.isPrefixOf, Bool.and_true, beq_iff_eq] at h
      subst h
      have : ¬ isD 45 := by unfold isD; decide
      simp [dv, dk, this]
  · simp
theorem val_eq (l : List UInt8) : val l = if minus l = true then -(dv l : Int) else (dv l : Int) := by unfold val; rw [(dv_body l).1]
theorem itoa_len {m : Int} (h : In9 m) : (Lib.itoa m).length ≤ 10 ∧ dk (Lib.itoa m) ≤ 9 ∧ (body (Lib.itoa m)).length ≤ 9 := by
  have h9 := dec_len9 m.natAbs (by unfold In9 at h; omega)
  have e1 := (itoa_parts m).1
  refine ⟨?_, ?_, by rw [e1]; exact h9⟩
  · unfold Lib.itoa
    split
    · simp; omega
    · have : m.toNat = m.natAbs := by omega
      rw [this]; omega
  · rw [← (dv_body _).2, e1, (dec_facts _).2.1]; exact h9
theorem PA.long {l : List UInt8} (h : 10 < l.length) : PA l 0 false := .inr ⟨fun m hm e => by have := (itoa_len hm).1; rw [← e] at this; omega, rfl, rfl⟩
theorem PA.many {l : List UInt8} (h : 9 < dk l) : PA l 0 false := .inr ⟨fun m hm e => by have := (itoa_len hm).2.1; rw [← e] at this; omega, rfl, rfl⟩
theorem PA.longBody {l : List UInt8} (h : 9 < (body l).length) : PA l 0 false := .inr ⟨fun m hm e => by have := (itoa_len hm).2.2; rw [← e] at this; omega, rfl, rfl⟩
theorem PA.other {l : List UInt8} (h : Lib.itoa (val l) ≠ l) : PA l 0 false := .inr ⟨fun m _ e => h (by rw [e, (itoa_parts m).2.2]), rfl, rfl⟩
theorem PA.good {l : List UInt8} (h1 : dk l ≤ 9) (h2 : Lib.itoa (val l) = l) : PA l (val l) true := by
  refine .inl ⟨?_, h2.symm, rfl⟩
  have := (dv_lt l).1
  have h3 : 10 ^ dk l ≤ 10 ^ 9 := Nat.pow_le_pow_right (by omega) h1
  rw [val_eq]; unfold In9; split <;> omega
theorem not_true {b : Bool} (h : (!b) = true) : b = false := by cases b <;> simp_all
theorem not_false' {b : Bool} (h : (!b) = false) : b = true := by cases b <;> simp_all
theorem itoa_eq_true {n : Int} {s : ByteArray} (h : ((itoaB n).toList == s.toList) = true) : Lib.itoa n = s.data.toList := by
  rw [beq_iff_eq, ByteArray.toList_eq, ByteArray.toList_eq] at h
  simpa [itoaB] using h
theorem itoa_eq_false {n : Int} {s : ByteArray} (h : ((itoaB n).toList == s.toList) = false) : Lib.itoa n ≠ s.data.toList := by
  rw [beq_eq_false_iff_ne, ByteArray.toList_eq, ByteArray.toList_eq] at h
  intro e; exact h (by simpa [itoaB] using e)
theorem minus_none {s : ByteArray} (h : s.size = 0) : minus s.data.toList = false := by
  have : s.data.toList = [] := List.eq_nil_of_length_eq_zero (by rw [← str_size]; exact h)
  rw [this]; rfl
theorem minus_at {s : ByteArray} (h : 0 < s.size) : minus s.data.toList = decide ((s[0]'h).toNat = 45) := by
  have e : s.data.toList = s[0]'h :: s.data.toList.drop 1 := by
    have := List.drop_eq_getElem_cons (l := s.data.toList) (i := 0) (by rw [← str_size]; exact h)
    rw [List.drop_zero] at this; exact this
  rw [e]
  simp only [minus, Lib.hasPrefix, List.isPrefixOf, Bool.and_true]
  rw [Bool.eq_iff_iff, beq_iff_eq, decide_eq_true_iff]
  constructor
  · intro e; rw [← e]; rfl
  · intro e; apply UInt8.toNat_inj.1; rw [e]; rfl
theorem take_at (s : ByteArray) (k : Nat) (h : k < s.size) : s.data.toList.take (k + 1) = s.data.toList.take k ++ [s[k]] := by
  rw [List.take_succ_eq_append_getElem (by simpa using h)]; rfl
theorem dv_take (s : ByteArray) (k : Nat) (h : k < s.size) (hd : isD s[k]) : dv (s.data.toList.take (k + 1)) = dv (s.data.toList.take k) * 10 + (s[k].toNat - 48) ∧ dk (s.data.toList.take (k + 1)) = dk (s.data.toList.take k) + 1 := by
  rw [take_at s k h, dv_snoc, dk_snoc, if_pos hd, if_pos hd]; exact ⟨rfl, rfl⟩
theorem dv_skip (s : ByteArray) (k : Nat) (h : k < s.size) (hd : ¬ isD s[k]) : dv (s.data.toList.take (k + 1)) = dv (s.data.toList.take k) ∧ dk (s.data.toList.take (k + 1)) = dk (s.data.toList.take k) := by
  rw [take_at s k h, dv_snoc, dk_snoc, if_neg hd, if_neg hd]; exact ⟨rfl, rfl⟩
theorem dv_bd (l : List UInt8) (k : Nat) (h : k ≤ 11) : dv (l.take k) ≤ 99999999999 ∧ dk (l.take k) ≤ 11 := by
  obtain ⟨h1, h2⟩ := dv_lt (l.take k)
  have h3 : (l.take k).length ≤ 11 := by simp; omega
  have h4 : 10 ^ dk (l.take k) ≤ 10 ^ 11 := Nat.pow_le_pow_right (by omega) (by omega)
  omega

end Go.Proofs.YtnbjcelfdppkcadGreat
namespace Go.Proofs.YtnbjcelfdppkcadGreat
open Go.RowKit

/-- p before the first part. -/
def glue (p : List UInt8) : List (List UInt8) → List (List UInt8)
  | [] => [p]
  | h :: r => (p ++ h) :: r
/-- The parts between the bytes b. -/
def cutL (b : UInt8) : List UInt8 → List (List UInt8)
  | [] => [[]]
  | x :: t => if x = b then [] :: cutL b t else glue [x] (cutL b t)
theorem cutL_ne (b : UInt8) (l : List UInt8) : cutL b l ≠ [] := by
  cases l with
  | nil => simp [cutL]
  | cons x t =>
    unfold cutL
    split
    · simp
    · cases h : cutL b t <;> simp [glue]
theorem glue_glue (p q : List UInt8) (l : List (List UInt8)) (h : l ≠ []) : glue p (glue q l) = glue (p ++ q) l := by
  cases l with
  | nil => exact absurd rfl h
  | cons a t => simp [glue]
theorem glue_nil (l : List (List UInt8)) (h : l ≠ []) : glue [] l = l := by
  cases l with
  | nil => exact absurd rfl h
  | cons a t => simp [glue]
theorem cutL_len (b : UInt8) (l : List UInt8) : (cutL b l).length ≤ l.length + 1 ∧ ∀ p ∈ cutL b l, p.length ≤ l.length := by
  induction l with
  | nil => simp [cutL]
  | cons x t ih =>
    unfold cutL
    split
    · refine ⟨by simp; exact ih.1, fun p hp => ?_⟩
      rw [List.mem_cons] at hp
      rcases hp with rfl | hp
      · simp
      · have := ih.2 p hp; simp; omega
    · cases h : cutL b t with
      | nil => exact absurd h (cutL_ne b t)
      | cons a r =>
        rw [h] at ih
        simp only [glue]
        refine ⟨by have := ih.1; simp at this ⊢; omega, fun p hp => ?_⟩
        rw [List.mem_cons] at hp
        rcases hp with rfl | hp
        · have := ih.2 a (by simp); simp; omega
        · have := ih.2 p (by simp [hp]); simp; omega
theorem cutL_append (b : UInt8) (l r : List UInt8) : cutL b (l ++ b :: r) = cutL b l ++ cutL b r := by
  induction l with
  | nil => simp [cutL]
  | cons x t ih =>
    show (if x = b then [] :: cutL b (t ++ b :: r) else glue [x] (cutL b (t ++ b :: r))) = (if x = b then [] :: cutL b t else glue [x] (cutL b t)) ++ cutL b r
    rw [ih]
    split
    · rfl
    · cases h : cutL b t with
      | nil => exact absurd h (cutL_ne b t)
      | cons a q => rfl
theorem cutL_end (b : UInt8) (l : List UInt8) (h : ∀ x ∈ l, x ≠ b) : cutL b l = [l] := by
  induction l with
  | nil => simp [cutL]
  | cons x t ih =>
    have hx := h x (by simp)
    show (if x = b then [] :: cutL b t else glue [x] (cutL b t)) = _
    rw [if_neg hx, ih (fun y hy => h y (by simp [hy]))]
    rfl
theorem cutL_at (b : UInt8) (l : List UInt8) (k : Nat) (h : k < l.length) : cutL b (l.drop k) = if l[k] = b then [] :: cutL b (l.drop (k + 1)) else glue [l[k]] (cutL b (l.drop (k + 1))) := by
  rw [List.drop_eq_getElem_cons h]; rfl
/-- The value that a part stands for. -/
def valueM (l : List UInt8) : Int := if l = [110, 117, 108, 108] then -1 else if dk l ≤ 9 ∧ Lib.itoa (val l) = l ∧ 0 ≤ val l then val l else -100000
def rowM (l : List UInt8) : List Int := (cutL 32 l).map valueM
/-- The table that a text is read as, before it is looked at. -/
def tabC (s : List UInt8) : Int := ((((cutL 10 s).getD 0 []).length : Nat) : Int)
def tabR (s : List UInt8) : List (List Int) := (((cutL 10 s).drop 1).dropLast).map rowM
/-- What a text is read as. -/
def parC (s : ByteArray) : Int := if s.data.toList ≠ [] ∧ fmtT (tabC s.data.toList) (tabR s.data.toList) = s then tabC s.data.toList else 0
def parR (s : ByteArray) : List (List Int) := if s.data.toList ≠ [] ∧ fmtT (tabC s.data.toList) (tabR s.data.toList) = s then tabR s.data.toList else []
def parOk (s : ByteArray) : Bool := decide (s.data.toList ≠ [] ∧ fmtT (tabC s.data.toList) (tabR s.data.toList) = s)

/-! ### A table's own text is read back -/
theorem itoa_small (i : Fin 41) : (Lib.itoa ((i.val : Nat) : Int) = if i.val < 10 then [UInt8.ofNat (48 + i.val)] else [UInt8.ofNat (48 + i.val / 10), UInt8.ofNat (48 + i.val % 10)]) := by
  have h := i.isLt
  have e : Lib.itoa ((i.val : Nat) : Int) = Lib.decDigits i.val := by
    unfold Lib.itoa; rw [if_neg (by omega)]; rfl
  rw [e]
  by_cases h1 : i.val < 10
  · rw [Lib.decDigits, dif_pos h1, if_pos h1]
  · rw [Lib.decDigits, dif_neg h1, Lib.decDigits, dif_pos (by omega), if_neg h1]
    rfl
theorem small_bytes : ∀ i : Fin 41, ∀ b ∈ (if i.val < 10 then [UInt8.ofNat (48 + i.val)] else [UInt8.ofNat (48 + i.val / 10), UInt8.ofNat (48 + i.val % 10)]), b ≠ 10 ∧ b ≠ 32 ∧ b ≠ 110 := by decide +kernel
theorem cellB_eq (x : Int) : cellB x = if x = -1 then [110, 117, 108, 108] else Lib.itoa x := by
  unfold cellB cellS itoaB
  split <;> rfl
theorem cellB_bytes {x : Int} (h0 : -1 ≤ x) (h1 : x ≤ 40) : ∀ b ∈ cellB x, b ≠ 10 ∧ b ≠ 32 := by
  intro b hb
  rw [cellB_eq] at hb
  by_cases hx : x = -1
  · rw [if_pos hx] at hb
    simp at hb
    rcases hb with rfl | rfl | rfl <;> decide
  · rw [if_neg hx] at hb
    obtain ⟨X, rfl⟩ : ∃ X : Nat, x = (X : Int) := ⟨x.toNat, by omega⟩
    rw [itoa_small ⟨X, by omega⟩] at hb
    have := small_bytes ⟨X, by omega⟩ b hb
    exact ⟨this.1, this.2.1⟩
theorem value_cell {x : Int} (h0 : -1 ≤ x) (h1 : x ≤ 40) : valueM (cellB x) = x := by
  rw [cellB_eq]
  unfold valueM
  by_cases hx : x = -1
  · rw [if_pos hx, if_pos rfl]; exact hx.symm
  · rw [if_neg hx]
    obtain ⟨X, rfl⟩ : ∃ X : Nat, x = (X : Int) := ⟨x.toNat, by omega⟩
    have hne : Lib.itoa (X : Int) ≠ [110, 117, 108, 108] := by
      intro e
      have hb := small_bytes ⟨X, by omega⟩
      rw [← itoa_small ⟨X, by omega⟩] at hb
      exact (hb 110 (by simp only; rw [e]; simp)).2.2 rfl
    have hp := itoa_parts (X : Int)
    have hl := itoa_len (m := (X : Int)) ⟨by omega, by omega⟩
    rw [if_neg hne, hp.2.2, if_pos ⟨hl.2.1, rfl, by omega⟩]
theorem cell_at {r : List Int} (h : ∀ x ∈ r, -1 ≤ x ∧ x ≤ 40) {k : Nat} (hk : k < r.length) : -1 ≤ r.getD k 0 ∧ r.getD k 0 ≤ 40 := h _ (by rw [← get_getD r k hk]; exact List.getElem_mem _)
theorem rowPre_cut {r : List Int} (h : ∀ x ∈ r, -1 ≤ x ∧ x ≤ 40) (k : Nat) (hk : k < r.length) : cutL 32 (rowPre r (k + 1)) = (r.take (k + 1)).map cellB := by
  have hend : ∀ k, k < r.length → cutL 32 (cellB (r.getD k 0)) = [cellB (r.getD k 0)] := fun k hk => cutL_end _ _ fun b hb => (cellB_bytes (cell_at h hk).1 (cell_at h hk).2 b hb).2
  induction k with
  | zero =>
    rw [take_succ_getD r 0 0 hk]
    show cutL 32 ([] ++ ((if 0 < 0 then [32] else []) ++ cellB (r.getD 0 0))) = _
    rw [if_neg (by omega), List.nil_append, List.nil_append, hend 0 hk]
    simp
  | succ k ih =>
    rw [take_succ_getD r 0 (k + 1) hk, List.map_append, ← ih (by omega)]
    show cutL 32 (rowPre r (k + 1) ++ ((if 0 < k + 1 then [32] else []) ++ cellB (r.getD (k + 1) 0))) = _
    rw [if_pos (by omega), List.singleton_append, cutL_append, hend (k + 1) hk]
    rfl
theorem row_back {r : List Int} (h : ∀ x ∈ r, -1 ≤ x ∧ x ≤ 40) (hl : 0 < r.length) : rowM (rowPre r r.length) = r := by
  obtain ⟨k, hk⟩ : ∃ k, r.length = k + 1 := ⟨r.length - 1, by omega⟩
  unfold rowM
  rw [hk, rowPre_cut h k (by omega), List.take_of_length_le (by omega), List.map_map]
  conv => rhs; rw [← List.map_id r]
  apply List.map_congr_left
  intro x hx
  exact value_cell (h x hx).1 (h x hx).2
theorem rowPre_bytes {r : List Int} (h : ∀ x ∈ r, -1 ≤ x ∧ x ≤ 40) (k : Nat) (hk : k ≤ r.length) : ∀ b ∈ rowPre r k, b ≠ 10 := by
  induction k with
  | zero => intro b hb; simp [rowPre] at hb
  | succ k ih =>
    intro b hb
    unfold rowPre at hb
    rw [List.mem_append, List.mem_append] at hb
    rcases hb with hb | hb | hb
    · exact ih (by omega) b hb
    · split at hb
      · simp at hb; subst hb; decide
      · simp at hb
    · exact (cellB_bytes (cell_at h (by omega)).1 (cell_at h (by omega)).2 b hb).1
/-- The first line's letters. -/
def letC (c : Int) : List UInt8 := (fmtA (2 ^ c.toNat - 1)).data.toList
theorem letC_facts : ∀ C : Fin 6, C.val ≠ 0 → ((letC ((C.val : Nat) : Int)).length = C.val ∧ ∀ b ∈ letC ((C.val : Nat) : Int), b ≠ 10) := by decide +kernel
def tabT (c : Int) (ll : List (List Int)) : Nat → List UInt8
  | 0 => letC c
  | i + 1 => tabT c ll i ++ 10 :: rowPre (ll.getD i []) (ll.getD i []).length
theorem tabT_eq (c : Int) (ll : List (List Int)) (i : Nat) : headB c ++ rowsB ll i = tabT c ll i ++ [10] := by
  induction i with
  | zero => show headB c ++ [] = letC c ++ [10]; rw [List.append_nil]; rfl
  | succ i ih =>
    show headB c ++ (rowsB ll i ++ (rowPre (ll.getD i []) (ll.getD i []).length ++ [10])) = (tabT c ll i ++ 10 :: rowPre (ll.getD i []) (ll.getD i []).length) ++ [10]
    rw [← List.append_assoc, ih]
    simp
theorem tabT_cut {c : Int} {ll : List (List Int)} (h : isT c ll = true) (i : Nat) (hi : i ≤ ll.length) : cutL 10 (tabT c ll i) = letC c :: (ll.take i).map (fun r => rowPre r r.length) := by
  obtain ⟨c1, c5, -⟩ := isT_bd h
  have hlet := letC_facts ⟨c.toNat, by omega⟩ (by simp only; omega)
  simp only [show ((c.toNat : Nat) : Int) = c by omega] at hlet
  induction i with
  | zero => show cutL 10 (letC c) = _; rw [cutL_end _ _ hlet.2]; simp
  | succ i ih =>
    have hr := (isT_row h (show i < ll.length by omega)).2
    show cutL 10 (tabT c ll i ++ 10 :: rowPre (ll.getD i []) (ll.getD i []).length) = _
    rw [cutL_append, ih (by omega), cutL_end _ _ (rowPre_bytes hr _ (Nat.le_refl _)), take_succ_getD ll [] i (by omega), List.map_append]
    rfl
theorem fmtT_ok {c : Int} {ll : List (List Int)} (h : isT c ll = true) : (fmtT c ll).data.toList = tabT c ll ll.length ++ [10] := by
  unfold fmtT
  rw [if_pos h]
  show headB c ++ rowsB ll ll.length = _
  exact tabT_eq c ll ll.length
theorem tab_back {c : Int} {ll : List (List Int)} (h : isT c ll = true) : tabC (fmtT c ll).data.toList = c ∧ tabR (fmtT c ll).data.toList = ll := by
  obtain ⟨c1, c5, -⟩ := isT_bd h
  have hlet := letC_facts ⟨c.toNat, by omega⟩ (by simp only; omega)
  simp only [show ((c.toNat : Nat) : Int) = c by omega] at hlet
  have hcut : cutL 10 (fmtT c ll).data.toList = letC c :: (ll.map (fun r => rowPre r r.length) ++ [[]]) := by
    rw [fmtT_ok h, cutL_append, tabT_cut h ll.length (Nat.le_refl _), List.take_length]
    rfl
  unfold tabC tabR
  rw [hcut]
  refine ⟨?_, ?_⟩
  · show (((letC c).length : Nat) : Int) = c
    rw [hlet.1]; omega
  · rw [List.drop_succ_cons, List.drop_zero, List.dropLast_concat, List.map_map]
    conv => rhs; rw [← List.map_id ll]
    apply List.map_congr_left
    intro r hr
    obtain ⟨k, hk, rfl⟩ := List.mem_iff_getElem.1 hr
    have h2 := isT_row h hk
    rw [List.getD_eq_getElem?_getD, List.getElem?_eq_getElem hk] at h2
    exact row_back h2.2 (by have := h2.1; simp at this; omega)
theorem fmtT_ne {c : Int} {ll : List (List Int)} (h : isT c ll = true) : (fmtT c ll).data.toList ≠ [] := by rw [fmtT_ok h]; simp
theorem par_iff (s : ByteArray) : (parOk s = true ∧ isT (parC s) (parR s) = true ∧ fmtT (parC s) (parR s) = s) ∨ ((∀ c ll, isT c ll = true → fmtT c ll ≠ s) ∧ parC s = 0 ∧ parR s = [] ∧ parOk s = false) := by
  by_cases h : s.data.toList ≠ [] ∧ fmtT (tabC s.data.toList) (tabR s.data.toList) = s
  · left
    unfold parOk parC parR
    rw [if_pos h, if_pos h, decide_eq_true h]
    refine ⟨rfl, ?_, h.2⟩
    cases hT : isT (tabC s.data.toList) (tabR s.data.toList) with
    | true => rfl
    | false =>
      exfalso
      apply h.1
      rw [← h.2]
      unfold fmtT
      rw [if_neg (by rw [hT]; simp)]
  · right
    unfold parOk parC parR
    rw [if_neg h, if_neg h, decide_eq_false h]
    refine ⟨fun c ll hv e => h ⟨by rw [← e]; exact fmtT_ne hv, ?_⟩, rfl, rfl, rfl⟩
    rw [← e, (tab_back hv).1, (tab_back hv).2]
end Go.Proofs.YtnbjcelfdppkcadGreat
namespace Go.Proofs.YtnbjcelfdppkcadGreat
open Go.RowKit

theorem infoZ : (Tryz.prog.info? 9).map (fun i => (i.zero, i.size, i.bytes)) = some (some (.string ⟨#[]⟩), 1, 16) := by kernel_rfl
def strV (l : List UInt8) : Value := .string ⟨l.toArray⟩
/-- The slice value v owns these strings. -/
def OwnZ (w : World) (B : Nat) (v : Value) (ls : List (List UInt8)) : Prop := w.ownsRow B 9 1 v ls.length (ls.map strV)
theorem OwnZ.snoc {w : World} {B : Nat} {v : Value} {ls : List (List UInt8)} {p : List UInt8} (h : w.ownsRow B 9 1 v (ls.length + 1) (ls.map strV ++ [strV p])) : OwnZ w B v (ls ++ [p]) := by
  unfold OwnZ; rw [List.length_append, List.map_append]; exact h
theorem one_str (p : List UInt8) : ∀ u ∈ [strV p], u.oneCell' = true := by intro u hu; simp at hu; subst hu; rfl
/-- The slice value v can be read: it holds these strings. -/
def ReadZ (w : World) (v : Value) (ls : List (List UInt8)) : Prop :=
  ∃ a cap, v = .slice a ls.length cap ∧ ∀ i, i < ls.length → ∃ x, a = some x ∧ w.cell? (x.add i) = some (strV (ls.getD i []))
theorem OwnZ.read {w : World} {B : Nat} {v : Value} {ls : List (List UInt8)} (h : OwnZ w B v ls) : ReadZ w v ls := by
  rcases ownsRow_shape h with ⟨rfl, hn⟩ | ⟨g, cap, rfl, -, -, -⟩
  · exact ⟨none, 0, by rw [hn], fun i hi => by omega⟩
  · refine ⟨_, cap, rfl, fun i hi => ⟨_, rfl, ?_⟩⟩
    rw [add_zero_off, World.ownsRow.cellAt h i (by omega)]
    simp [hi]
theorem ReadZ.kept {w w' : World} {v : Value} {ls : List (List UInt8)} (h : ReadZ w v ls) (hb : Below w.heap.size w w') : ReadZ w' v ls := by
  obtain ⟨a, cap, hv, hc⟩ := h
  refine ⟨a, cap, hv, fun i hi => ?_⟩
  obtain ⟨x, hx, hcell⟩ := hc i hi
  exact ⟨x, hx, (hb.cell (World.block_lt_of_cell? w _ hcell)).trans hcell⟩
def RetZ (ls : List (List UInt8)) (w : World) (e : Ending) (w' : World) : Prop := ∃ v, e = .returned v ∧ OwnZ w' w.heap.size v ls ∧ Below w.heap.size w w'
theorem sub_one (s : ByteArray) (i : Nat) (h : i < s.size) : (s.extract i (i + 1)).data.toList = [s[i]'h] := by
  rw [ByteArray.data_extract, Array.toList_extract, List.extract_eq_take_drop, show i + 1 - i = 1 by omega]
  have hl : i < s.data.toList.length := by simpa using h
  rw [List.drop_eq_getElem_cons hl]
  rfl
theorem strV_eq (s : ByteArray) : Value.string s = strV s.data.toList := rfl
end Go.Proofs.YtnbjcelfdppkcadGreat
namespace Go.Proofs.YtnbjcelfdppkcadGreat
open Go.RowKit

theorem value_of_PA {l : List UInt8} {n : Int} {ok : Bool} (h : PA l n ok) (hn : l ≠ [110, 117, 108, 108]) : valueM l = if ok = true ∧ 0 ≤ n then n else -100000 := by
  unfold valueM
  rw [if_neg hn]
  by_cases h1 : dk l ≤ 9
  · by_cases h2 : Lib.itoa (val l) = l
    · obtain ⟨rfl, rfl⟩ := h.unique (PA.good h1 h2)
      by_cases h3 : 0 ≤ val l
      · rw [if_pos ⟨h1, h2, h3⟩, if_pos ⟨rfl, h3⟩]
      · rw [if_neg (fun x => h3 x.2.2), if_neg (fun x => h3 x.2)]
    · obtain ⟨rfl, rfl⟩ := h.unique (PA.other h2)
      rw [if_neg (fun x => h2 x.2.1), if_neg (fun x => by cases x.1)]
  · obtain ⟨rfl, rfl⟩ := h.unique (PA.many (by omega))
    rw [if_neg (fun x => h1 x.1), if_neg (fun x => by cases x.1)]
theorem cutL_len2 (b : UInt8) (l : List UInt8) : ∀ p ∈ cutL b l, p.length + (cutL b l).length ≤ l.length + 1 := by
  induction l with
  | nil => intro p hp; simp [cutL] at hp; subst hp; simp [cutL]
  | cons x t ih =>
    have h1 := (cutL_len b t).1
    have hn : 0 < (cutL b t).length := List.length_pos_iff.2 (cutL_ne b t)
    have e : cutL b (x :: t) = if x = b then [] :: cutL b t else glue [x] (cutL b t) := rfl
    rw [e]
    split
    · intro p hp
      rw [List.mem_cons] at hp
      rw [List.length_cons, List.length_cons]
      rcases hp with rfl | hp
      · simp; omega
      · have := ih p hp; omega
    · cases h : cutL b t with
      | nil => exact absurd h (cutL_ne b t)
      | cons a r =>
        rw [h] at ih
        intro p hp
        simp only [glue, List.mem_cons] at hp
        simp only [glue, List.length_cons]
        rcases hp with rfl | hp
        · have := ih a (by simp); simp at this ⊢; omega
        · have := ih p (by simp [hp]); simp at this ⊢; omega
/-- The lines between the first one and what stands behind the last newline. -/
def midL (s : List UInt8) : List (List UInt8) := ((cutL 10 s).drop 1).dropLast
theorem midL_len (s : List UInt8) : (midL s).length = (cutL 10 s).length - 2 := by unfold midL; rw [List.length_dropLast, List.length_drop]; omega
theorem midL_get (s : List UInt8) (j : Nat) (h : j < (midL s).length) : (midL s).getD j [] = (cutL 10 s).getD (j + 1) [] := by
  rw [midL_len] at h
  unfold midL
  rw [List.getD_eq_getElem?_getD, List.getD_eq_getElem?_getD, List.getElem?_dropLast, if_pos (by rw [List.length_drop]; omega), List.getElem?_drop, Nat.add_comm 1 j]
theorem mid_bd (s : List UInt8) (j : Nat) (h : j < (midL s).length) : ((midL s).getD j []).length + 2 ≤ s.length := by
  have h2 := h
  rw [midL_len] at h2
  have hm : (midL s).getD j [] ∈ cutL 10 s := by
    rw [midL_get s j h, List.getD_eq_getElem?_getD, List.getElem?_eq_getElem (by omega)]
    exact List.getElem_mem _
  have := cutL_len2 10 s _ hm
  omega
theorem rowM_len (l : List UInt8) : (rowM l).length ≤ l.length + 1 := by unfold rowM; rw [List.length_map]; exact (cutL_len 32 l).1
/-- A table in a variable of its own. -/
def BoxIs (w : World) (T : Nat) (c : Int) (rv : Value) : Prop := w.heap[T]? = some (.cells #[.int .i64 c, rv] 29 (0, 0))
theorem BoxIs.cells {w : World} {T : Nat} {c : Int} {rv : Value} (h : BoxIs w T c rv) : (w.cell? ⟨T, 0, none⟩ = some (.int .i64 c) ∧ w.cell? ⟨T, 1, none⟩ = some rv) ∧ w.frozen? ⟨T, 0, none⟩ = false ∧ w.frozen? ⟨T, 1, none⟩ = false := by
  unfold BoxIs at h
  refine ⟨⟨?_, ?_⟩, ?_, ?_⟩
  · rw [cell_of_row w T 0 _ _ _ h]; rfl
  · rw [cell_of_row w T 1 _ _ _ h]; rfl
  · simp [World.frozen?, h]
  · simp [World.frozen?, h]
theorem BoxIs.kept {w w' : World} {T D : Nat} {c : Int} {rv : Value} (h : BoxIs w T c rv) (hb : Below D w w') (hT : T < D) : BoxIs w' T c rv := (hb.block T hT).trans h
theorem BoxIs.set {w : World} {T : Nat} {c : Int} {rv rv' : Value} (h : BoxIs w T c rv) : BoxIs (w.setCell ⟨T, 1, none⟩ rv') T c rv' := by
  unfold BoxIs at *
  simp only [World.setCell, Array.getElem?_modify]
  rw [if_pos trivial, h]
  rfl
theorem BoxIs.lt {w : World} {T : Nat} {c : Int} {rv : Value} (h : BoxIs w T c rv) : T < w.heap.size := (Array.getElem?_eq_some_iff.1 h).1
end Go.Proofs.YtnbjcelfdppkcadGreat
