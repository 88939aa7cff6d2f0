/- Texts of this claim, merged: Sets3, Sets4, Sets5, Fmt, SpecF, Parse. Conditions: as stated. -/
import Derived.Test.YtnbjcelfdppkcaaGreatTc2
import Derived.Test.YtnbjcelfdppkcaaGreatTc3
import Derived.Test.YtnbjcelfdppkcaaGreatTc1
import Derived.Test.YtnbjcelfdppkcaaGreatRows
import Derived.Lib.ItoaNum
import Derived.Lib.OthersKept
import Derived.Lib.Strings
namespace Go.Proofs.YtnbjcelfdppkcaaGreat
open Go.RowKit

/-- The letters of the first k columns that X has. -/
def lets (X k : Nat) : List UInt8 := ((List.range k).filter (bitB X)).map fun (i : Nat) => UInt8.ofNat (65 + i)
theorem lets_succ (X k : Nat) : lets X (k + 1) = if bitB X k = true then lets X k ++ [UInt8.ofNat (65 + k)] else lets X k := by
  unfold lets
  rw [List.range_succ, List.filter_append, List.map_append]
  by_cases h : bitB X k = true
  · rw [if_pos h]; simp [h]
  · rw [if_neg h]; simp [h]
theorem lets_len (X k : Nat) : (lets X k).length ≤ k := by
  have := List.length_filter_le (bitB X) (List.range k)
  simpa [lets] using this
def noneB : ByteArray := ⟨#[110, 111, 110, 101]⟩
/-- The text of x, empty if x is no set of columns. -/
def fmtA (x : Int) : ByteArray := if 0 ≤ x ∧ x ≤ 31 then (if lets x.toNat 5 = [] then noneB else ⟨(lets x.toNat 5).toArray⟩) else ⟨#[]⟩
theorem abc_at (k : Nat) (hk : k < 5) : (({ data := #[65, 66, 67, 68, 69] } : ByteArray).extract k (k + 1)).data.toList = [UInt8.ofNat (65 + k)] := by
  rcases (show k = 0 ∨ k = 1 ∨ k = 2 ∨ k = 3 ∨ k = 4 by omega) with rfl | rfl | rfl | rfl | rfl <;> rfl

end Go.Proofs.YtnbjcelfdppkcaaGreat
namespace Go.Proofs.YtnbjcelfdppkcaaGreat
open Go.RowKit

/-- Whether the text of x is s, as the program compares. -/
def isTx (s : ByteArray) (x : Nat) : Bool := (fmtA (x : Int)).toList == s.toList
/-- The set that s is the text of, and whether there is one. -/
def PaA (s : ByteArray) (x : Int) (ok : Bool) : Prop :=
  (∃ X : Nat, X < 32 ∧ x = (X : Int) ∧ isTx s X = true ∧ (∀ j, j < X → isTx s j = false) ∧ ok = true) ∨ ((∀ j, j < 32 → isTx s j = false) ∧ x = 0 ∧ ok = false)
theorem PaA.unique {s : ByteArray} {x x' : Int} {ok ok' : Bool} (h : PaA s x ok) (h' : PaA s x' ok') : x = x' ∧ ok = ok' := by
  rcases h with ⟨X, hX, rfl, ht, hn, rfl⟩ | ⟨hn, rfl, rfl⟩ <;> rcases h' with ⟨Y, hY, rfl, ht', hn', rfl⟩ | ⟨hn', rfl, rfl⟩
  · refine ⟨?_, rfl⟩
    rcases Nat.lt_trichotomy X Y with h | rfl | h
    · rw [hn' X h] at ht; cases ht
    · rfl
    · rw [hn Y h] at ht'; cases ht'
  · rw [hn' X hX] at ht; cases ht
  · rw [hn Y hY] at ht'; cases ht'
  · exact ⟨rfl, rfl⟩
theorem none_step {s : ByteArray} {k : Nat} (h : ∀ j, j < k → isTx s j = false) (hk : isTx s k = false) : ∀ j, j < k + 1 → isTx s j = false := fun j hj => by
  rcases Nat.lt_or_ge j k with h1 | h1
  · exact h j h1
  · obtain rfl : j = k := by omega
    exact hk

end Go.Proofs.YtnbjcelfdppkcaaGreat
namespace Go.Proofs.YtnbjcelfdppkcaaGreat
open Go.RowKit

theorem isTx_eq (s : ByteArray) (x : Nat) : isTx s x = ((fmtA (x : Int)).data.toList == s.data.toList) := by
  unfold isTx; rw [ByteArray.toList_eq, ByteArray.toList_eq]
theorem texts_apart : ∀ X : Fin 32, ∀ j : Fin 32, ((fmtA ((j.val : Nat) : Int)).data.toList == (fmtA ((X.val : Nat) : Int)).data.toList) = decide (j = X) := by decide +kernel
theorem texts_some : ∀ j : Fin 32, ((fmtA ((j.val : Nat) : Int)).data.toList == []) = false := by decide +kernel
theorem PaA_fmt {x v : Int} {ok : Bool} (h : PaA (fmtA x) v ok) : ok = valB x ∧ (valB x = true → v = x) := by
  by_cases hx : 0 ≤ x ∧ x ≤ 31
  · obtain ⟨X, rfl⟩ : ∃ X : Nat, x = (X : Int) := ⟨x.toNat, by omega⟩
    have hX : X < 32 := by omega
    have hs : PaA (fmtA (X : Int)) (X : Int) true := .inl ⟨X, hX, rfl, by
        rw [isTx_eq]; simp, fun j hj => by
        rw [isTx_eq]; have := texts_apart ⟨X, hX⟩ ⟨j, by omega⟩; rw [this]; simp; omega, rfl⟩
    obtain ⟨rfl, rfl⟩ := h.unique hs
    refine ⟨?_, fun _ => rfl⟩
    unfold valB; simp [hx]
  · have hf : fmtA x = ⟨#[]⟩ := by unfold fmtA; rw [if_neg hx]
    have hs : PaA (fmtA x) 0 false := .inr ⟨fun j hj => by rw [isTx_eq, hf]; exact texts_some ⟨j, hj⟩, rfl, rfl⟩
    obtain ⟨rfl, rfl⟩ := h.unique hs
    have hv : valB x = false := by unfold valB; simp only [hx, decide_false]
    exact ⟨hv.symm, fun e => by rw [hv] at e; cases e⟩
theorem isA5 (x : Int) : isA 5 x = valB x := by unfold isA valB; simp

/-- The sum of the places 2 to the i. -/
def pows (l : List Int) : Int := l.foldl (fun s i => s + 2 ^ i.toNat) 0
theorem pows_take {l : List Int} {k : Nat} (h : k < l.length) : pows (l.take (k + 1)) = pows (l.take k) + 2 ^ (l[k]).toNat := by
  unfold pows; rw [List.take_succ_eq_append_getElem h, List.foldl_append]; rfl
theorem mems_sum : ∀ X : Fin 32, pows (mems ((X.val : Nat) : Int)) = ((X.val : Nat) : Int) := by decide +kernel
theorem mems_small : ∀ X : Fin 32, ∀ i ∈ mems ((X.val : Nat) : Int), 0 ≤ i ∧ i ≤ 4 := by decide +kernel
theorem pows_part : ∀ X : Fin 32, ∀ k : Fin 6, 0 ≤ pows ((mems ((X.val : Nat) : Int)).take k.val) ∧ pows ((mems ((X.val : Nat) : Int)).take k.val) ≤ 31 := by decide +kernel
theorem mems_at {x : Int} {k : Nat} (h : k < (mems x).length) : (0 ≤ x ∧ x ≤ 31) ∧ 0 ≤ (mems x)[k] ∧ (mems x)[k] ≤ 4 := by
  by_cases hx : 0 ≤ x ∧ x ≤ 31
  · obtain ⟨X, rfl⟩ : ∃ X : Nat, x = (X : Int) := ⟨x.toNat, by omega⟩
    exact ⟨hx, mems_small ⟨X, by omega⟩ _ (List.getElem_mem h)⟩
  · have : mems x = [] := by unfold mems; rw [if_neg hx]
    rw [this] at h; simp at h
theorem pows_bd (x : Int) (k : Nat) : 0 ≤ pows ((mems x).take k) ∧ pows ((mems x).take k) ≤ 31 := by
  by_cases hx : 0 ≤ x ∧ x ≤ 31
  · obtain ⟨X, rfl⟩ : ∃ X : Nat, x = (X : Int) := ⟨x.toNat, by omega⟩
    by_cases hk : k < 6
    · exact pows_part ⟨X, by omega⟩ ⟨k, hk⟩
    · have h1 := mems_len (X : Int)
      have h2 := pows_part ⟨X, by omega⟩ ⟨5, by omega⟩
      rw [List.take_of_length_le (by omega)]
      rw [List.take_of_length_le (by simpa using h1)] at h2
      exact h2
  · have : mems x = [] := by unfold mems; rw [if_neg hx]
    rw [this]; simp [pows]
theorem pows_all {x : Int} (h : valB x = true) : pows (mems x) = x := by
  have hx : 0 ≤ x ∧ x ≤ 31 := by unfold valB at h; simpa using h
  obtain ⟨X, rfl⟩ : ∃ X : Nat, x = (X : Int) := ⟨x.toNat, by omega⟩
  exact mems_sum ⟨X, by omega⟩
/-- Place i of the listing comes after place i - 1. -/
def asc (l : List Int) (i : Nat) : Bool := decide (cnt (l.getD (i - 1) 0) < cnt (l.getD i 0)) || (decide (cnt (l.getD (i - 1) 0) = cnt (l.getD i 0)) && decide (l.getD (i - 1) 0 < l.getD i 0))
theorem asc_all : ∀ N : Fin 6, ((List.range (parts ((N.val : Nat) : Int)).length).all fun i => i == 0 || asc (parts ((N.val : Nat) : Int)) i) = true := by decide +kernel
theorem parts_asc {n : Int} {i : Nat} (h0 : 1 ≤ i) (h1 : i < (parts n).length) : asc (parts n) i = true := by
  by_cases hn : 0 ≤ n ∧ n ≤ 5
  · obtain ⟨N, rfl⟩ : ∃ N : Nat, n = (N : Int) := ⟨n.toNat, by omega⟩
    have := List.all_eq_true.1 (asc_all ⟨N, by omega⟩) i (by simpa using h1)
    have hz : (i == 0) = false := by simp; omega
    simpa [hz] using this
  · have : parts n = [] := by unfold parts; rw [if_neg hn]
    rw [this] at h1; simp at h1
theorem parts_count : ∀ N : Fin 6, (parts ((N.val : Nat) : Int)).length = 2 ^ N.val := by decide +kernel
theorem parts_none {n : Int} (h : ¬ (0 ≤ n ∧ n ≤ 5)) : (parts n).length = 0 := by unfold parts; rw [if_neg h]; rfl
end Go.Proofs.YtnbjcelfdppkcaaGreat
namespace Go.Proofs.YtnbjcelfdppkcaaGreat
open Go.RowKit

def dz (u : Nat) : List UInt8 := if u = 0 then [] else Lib.decDigits u
theorem dz_step {u : Nat} (h : u ≠ 0) : dz u = dz (u / 10) ++ [UInt8.ofNat (48 + u % 10)] := by
  unfold dz
  rw [if_neg h, Lib.decDigits]
  by_cases h10 : u < 10
  · rw [dif_pos h10, if_pos (by omega), List.nil_append, Nat.mod_eq_of_lt h10]
  · rw [dif_neg h10, if_neg (by omega)]
theorem dec_len (u : Nat) (h : u ≤ 9223372036854775808) : (Lib.decDigits u).length ≤ 100 := by
  suffices hh : ∀ k u, u < 10 ^ k → (Lib.decDigits u).length ≤ k + 1 by
    have := hh 19 u (by omega); omega
  intro k
  induction k with
  | zero => intro u h; rw [Lib.decDigits, dif_pos (by omega)]; simp
  | succ k ih =>
    intro u h
    rw [Lib.decDigits]
    by_cases h10 : u < 10
    · rw [dif_pos h10]; simp
    · rw [dif_neg h10, List.length_append]
      have := ih (u / 10) (by rw [Nat.pow_succ] at h; omega)
      simp; omega
/-- What is left, and what has been written. -/
def FI (u p : Nat) (s : ByteArray) : Prop := u ≠ 0 ∧ p ≤ u ∧ dz p ++ s.data.toList = Lib.decDigits u
theorem FI.start {u : Nat} (h : u ≠ 0) : FI u u ⟨#[]⟩ := ⟨h, Nat.le_refl _, by unfold dz; rw [if_neg h]; simp⟩
theorem FI.step {u p : Nat} {s : ByteArray} (h : FI u p s) (hp : p ≠ 0) : FI u (p / 10) (strOfNums [48 + ((p % 10 : Nat) : Int)] ++ s) := by
  obtain ⟨h1, h2, h3⟩ := h
  refine ⟨h1, by omega, ?_⟩
  rw [str_add, ← h3, dz_step hp, List.append_assoc]
  rw [strOfNums_data, List.map_cons, List.map_nil, show (48 + ((p % 10 : Nat) : Int)).toNat = 48 + p % 10 by omega]
theorem FI.fin {u : Nat} {s : ByteArray} (h : FI u 0 s) : s.data.toList = Lib.decDigits u := by
  have := h.2.2; simpa [dz] using this
theorem FI.size {u p : Nat} {s : ByteArray} (h : FI u p s) (hu : u ≤ 9223372036854775808) : s.size ≤ 100 := by
  have h1 := dec_len u hu
  rw [← h.2.2, List.length_append] at h1
  rw [str_size]; omega
def itoaB (n : Int) : ByteArray := ⟨(Lib.itoa n).toArray⟩
theorem itoaB_pos {u : Nat} {s : ByteArray} (h : FI u 0 s) : itoaB (u : Int) = s := by
  apply str_ext
  unfold itoaB Lib.itoa
  rw [if_neg (by omega), h.fin]; simp
theorem itoaB_neg {u : Nat} {s : ByteArray} (h : FI u 0 s) : itoaB (-(u : Int)) = ⟨#[45]⟩ ++ s := by
  apply str_ext
  have := h.1
  unfold itoaB Lib.itoa
  rw [if_pos (by omega), str_add, h.fin]; simp

theorem neg_mod (p : Nat) : (-(p : Int)).tmod 10 = -((p % 10 : Nat) : Int) := by
  rw [Int.neg_tmod, Int.tmod_eq_emod_of_nonneg (by omega)]; omega
theorem neg_div (p : Nat) (h : (p : Int) ≤ 9223372036854775808) : wrap64 ((-(p : Int)).tdiv 10) = -((p / 10 : Nat) : Int) := by
  rw [Int.neg_tdiv, Int.tdiv_eq_ediv_of_nonneg (by omega)]; unfold wrap64; omega
theorem neg_size (s : ByteArray) : (({ data := #[45] } : ByteArray) ++ s).size = 1 + s.size := by
  rw [str_size, str_add, List.length_append, ← str_size s]; rfl
end Go.Proofs.YtnbjcelfdppkcaaGreat
namespace Go.Proofs.YtnbjcelfdppkcaaGreat
open Go.RowKit

/-- The text of a value. -/
def cellS (x : Int) : ByteArray := if x = -1 then ⟨#[110, 117, 108, 108]⟩ else itoaB x
def cellB (x : Int) : List UInt8 := (cellS x).data.toList
theorem cellB_small : ∀ i : Fin 41, (Lib.itoa ((i.val : Nat) : Int)).length ≤ 2 := by
  intro i
  have h := i.isLt
  rcases (show i.val < 10 ∨ 10 ≤ i.val by omega) with h1 | h1
  · have e : Lib.itoa ((i.val : Nat) : Int) = Lib.decDigits i.val := by
      unfold Lib.itoa; rw [if_neg (by omega)]; rfl
    rw [e, Lib.decDigits, dif_pos h1]; simp
  · have e : Lib.itoa ((i.val : Nat) : Int) = Lib.decDigits i.val := by
      unfold Lib.itoa; rw [if_neg (by omega)]; rfl
    rw [e, Lib.decDigits, dif_neg (by omega), Lib.decDigits, dif_pos (by omega)]; simp
theorem cellB_len {x : Int} (h0 : -1 ≤ x) (h1 : x ≤ 40) : (cellB x).length ≤ 4 := by
  unfold cellB cellS
  by_cases hx : x = -1
  · rw [if_pos hx]; simp
  · rw [if_neg hx]
    obtain ⟨X, rfl⟩ : ∃ X : Nat, x = (X : Int) := ⟨x.toNat, by omega⟩
    have := cellB_small ⟨X, by omega⟩
    unfold itoaB
    simp only at this ⊢
    omega
/-- The values of a row, the first k of them, blanks between. -/
def rowPre (r : List Int) : Nat → List UInt8
  | 0 => []
  | k + 1 => rowPre r k ++ ((if 0 < k then [32] else []) ++ cellB (r.getD k 0))
theorem rowPre_len {r : List Int} (h : ∀ x ∈ r, -1 ≤ x ∧ x ≤ 40) (k : Nat) (hk : k ≤ r.length) : (rowPre r k).length ≤ 5 * k := by
  induction k with
  | zero => simp [rowPre]
  | succ k ih =>
    have hx := h (r.getD k 0) (by rw [← get_getD r k (by omega)]; exact List.getElem_mem _)
    have h1 := cellB_len hx.1 hx.2
    have h2 := ih (by omega)
    unfold rowPre
    rw [List.length_append, List.length_append]
    split <;> simp only [List.length_cons, List.length_nil] <;> omega
def rowB (r : List Int) : List UInt8 := rowPre r r.length ++ [10]
/-- The rows' texts, the first i of them. -/
def rowsB (ll : List (List Int)) : Nat → List UInt8
  | 0 => []
  | i + 1 => rowsB ll i ++ rowB (ll.getD i [])
def headB (c : Int) : List UInt8 := (fmtA (2 ^ c.toNat - 1)).data.toList ++ [10]
/-- The text of a table, empty if it is not valid. -/
def fmtT (c : Int) (ll : List (List Int)) : ByteArray := if isT c ll = true then ⟨(headB c ++ rowsB ll ll.length).toArray⟩ else ⟨#[]⟩
theorem head_len : ∀ C : Fin 6, (headB ((C.val : Nat) : Int)).length ≤ 6 := by decide +kernel
theorem rowB_len {c : Int} {ll : List (List Int)} (h : isT c ll = true) {k : Nat} (hk : k < ll.length) : (rowB (ll.getD k [])).length ≤ 26 := by
  obtain ⟨h1, h2⟩ := isT_row h hk
  obtain ⟨-, h5, -⟩ := isT_bd h
  have := rowPre_len h2 (ll.getD k []).length (Nat.le_refl _)
  unfold rowB
  rw [List.length_append]
  simp only [List.length_cons, List.length_nil]
  omega
theorem rowsB_len {c : Int} {ll : List (List Int)} (h : isT c ll = true) (i : Nat) (hi : i ≤ ll.length) : (rowsB ll i).length ≤ 26 * i := by
  induction i with
  | zero => simp [rowsB]
  | succ i ih =>
    have h1 := rowB_len h (show i < ll.length by omega)
    have h2 := ih (by omega)
    unfold rowsB
    rw [List.length_append]; omega
end Go.Proofs.YtnbjcelfdppkcaaGreat
namespace Go.Proofs.YtnbjcelfdppkcaaGreat
open Go.RowKit

/-! ### Digits -/
def isD (b : UInt8) : Prop := 48 ≤ b.toNat ∧ b.toNat ≤ 57
instance (b : UInt8) : Decidable (isD b) := by unfold isD; infer_instance
/-- The number that the digits in a list stand for (other bytes are passed over), and how many there are. -/
def dv (l : List UInt8) : Nat := l.foldl (fun a b => if isD b then a * 10 + (b.toNat - 48) else a) 0
def dk (l : List UInt8) : Nat := l.foldl (fun a b => if isD b then a + 1 else a) 0
theorem dv_snoc (l : List UInt8) (b : UInt8) : dv (l ++ [b]) = if isD b then dv l * 10 + (b.toNat - 48) else dv l := by simp [dv]
theorem dk_snoc (l : List UInt8) (b : UInt8) : dk (l ++ [b]) = if isD b then dk l + 1 else dk l := by simp [dk]
theorem snoc_cases (l : List UInt8) (h : l ≠ []) : ∃ l' b, l = l' ++ [b] := ⟨l.dropLast, l.getLast h, (List.dropLast_concat_getLast h).symm⟩
theorem dv_lt (l : List UInt8) : dv l < 10 ^ dk l ∧ dk l ≤ l.length := by
  suffices h : ∀ n (l : List UInt8), l.length = n → dv l < 10 ^ dk l ∧ dk l ≤ l.length from h _ l rfl
  intro n
  induction n with
  | zero => intro l hl; have := List.eq_nil_of_length_eq_zero hl; subst this; simp [dv, dk]
  | succ n ih =>
    intro l hl
    obtain ⟨l', b, rfl⟩ := snoc_cases l (by intro h; subst h; simp at hl)
    obtain ⟨h1, h2⟩ := ih l' (by simpa using hl)
    rw [dv_snoc, dk_snoc, List.length_append]
    split
    · next h => unfold isD at h; rw [Nat.pow_succ]; simp; omega
    · simp; omega
theorem digit_isD (u : Nat) : isD (UInt8.ofNat (48 + u % 10)) := by
  have : (48 + u % 10) % 256 = 48 + u % 10 := by omega
  unfold isD; simp [this]; omega
theorem digit_val (u : Nat) : (UInt8.ofNat (48 + u % 10)).toNat - 48 = u % 10 := by
  have : (48 + u % 10) % 256 = 48 + u % 10 := by omega
  simp [this]
theorem dec_facts (u : Nat) : dv (Lib.decDigits u) = u ∧ dk (Lib.decDigits u) = (Lib.decDigits u).length ∧ (∀ b ∈ Lib.decDigits u, isD b) ∧ Lib.decDigits u ≠ [] := by
  induction u using Nat.strongRecOn with
  | ind u ih =>
    rw [Lib.decDigits]
    by_cases h : u < 10
    · rw [dif_pos h]
      have e : u = u % 10 := by omega
      rw [e]
      have h1 := digit_isD u
      have h2 := digit_val u
      refine ⟨?_, ?_, ?_, by simp⟩
      · simp only [dv, List.foldl_cons, List.foldl_nil, if_pos h1]; omega
      · simp only [dk, List.foldl_cons, List.foldl_nil, if_pos h1]; rfl
      · intro b hb; rw [List.mem_singleton] at hb; rw [hb]; exact h1
    · rw [dif_neg h]
      obtain ⟨i1, i2, i3, i4⟩ := ih (u / 10) (by omega)
      have h1 := digit_isD u
      have h2 := digit_val u
      refine ⟨?_, ?_, ?_, by simp⟩
      · rw [dv_snoc, if_pos h1, i1, h2]; omega
      · rw [dk_snoc, if_pos h1, i2, List.length_append]; rfl
      · intro b hb
        rcases List.mem_append.1 hb with hb | hb
        · exact i3 b hb
        · rw [List.mem_singleton] at hb; rw [hb]; exact h1
theorem dec_len9 (u : Nat) (h : u ≤ 999999999) : (Lib.decDigits u).length ≤ 9 := by
  suffices hh : ∀ k u, u < 10 ^ (k + 1) → (Lib.decDigits u).length ≤ k + 1 by
    have := hh 8 u (by omega); omega
  intro k
  induction k with
  | zero => intro u h; rw [Lib.decDigits, dif_pos (by omega)]; simp
  | succ k ih =>
    intro u h
    rw [Lib.decDigits]
    by_cases h10 : u < 10
    · rw [dif_pos h10]; simp
    · rw [dif_neg h10, List.length_append]
      have := ih (u / 10) (by rw [Nat.pow_succ] at h; omega)
      simp; omega
/-- The digits behind the sign, and the sign. -/
def body (l : List UInt8) : List UInt8 := Lib.trimPrefix l [45]
def minus (l : List UInt8) : Bool := Lib.hasPrefix l [45]
def val (l : List UInt8) : Int := if minus l = true then -(dv (body l) : Int) else (dv (body l) : Int)
theorem minus_cons (t : List UInt8) : minus (45 :: t) = true ∧ body (45 :: t) = t := by
  have h : Lib.hasPrefix (45 :: t) [45] = true := by simp [Lib.hasPrefix, List.isPrefixOf]
  refine ⟨h, ?_⟩
  unfold body Lib.trimPrefix; rw [h]; simp
theorem minus_digits {t : List UInt8} (h : ∀ b ∈ t, isD b) : minus t = false ∧ body t = t := by
  have h0 : Lib.hasPrefix t [45] = false := by
    cases t with
    | nil => rfl
    | cons b t =>
      have := h b (by simp)
      simp only [Lib.hasPrefix, List.isPrefixOf, Bool.and_true]
      rw [beq_eq_false_iff_ne]
      intro e; subst e; unfold isD at this; revert this; decide
  refine ⟨h0, ?_⟩
  unfold body Lib.trimPrefix; rw [h0]; simp
theorem itoa_parts (m : Int) : body (Lib.itoa m) = Lib.decDigits m.natAbs ∧ minus (Lib.itoa m) = decide (m < 0) ∧ val (Lib.itoa m) = m := by
  unfold val
  by_cases h : m < 0
  · have e : Lib.itoa m = 45 :: Lib.decDigits m.natAbs := by unfold Lib.itoa; rw [if_pos h]
    obtain ⟨a, b⟩ := minus_cons (Lib.decDigits m.natAbs)
    rw [e, a, b, (dec_facts m.natAbs).1]
    exact ⟨rfl, by simp [h], by simp; omega⟩
  · have e : Lib.itoa m = Lib.decDigits m.natAbs := by unfold Lib.itoa; rw [if_neg h]; congr 1; omega
    obtain ⟨a, b⟩ := minus_digits (dec_facts m.natAbs).2.2.1
    rw [e, a, b, (dec_facts m.natAbs).1]
    exact ⟨rfl, by simp [h], by simp; omega⟩
theorem itoa_inj {m m' : Int} (h : Lib.itoa m = Lib.itoa m') : m = m' := by rw [← (itoa_parts m).2.2, h, (itoa_parts m').2.2]

def In9 (m : Int) : Prop := -999999999 ≤ m ∧ m ≤ 999999999
def PA (l : List UInt8) (n : Int) (ok : Bool) : Prop :=
  (In9 n ∧ l = Lib.itoa n ∧ ok = true) ∨ ((∀ m, In9 m → l ≠ Lib.itoa m) ∧ n = 0 ∧ ok = false)
theorem PA.unique {l : List UInt8} {n n' : Int} {ok ok' : Bool} (h : PA l n ok) (h' : PA l n' ok') : n = n' ∧ ok = ok' := by
  rcases h with ⟨a, b, rfl⟩ | ⟨a, rfl, rfl⟩ <;> rcases h' with ⟨a', b', rfl⟩ | ⟨a', rfl, rfl⟩
  · exact ⟨itoa_inj (b.symm.trans b'), rfl⟩
  · exact absurd b (a' _ a)
  · exact absurd b' (a _ a')
  · exact ⟨rfl, rfl⟩
def IntOk (P : Int → Bool → Prop) (w : World) (e : Ending) (w' : World) : Prop := ∃ n ok, P n ok ∧ e = .returned (.tuple #[.int .i64 n, .bool ok]) ∧ Below w.heap.size w w'

theorem dv_body (l : List UInt8) : dv (body l) = dv l ∧ dk (body l) = dk l := by
  unfold body Lib.trimPrefix
  split
  · next h =>
    cases l with
    | nil => simp
    | cons b t =>
      simp only [Lib.hasPrefix, List.isPrefixOf, Bool.and_true, beq_iff_eq] at h
      subst h
      have : ¬ isD 45 := by unfold isD; decide
      simp [dv, dk, this]
  · simp
theorem val_eq (l : List UInt8) : val l = if minus l = true then -(dv l : Int) else (dv l : Int) := by unfold val; rw [(dv_body l).1]
theorem itoa_len {m : Int} (h : In9 m) : (Lib.itoa m).length ≤ 10 ∧ dk (Lib.itoa m) ≤ 9 ∧ (body (Lib.itoa m)).length ≤ 9 := by
  have h9 := dec_len9 m.natAbs (by unfold In9 at h; omega)
  have e1 := (itoa_parts m).1
  refine ⟨?_, ?_, by rw [e1]; exact h9⟩
  · unfold Lib.itoa
    split
    · simp; omega
    · have : m.toNat = m.natAbs := by omega
      rw [this]; omega
  · rw [← (dv_body _).2, e1, (dec_facts _).2.1]; exact h9
theorem PA.long {l : List UInt8} (h : 10 < l.length) : PA l 0 false := .inr ⟨fun m hm e => by have := (itoa_len hm).1; rw [← e] at this; omega, rfl, rfl⟩
theorem PA.many {l : List UInt8} (h : 9 < dk l) : PA l 0 false := .inr ⟨fun m hm e => by have := (itoa_len hm).2.1; rw [← e] at this; omega, rfl, rfl⟩
theorem PA.longBody {l : List UInt8} (h : 9 < (body l).length) : PA l 0 false := .inr ⟨fun m hm e => by have := (itoa_len hm).2.2; rw [← e] at this; omega, rfl, rfl⟩
theorem PA.other {l : List UInt8} (h : Lib.itoa (val l) ≠ l) : PA l 0 false := .inr ⟨fun m _ e => h (by rw [e, (itoa_parts m).2.2]), rfl, rfl⟩
theorem PA.good {l : List UInt8} (h1 : dk l ≤ 9) (h2 : Lib.itoa (val l) = l) : PA l (val l) true := by
  refine .inl ⟨?_, h2.symm, rfl⟩
  have := (dv_lt l).1
  have h3 : 10 ^ dk l ≤ 10 ^ 9 := Nat.pow_le_pow_right (by omega) h1
  rw [val_eq]; unfold In9; split <;> omega
theorem not_true {b : Bool} (h : (!b) = true) : b = false := by cases b <;> simp_all
theorem not_false' {b : Bool} (h : (!b) = false) : b = true := by cases b <;> simp_all
theorem itoa_eq_true {n : Int} {s : ByteArray} (h : ((itoaB n).toList == s.toList) = true) : Lib.itoa n = s.data.toList := by
  rw [beq_iff_eq, ByteArray.toList_eq, ByteArray.toList_eq] at h
  simpa [itoaB] using h
theorem itoa_eq_false {n : Int} {s : ByteArray} (h : ((itoaB n).toList == s.toList) = false) : Lib.itoa n ≠ s.data.toList := by
  rw [beq_eq_false_iff_ne, ByteArray.toList_eq, ByteArray.toList_eq] at h
  intro e; exact h (by simpa [itoaB] using e)
theorem minus_none {s : ByteArray} (h : s.size = 0) : minus s.data.toList = false := by
  have : s.data.toList = [] := List.eq_nil_of_length_eq_zero (by rw [← str_size]; exact h)
  rw [this]; rfl
theorem minus_at {s : ByteArray} (h : 0 < s.size) : minus s.data.toList = decide ((s[0]'h).toNat = 45) := by
  have e : s.data.toList = s[0]'h :: s.data.toList.drop 1 := by
    have := List.drop_eq_getElem_cons (l := s.data.toList) (i := 0) (by rw [← str_size]; exact h)
    rw [List.drop_zero] at this; exact this
  rw [e]
  simp only [minus, Lib.hasPrefix, List.isPrefixOf, Bool.and_true]
  rw [Bool.eq_iff_iff, beq_iff_eq, decide_eq_true_iff]
  constructor
  · intro e; rw [← e]; rfl
  · intro e; apply UInt8.toNat_inj.1; rw [e]; rfl
theorem take_at (s : ByteArray) (k : Nat) (h : k < s.size) : s.data.toList.take (k + 1) = s.data.toList.take k ++ [s[k]] := by
  rw [List.take_succ_eq_append_getElem (by simpa using h)]; rfl
theorem dv_take (s : ByteArray) (k : Nat) (h : k < s.size) (hd : isD s[k]) : dv (s.data.toList.take (k + 1)) = dv (s.data.toList.take k) * 10 + (s[k].toNat - 48) ∧ dk (s.data.toList.take (k + 1)) = dk (s.data.toList.take k) + 1 := by
  rw [take_at s k h, dv_snoc, dk_snoc, if_pos hd, if_pos hd]; exact ⟨rfl, rfl⟩
theorem dv_skip (s : ByteArray) (k : Nat) (h : k < s.size) (hd : ¬ isD s[k]) : dv (s.data.toList.take (k + 1)) = dv (s.data.toList.take k) ∧ dk (s.data.toList.take (k + 1)) = dk (s.data.toList.take k) := by
  rw [take_at s k h, dv_snoc, dk_snoc, if_neg hd, if_neg hd]; exact ⟨rfl, rfl⟩
theorem dv_bd (l : List UInt8) (k : Nat) (h : k ≤ 11) : dv (l.take k) ≤ 99999999999 ∧ dk (l.take k) ≤ 11 := by
  obtain ⟨h1, h2⟩ := dv_lt (l.take k)
  have h3 : (l.take k).length ≤ 11 := by simp; omega
  have h4 : 10 ^ dk (l.take k) ≤ 10 ^ 11 := Nat.pow_le_pow_right (by omega) (by omega)
  omega

end Go.Proofs.YtnbjcelfdppkcaaGreat
