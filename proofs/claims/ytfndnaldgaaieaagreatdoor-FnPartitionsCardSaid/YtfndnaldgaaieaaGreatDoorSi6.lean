/- Texts of this claim, merged: Sets2, Sets3, Sets4, Sets5, SpecF. Conditions: as stated. -/
import Derived.Test.YtfndnaldgaaieaaGreatDoorSi2
import Derived.Test.YtfndnaldgaaieaaGreatDoorSi5
import Derived.Test.YtfndnaldgaaieaaGreatDoorSi1
namespace Go.Proofs.YtfndnaldgaaieaaGreatDoor
open Go.RowKit

def cnt (x : Int) : Nat := (mems x).length
theorem cnt_le (x : Int) : cnt x ≤ 5 := mems_len x
def partB (x y : Int) : Bool := valB x && valB y && (bits .and .i64 x y == x)
/-- The sets below m with s columns. -/
def ofSize (s m : Nat) : List Int := ((List.range m).filter fun (x : Nat) => cnt (x : Int) == s).map fun (i : Nat) => (i : Int)
theorem ofSize_succ (s m : Nat) : ofSize s (m + 1) = if (cnt (m : Int) == s) = true then ofSize s m ++ [(m : Int)] else ofSize s m := by
  unfold ofSize
  rw [List.range_succ, List.filter_append, List.map_append]
  by_cases h : (cnt (m : Int) == s) = true
  · rw [if_pos h]; simp [h]
  · rw [if_neg h]; simp [h]
theorem ofSize_len (s m : Nat) : (ofSize s m).length ≤ m := by
  have := List.length_filter_le (fun (x : Nat) => cnt (x : Int) == s) (List.range m)
  simpa [ofSize] using this
def bySize (N s : Nat) : List Int := (List.range s).flatMap fun i => ofSize i (2 ^ N)
theorem bySize_succ (N s : Nat) : bySize N (s + 1) = bySize N s ++ ofSize s (2 ^ N) := by simp [bySize, List.range_succ]
theorem bySize_len (N s : Nat) : (bySize N s).length ≤ s * 2 ^ N := by
  induction s with
  | zero => simp [bySize]
  | succ s ih => rw [bySize_succ, List.length_append, Nat.succ_mul]; have := ofSize_len s (2 ^ N); omega
/-- All sets of the first n columns, by size. -/
def parts (n : Int) : List Int := if 0 ≤ n ∧ n ≤ 5 then bySize n.toNat (n.toNat + 1) else []
theorem parts_len (n : Int) : (parts n).length ≤ 1000 := by
  unfold parts
  split
  · rename_i h
    have a1 := bySize_len n.toNat (n.toNat + 1)
    have a2 : (2 : Nat) ^ n.toNat ≤ 2 ^ 5 := Nat.pow_le_pow_right (by omega) (by omega)
    have a3 : (n.toNat + 1) * 2 ^ n.toNat ≤ 6 * 32 := Nat.mul_le_mul (by omega) a2
    omega
  · simp

end Go.Proofs.YtfndnaldgaaieaaGreatDoor
namespace Go.Proofs.YtfndnaldgaaieaaGreatDoor
open Go.RowKit

/-- The letters of the first k columns that X has. -/
def lets (X k : Nat) : List UInt8 := ((List.range k).filter (bitB X)).map fun (i : Nat) => UInt8.ofNat (65 + i)
theorem lets_succ (X k : Nat) : lets X (k + 1) = if bitB X k = true then lets X k ++ [UInt8.ofNat (65 + k)] else lets X k := by
  unfold lets
  rw [List.range_succ, List.filter_append, List.map_append]
  by_cases h : bitB X k = true
  · rw [if_pos h]; simp [h]
  · rw [if_neg h]; simp [h]
theorem lets_len (X k : Nat) : (lets X k).length ≤ k := by
  have := List.length_filter_le (bitB X) (List.range k)
  simpa [lets] using this
def noneB : ByteArray := ⟨#[110, 111, 110, 101]⟩
/-- The text of x, empty if x is no set of columns. -/
def fmtA (x : Int) : ByteArray := if 0 ≤ x ∧ x ≤ 31 then (if lets x.toNat 5 = [] then noneB else ⟨(lets x.toNat 5).toArray⟩) else ⟨#[]⟩
theorem abc_at (k : Nat) (hk : k < 5) : (({ data := #[65, 66, 67, 68, 69] } : ByteArray).extract k (k + 1)).data.toList = [UInt8.ofNat (65 + k)] := by
  rcases (show k = 0 ∨ k = 1 ∨ k = 2 ∨ k = 3 ∨ k = 4 by omega) with rfl | rfl | rfl | rfl | rfl <;> rfl

end Go.Proofs.YtfndnaldgaaieaaGreatDoor
namespace Go.Proofs.YtfndnaldgaaieaaGreatDoor
open Go.RowKit

/-- Whether the text of x is s, as the program compares. -/
def isTx (s : ByteArray) (x : Nat) : Bool := (fmtA (x : Int)).toList == s.toList
/-- The set that s is the text of, and whether there is one. -/
def PaA (s : ByteArray) (x : Int) (ok : Bool) : Prop :=
  (∃ X : Nat, X < 32 ∧ x = (X : Int) ∧ isTx s X = true ∧ (∀ j, j < X → isTx s j = false) ∧ ok = true) ∨ ((∀ j, j < 32 → isTx s j = false) ∧ x = 0 ∧ ok = false)
theorem PaA.unique {s : ByteArray} {x x' : Int} {ok ok' : Bool} (h : PaA s x ok) (h' : PaA s x' ok') : x = x' ∧ ok = ok' := by
  rcases h with ⟨X, hX, rfl, ht, hn, rfl⟩ | ⟨hn, rfl, rfl⟩ <;> rcases h' with ⟨Y, hY, rfl, ht', hn', rfl⟩ | ⟨hn', rfl, rfl⟩
  · refine ⟨?_, rfl⟩
    rcases Nat.lt_trichotomy X Y with h | rfl | h
    · rw [hn' X h] at ht; cases ht
    · rfl
    · rw [hn Y h] at ht'; cases ht'
  · rw [hn' X hX] at ht; cases ht
  · rw [hn Y hY] at ht'; cases ht'
  · exact ⟨rfl, rfl⟩
theorem none_step {s : ByteArray} {k : Nat} (h : ∀ j, j < k → isTx s j = false) (hk : isTx s k = false) : ∀ j, j < k + 1 → isTx s j = false := fun j hj => by
  rcases Nat.lt_or_ge j k with h1 | h1
  · exact h j h1
  · obtain rfl : j = k := by omega
    exact hk

end Go.Proofs.YtfndnaldgaaieaaGreatDoor
namespace Go.Proofs.YtfndnaldgaaieaaGreatDoor
open Go.RowKit

theorem isTx_eq (s : ByteArray) (x : Nat) : isTx s x = ((fmtA (x : Int)).data.toList == s.data.toList) := by
  unfold isTx; rw [ByteArray.toList_eq, ByteArray.toList_eq]
theorem texts_apart : ∀ X : Fin 32, ∀ j : Fin 32, ((fmtA ((j.val : Nat) : Int)).data.toList == (fmtA ((X.val : Nat) : Int)).data.toList) = decide (j = X) := by decide +kernel
theorem texts_some : ∀ j : Fin 32, ((fmtA ((j.val : Nat) : Int)).data.toList == []) = false := by decide +kernel
theorem PaA_fmt {x v : Int} {ok : Bool} (h : PaA (fmtA x) v ok) : ok = valB x ∧ (valB x = true → v = x) := by
  by_cases hx : 0 ≤ x ∧ x ≤ 31
  · obtain ⟨X, rfl⟩ : ∃ X : Nat, x = (X : Int) := ⟨x.toNat, by omega⟩
    have hX : X < 32 := by omega
    have hs : PaA (fmtA (X : Int)) (X : Int) true := .inl ⟨X, hX, rfl, by
        rw [isTx_eq]; simp, fun j hj => by
        rw [isTx_eq]; have := texts_apart ⟨X, hX⟩ ⟨j, by omega⟩; rw [this]; simp; omega, rfl⟩
    obtain ⟨rfl, rfl⟩ := h.unique hs
    refine ⟨?_, fun _ => rfl⟩
    unfold valB; simp [hx]
  · have hf : fmtA x = ⟨#[]⟩ := by unfold fmtA; rw [if_neg hx]
    have hs : PaA (fmtA x) 0 false := .inr ⟨fun j hj => by rw [isTx_eq, hf]; exact texts_some ⟨j, hj⟩, rfl, rfl⟩
    obtain ⟨rfl, rfl⟩ := h.unique hs
    have hv : valB x = false := by unfold valB; simp only [hx, decide_false]
    exact ⟨hv.symm, fun e => by rw [hv] at e; cases e⟩
theorem isA5 (x : Int) : isA 5 x = valB x := by unfold isA valB; simp

/-- The sum of the places 2 to the i. -/
def pows (l : List Int) : Int := l.foldl (fun s i => s + 2 ^ i.toNat) 0
theorem pows_take {l : List Int} {k : Nat} (h : k < l.length) : pows (l.take (k + 1)) = pows (l.take k) + 2 ^ (l[k]).toNat := by
  unfold pows; rw [List.take_succ_eq_append_getElem h, List.foldl_append]; rfl
theorem mems_sum : ∀ X : Fin 32, pows (mems ((X.val : Nat) : Int)) = ((X.val : Nat) : Int) := by decide +kernel
theorem mems_small : ∀ X : Fin 32, ∀ i ∈ mems ((X.val : Nat) : Int), 0 ≤ i ∧ i ≤ 4 := by decide +kernel
theorem pows_part : ∀ X : Fin 32, ∀ k : Fin 6, 0 ≤ pows ((mems ((X.val : Nat) : Int)).take k.val) ∧ pows ((mems ((X.val : Nat) : Int)).take k.val) ≤ 31 := by decide +kernel
theorem mems_at {x : Int} {k : Nat} (h : k < (mems x).length) : (0 ≤ x ∧ x ≤ 31) ∧ 0 ≤ (mems x)[k] ∧ (mems x)[k] ≤ 4 := by
  by_cases hx : 0 ≤ x ∧ x ≤ 31
  · obtain ⟨X, rfl⟩ : ∃ X : Nat, x = (X : Int) := ⟨x.toNat, by omega⟩
    exact ⟨hx, mems_small ⟨X, by omega⟩ _ (List.getElem_mem h)⟩
  · have : mems x = [] := by unfold mems; rw [if_neg hx]
    rw [this] at h; simp at h
theorem pows_bd (x : Int) (k : Nat) : 0 ≤ pows ((mems x).take k) ∧ pows ((mems x).take k) ≤ 31 := by
  by_cases hx : 0 ≤ x ∧ x ≤ 31
  · obtain ⟨X, rfl⟩ : ∃ X : Nat, x = (X : Int) := ⟨x.toNat, by omega⟩
    by_cases hk : k < 6
    · exact pows_part ⟨X, by omega⟩ ⟨k, hk⟩
    · have h1 := mems_len (X : Int)
      have h2 := pows_part ⟨X, by omega⟩ ⟨5, by omega⟩
      rw [List.take_of_length_le (by omega)]
      rw [List.take_of_length_le (by simpa using h1)] at h2
      exact h2
  · have : mems x = [] := by unfold mems; rw [if_neg hx]
    rw [this]; simp [pows]
theorem pows_all {x : Int} (h : valB x = true) : pows (mems x) = x := by
  have hx : 0 ≤ x ∧ x ≤ 31 := by unfold valB at h; simpa using h
  obtain ⟨X, rfl⟩ : ∃ X : Nat, x = (X : Int) := ⟨x.toNat, by omega⟩
  exact mems_sum ⟨X, by omega⟩
/-- Place i of the listing comes after place i - 1. -/
def asc (l : List Int) (i : Nat) : Bool := decide (cnt (l.getD (i - 1) 0) < cnt (l.getD i 0)) || (decide (cnt (l.getD (i - 1) 0) = cnt (l.getD i 0)) && decide (l.getD (i - 1) 0 < l.getD i 0))
theorem asc_all : ∀ N : Fin 6, ((List.range (parts ((N.val : Nat) : Int)).length).all fun i => i == 0 || asc (parts ((N.val : Nat) : Int)) i) = true := by decide +kernel
theorem parts_asc {n : Int} {i : Nat} (h0 : 1 ≤ i) (h1 : i < (parts n).length) : asc (parts n) i = true := by
  by_cases hn : 0 ≤ n ∧ n ≤ 5
  · obtain ⟨N, rfl⟩ : ∃ N : Nat, n = (N : Int) := ⟨n.toNat, by omega⟩
    have := List.all_eq_true.1 (asc_all ⟨N, by omega⟩) i (by simpa using h1)
    have hz : (i == 0) = false := by simp; omega
    simpa [hz] using this
  · have : parts n = [] := by unfold parts; rw [if_neg hn]
    rw [this] at h1; simp at h1
theorem parts_count : ∀ N : Fin 6, (parts ((N.val : Nat) : Int)).length = 2 ^ N.val := by decide +kernel
theorem parts_none {n : Int} (h : ¬ (0 ≤ n ∧ n ≤ 5)) : (parts n).length = 0 := by unfold parts; rw [if_neg h]; rfl
end Go.Proofs.YtfndnaldgaaieaaGreatDoor
namespace Go.Proofs.YtfndnaldgaaieaaGreatDoor
open Go.RowKit

/-- The text of a value. -/
def cellS (x : Int) : ByteArray := if x = -1 then ⟨#[110, 117, 108, 108]⟩ else itoaB x
def cellB (x : Int) : List UInt8 := (cellS x).data.toList
theorem cellB_small : ∀ i : Fin 41, (Lib.itoa ((i.val : Nat) : Int)).length ≤ 2 := by
  intro i
  have h := i.isLt
  rcases (show i.val < 10 ∨ 10 ≤ i.val by omega) with h1 | h1
  · have e : Lib.itoa ((i.val : Nat) : Int) = Lib.decDigits i.val := by
      unfold Lib.itoa; rw [if_neg (by omega)]; rfl
    rw [e, Lib.decDigits, dif_pos h1]; simp
  · have e : Lib.itoa ((i.val : Nat) : Int) = Lib.decDigits i.val := by
      unfold Lib.itoa; rw [if_neg (by omega)]; rfl
    rw [e, Lib.decDigits, dif_neg (by omega), Lib.decDigits, dif_pos (by omega)]; simp
theorem cellB_len {x : Int} (h0 : -1 ≤ x) (h1 : x ≤ 40) : (cellB x).length ≤ 4 := by
  unfold cellB cellS
  by_cases hx : x = -1
  · rw [if_pos hx]; simp
  · rw [if_neg hx]
    obtain ⟨X, rfl⟩ : ∃ X : Nat, x = (X : Int) := ⟨x.toNat, by omega⟩
    have := cellB_small ⟨X, by omega⟩
    unfold itoaB
    simp only at this ⊢
    omega
/-- The values of a row, the first k of them, blanks between. -/
def rowPre (r : List Int) : Nat → List UInt8
  | 0 => []
  | k + 1 => rowPre r k ++ ((if 0 < k then [32] else []) ++ cellB (r.getD k 0))
theorem rowPre_len {r : List Int} (h : ∀ x ∈ r, -1 ≤ x ∧ x ≤ 40) (k : Nat) (hk : k ≤ r.length) : (rowPre r k).length ≤ 5 * k := by
  induction k with
  | zero => simp [rowPre]
  | succ k ih =>
    have hx := h (r.getD k 0) (by rw [← get_getD r k (by omega)]; exact List.getElem_mem _)
    have h1 := cellB_len hx.1 hx.2
    have h2 := ih (by omega)
    unfold rowPre
    rw [List.length_append, List.length_append]
    split <;> simp only [List.length_cons, List.length_nil] <;> omega
def rowB (r : List Int) : List UInt8 := rowPre r r.length ++ [10]
/-- The rows' texts, the first i of them. -/
def rowsB (ll : List (List Int)) : Nat → List UInt8
  | 0 => []
  | i + 1 => rowsB ll i ++ rowB (ll.getD i [])
def headB (c : Int) : List UInt8 := (fmtA (2 ^ c.toNat - 1)).data.toList ++ [10]
/-- The text of a table, empty if it is not valid. -/
def fmtT (c : Int) (ll : List (List Int)) : ByteArray := if isT c ll = true then ⟨(headB c ++ rowsB ll ll.length).toArray⟩ else ⟨#[]⟩
theorem head_len : ∀ C : Fin 6, (headB ((C.val : Nat) : Int)).length ≤ 6 := by decide +kernel
theorem rowB_len {c : Int} {ll : List (List Int)} (h : isT c ll = true) {k : Nat} (hk : k < ll.length) : (rowB (ll.getD k [])).length ≤ 26 := by
  obtain ⟨h1, h2⟩ := isT_row h hk
  obtain ⟨-, h5, -⟩ := isT_bd h
  have := rowPre_len h2 (ll.getD k []).length (Nat.le_refl _)
  unfold rowB
  rw [List.length_append]
  simp only [List.length_cons, List.length_nil]
  omega
theorem rowsB_len {c : Int} {ll : List (List Int)} (h : isT c ll = true) (i : Nat) (hi : i ≤ ll.length) : (rowsB ll i).length ≤ 26 * i := by
  induction i with
  | zero => simp [rowsB]
  | succ i ih =>
    have h1 := rowB_len h (show i < ll.length by omega)
    have h2 := ih (by omega)
    unfold rowsB
    rw [List.length_append]; omega
end Go.Proofs.YtfndnaldgaaieaaGreatDoor
