/- Facts of the 32 sets: texts differ, members add up to the set, the listing by size ascends. Conditions: none. -/
import Derived.Test.YtficnbeciohpfaaSets2
import Derived.Test.YtficnbeciohpfaaSets4
namespace Go.Proofs.Ytficnbeciohpfaa
open Go.RowKit

theorem isTx_eq (s : ByteArray) (x : Nat) : isTx s x = ((fmtA (x : Int)).data.toList == s.data.toList) := by
  unfold isTx; rw [ByteArray.toList_eq, ByteArray.toList_eq]
theorem texts_apart : ∀ X : Fin 32, ∀ j : Fin 32, ((fmtA ((j.val : Nat) : Int)).data.toList == (fmtA ((X.val : Nat) : Int)).data.toList) = decide (j = X) := by decide +kernel
theorem texts_some : ∀ j : Fin 32, ((fmtA ((j.val : Nat) : Int)).data.toList == []) = false := by decide +kernel
theorem PaA_fmt {x v : Int} {ok : Bool} (h : PaA (fmtA x) v ok) : ok = valB x ∧ (valB x = true → v = x) := by
  by_cases hx : 0 ≤ x ∧ x ≤ 31
  · obtain ⟨X, rfl⟩ : ∃ X : Nat, x = (X : Int) := ⟨x.toNat, by omega⟩
    have hX : X < 32 := by omega
    have hs : PaA (fmtA (X : Int)) (X : Int) true := .inl ⟨X, hX, rfl, by
        rw [isTx_eq]; simp, fun j hj => by
        rw [isTx_eq]; have := texts_apart ⟨X, hX⟩ ⟨j, by omega⟩; rw [this]; simp; omega, rfl⟩
    obtain ⟨rfl, rfl⟩ := h.unique hs
    refine ⟨?_, fun _ => rfl⟩
    unfold valB; simp [hx]
  · have hf : fmtA x = ⟨#[]⟩ := by unfold fmtA; rw [if_neg hx]
    have hs : PaA (fmtA x) 0 false := .inr ⟨fun j hj => by rw [isTx_eq, hf]; exact texts_some ⟨j, hj⟩, rfl, rfl⟩
    obtain ⟨rfl, rfl⟩ := h.unique hs
    have hv : valB x = false := by unfold valB; simp only [hx, decide_false]
    exact ⟨hv.symm, fun e => by rw [hv] at e; cases e⟩
theorem isA5 (x : Int) : isA 5 x = valB x := by unfold isA valB; simp

/-- The sum of the places 2 to the i. -/
def pows (l : List Int) : Int := l.foldl (fun s i => s + 2 ^ i.toNat) 0
theorem pows_take {l : List Int} {k : Nat} (h : k < l.length) : pows (l.take (k + 1)) = pows (l.take k) + 2 ^ (l[k]).toNat := by
  unfold pows; rw [List.take_succ_eq_append_getElem h, List.foldl_append]; rfl
theorem mems_sum : ∀ X : Fin 32, pows (mems ((X.val : Nat) : Int)) = ((X.val : Nat) : Int) := by decide +kernel
theorem mems_small : ∀ X : Fin 32, ∀ i ∈ mems ((X.val : Nat) : Int), 0 ≤ i ∧ i ≤ 4 := by decide +kernel
theorem pows_part : ∀ X : Fin 32, ∀ k : Fin 6, 0 ≤ pows ((mems ((X.val : Nat) : Int)).take k.val) ∧ pows ((mems ((X.val : Nat) : Int)).take k.val) ≤ 31 := by decide +kernel
theorem mems_at {x : Int} {k : Nat} (h : k < (mems x).length) : (0 ≤ x ∧ x ≤ 31) ∧ 0 ≤ (mems x)[k] ∧ (mems x)[k] ≤ 4 := by
  by_cases hx : 0 ≤ x ∧ x ≤ 31
  · obtain ⟨X, rfl⟩ : ∃ X : Nat, x = (X : Int) := ⟨x.toNat, by omega⟩
    exact ⟨hx, mems_small ⟨X, by omega⟩ _ (List.getElem_mem h)⟩
  · have : mems x = [] := by unfold mems; rw [if_neg hx]
    rw [this] at h; simp at h
theorem pows_bd (x : Int) (k : Nat) : 0 ≤ pows ((mems x).take k) ∧ pows ((mems x).take k) ≤ 31 := by
  by_cases hx : 0 ≤ x ∧ x ≤ 31
  · obtain ⟨X, rfl⟩ : ∃ X : Nat, x = (X : Int) := ⟨x.toNat, by omega⟩
    by_cases hk : k < 6
    · exact pows_part ⟨X, by omega⟩ ⟨k, hk⟩
    · have h1 := mems_len (X : Int)
      have h2 := pows_part ⟨X, by omega⟩ ⟨5, by omega⟩
      rw [List.take_of_length_le (by omega)]
      rw [List.take_of_length_le (by simpa using h1)] at h2
      exact h2
  · have : mems x = [] := by unfold mems; rw [if_neg hx]
    rw [this]; simp [pows]
theorem pows_all {x : Int} (h : valB x = true) : pows (mems x) = x := by
  have hx : 0 ≤ x ∧ x ≤ 31 := by unfold valB at h; simpa using h
  obtain ⟨X, rfl⟩ : ∃ X : Nat, x = (X : Int) := ⟨x.toNat, by omega⟩
  exact mems_sum ⟨X, by omega⟩
/-- Place i of the listing comes after place i - 1. -/
def asc (l : List Int) (i : Nat) : Bool := decide (cnt (l.getD (i - 1) 0) < cnt (l.getD i 0)) || (decide (cnt (l.getD (i - 1) 0) = cnt (l.getD i 0)) && decide (l.getD (i - 1) 0 < l.getD i 0))
theorem asc_all : ∀ N : Fin 6, ((List.range (parts ((N.val : Nat) : Int)).length).all fun i => i == 0 || asc (parts ((N.val : Nat) : Int)) i) = true := by decide +kernel
theorem parts_asc {n : Int} {i : Nat} (h0 : 1 ≤ i) (h1 : i < (parts n).length) : asc (parts n) i = true := by
  by_cases hn : 0 ≤ n ∧ n ≤ 5
  · obtain ⟨N, rfl⟩ : ∃ N : Nat, n = (N : Int) := ⟨n.toNat, by omega⟩
    have := List.all_eq_true.1 (asc_all ⟨N, by omega⟩) i (by simpa using h1)
    have hz : (i == 0) = false := by simp; omega
    simpa [hz] using this
  · have : parts n = [] := by unfold parts; rw [if_neg hn]
    rw [this] at h1; simp at h1
theorem parts_count : ∀ N : Fin 6, (parts ((N.val : Nat) : Int)).length = 2 ^ N.val := by decide +kernel
theorem parts_none {n : Int} (h : ¬ (0 ≤ n ∧ n ≤ 5)) : (parts n).length = 0 := by unfold parts; rw [if_neg h]; rfl
end Go.Proofs.Ytficnbeciohpfaa
