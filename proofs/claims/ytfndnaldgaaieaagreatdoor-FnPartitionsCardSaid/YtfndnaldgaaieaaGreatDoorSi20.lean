/- Texts of this claim, merged: DepB, DepC. Conditions: as stated. -/
import Derived.Test.YtfndnaldgaaieaaGreatDoorSi19
import Derived.Test.YtfndnaldgaaieaaGreatDoorSi16
namespace Go.Proofs.YtfndnaldgaaieaaGreatDoor
open Go.RowKit

/-- Rows i and k are equal on the left and not on the right. -/
def badB (c : Nat) (ll : List (List Int)) (m : Int) (L R : Nat) (i k : Nat) : Bool := agB c ll m (L : Int) i k && !bitB (agrTo m (ll.getD i []) (ll.getD k []) c).toNat R
/-- The first pair that is bad. -/
def PairIs (bad : Nat → Nat → Bool) (N : Nat) (a b : Int) : Prop :=
  (a = -1 ∧ b = -1 ∧ ∀ i k, i < k → k < N → bad i k = false) ∨ ∃ i k : Nat, a = (i : Int) ∧ b = (k : Int) ∧ i < k ∧ k < N ∧ bad i k = true ∧ (∀ i' k', i' < i → i' < k' → k' < N → bad i' k' = false) ∧ ∀ k', i < k' → k' < k → bad i k' = false
theorem PairIs.one {bad : Nat → Nat → Bool} {N : Nat} {a b a' b' : Int} (h : PairIs bad N a b) (h' : PairIs bad N a' b') : a = a' ∧ b = b' := by
  rcases h with ⟨rfl, rfl, h⟩ | ⟨i, k, rfl, rfl, h1, h2, h3, h4, h5⟩
  · rcases h' with ⟨rfl, rfl, -⟩ | ⟨i', k', rfl, rfl, h1', h2', h3', -⟩
    · exact ⟨rfl, rfl⟩
    · rw [h i' k' h1' h2'] at h3'; cases h3'
  · rcases h' with ⟨rfl, rfl, h'⟩ | ⟨i', k', rfl, rfl, h1', h2', h3', h4', h5'⟩
    · rw [h' i k h1 h2] at h3; cases h3
    · rcases Nat.lt_trichotomy i i' with hlt | rfl | hlt
      · rw [h4' i k hlt h1 h2] at h3; cases h3
      · rcases Nat.lt_trichotomy k k' with hlt | rfl | hlt
        · rw [h5' k h1 hlt] at h3; cases h3
        · exact ⟨rfl, rfl⟩
        · rw [h5 k' h1' hlt] at h3'; cases h3'
      · rw [h4 i' k' hlt h1' h2'] at h3'; cases h3'
theorem least_nat (p : Nat → Bool) : ∀ n, (∃ i, i < n ∧ p i = true) → ∃ a, a < n ∧ p a = true ∧ ∀ b, b < a → p b = false
  | 0, ⟨i, h, _⟩ => absurd h (Nat.not_lt_zero _)
  | n + 1, ⟨i, h, hi⟩ => by
    by_cases hx : ∃ j, j < n ∧ p j = true
    · obtain ⟨a, h1, h2⟩ := least_nat p n hx
      exact ⟨a, by omega, h2⟩
    · have : i = n := by
        by_cases e : i = n
        · exact e
        · exact (hx ⟨i, by omega, hi⟩).elim
      subst this
      exact ⟨i, h, hi, fun b hb => by
        cases hp : p b with
        | false => rfl
        | true => exact (hx ⟨b, hb, hp⟩).elim⟩
theorem PairIs.ex (bad : Nat → Nat → Bool) (N : Nat) : ∃ ab : Int × Int, PairIs bad N ab.1 ab.2 := by
  by_cases h : ∃ i, i < N ∧ ((List.range N).any fun k => decide (i < k) && bad i k) = true
  · obtain ⟨i, h1, h2, h3⟩ := least_nat (fun i => (List.range N).any fun k => decide (i < k) && bad i k) N h
    rw [List.any_eq_true] at h2
    obtain ⟨k, hk, hb⟩ := h2
    obtain ⟨k, h4, h5, h6⟩ := least_nat (fun k => decide (i < k) && bad i k) N ⟨k, List.mem_range.1 hk, hb⟩
    rw [Bool.and_eq_true, decide_eq_true_eq] at h5
    refine ⟨((i : Int), (k : Int)), .inr ⟨i, k, rfl, rfl, h5.1, h4, h5.2, fun i' k' g1 g2 g3 => ?_, fun k' g1 g2 => ?_⟩⟩
    · have := h3 i' g1
      simp only [List.any_eq_false] at this
      have := this k' (List.mem_range.2 g3)
      simpa [g2] using this
    · have := h6 k' g2
      simpa [g1] using this
  · refine ⟨(-1, -1), .inl ⟨rfl, rfl, fun i k h1 h2 => ?_⟩⟩
    cases hb : bad i k with
    | false => rfl
    | true => exact (h ⟨i, by omega, List.any_eq_true.2 ⟨k, List.mem_range.2 h2, by rw [hb]; simp [h1]⟩⟩).elim
noncomputable def pairI (bad : Nat → Nat → Bool) (N : Nat) : Int × Int := Classical.choose (PairIs.ex bad N)
theorem pairI_is (bad : Nat → Nat → Bool) (N : Nat) : PairIs bad N (pairI bad N).1 (pairI bad N).2 := Classical.choose_spec (PairIs.ex bad N)
theorem pairI_eq {bad : Nat → Nat → Bool} {N : Nat} {a b : Int} (h : PairIs bad N a b) : pairI bad N = (a, b) := by
  obtain ⟨h1, h2⟩ := (pairI_is bad N).one h
  rw [← h1, ← h2]
theorem bit_zero (X k : Nat) : (bits BinOp.and IntKind.i64 ((X : Int) / 2 ^ k) 1 == 0) = !bitB X k := by
  rw [← bit_test, i64_and_1]
  have h := Int.emod_two_eq ((X : Int) / 2 ^ k)
  rcases h with h | h <;> rw [h] <;> rfl
theorem agrTo_nat6 (m : Int) (r s : List Int) (n : Nat) (h : n ≤ 5) : ∃ Y : Nat, agrTo m r s n = (Y : Int) ∧ Y < 32 := by
  obtain ⟨h0, h1⟩ := agrTo_bd m r s n
  refine ⟨(agrTo m r s n).toNat, by omega, ?_⟩
  rcases (show n = 0 ∨ n = 1 ∨ n = 2 ∨ n = 3 ∨ n = 4 ∨ n = 5 by omega) with rfl | rfl | rfl | rfl | rfl | rfl <;> simp at h1 <;> omega
/-- A table and a dependency, each in a block of the call's own. -/
theorem boxTD {w wr : World} {a b l r : Value} {T T' : TypeId} (hb : Below ((w.alloc (.cells #[a, b] T)).alloc (.cells #[l, r] T')).heap.size ((w.alloc (.cells #[a, b] T)).alloc (.cells #[l, r] T')) wr) :
    (wr.cell? ⟨w.heap.size, 0, none⟩ = some a ∧ wr.cell? ⟨w.heap.size, 1, none⟩ = some b) ∧ wr.cell? ⟨w.heap.size + 1, 0, none⟩ = some l ∧ wr.cell? ⟨w.heap.size + 1, 1, none⟩ = some r := by
  have hb1 := (Below.refl (w.alloc (.cells #[a, b] T)).heap.size (w.alloc (.cells #[a, b] T))).alloc (Nat.le_refl _) (.cells #[l, r] T')
  have hbb := hb1.trans (hb.mono hb1.size)
  obtain ⟨h0, h1⟩ := zero2 (w.alloc (.cells #[a, b] T)) T' l r
  have hs : (w.alloc (.cells #[a, b] T)).heap.size = w.heap.size + 1 := by simp
  rw [hs] at h0 h1
  obtain ⟨g0, g1⟩ := zero2 w T a b
  exact ⟨⟨(hbb.cell (p := ⟨w.heap.size, 0, none⟩) (by simp)).trans g0, (hbb.cell (p := ⟨w.heap.size, 1, none⟩) (by simp)).trans g1⟩, (hb.cell (p := ⟨w.heap.size + 1, 0, none⟩) (by simp)).trans h0, (hb.cell (p := ⟨w.heap.size + 1, 1, none⟩) (by simp)).trans h1⟩
end Go.Proofs.YtfndnaldgaaieaaGreatDoor
namespace Go.Proofs.YtfndnaldgaaieaaGreatDoor
open Go.RowKit

/-- The first pair that violates the dependency. -/
noncomputable def pairD (c : Int) (ll : List (List Int)) (m l r : Int) : Int × Int := pairI (badB c.toNat ll m l.toNat r.toNat) ll.length
def okD (c : Int) (ll : List (List Int)) (m l r : Int) : Bool := fineT c ll m && depB c l r
noncomputable def holdsD (c : Int) (ll : List (List Int)) (m l r : Int) : Bool := okD c ll m l r && decide ((pairD c ll m l r).1 < 0)
noncomputable def witI (c : Int) (ll : List (List Int)) (m l r : Int) : Int := if okD c ll m l r = true then (pairD c ll m l r).1 else -1
noncomputable def witK (c : Int) (ll : List (List Int)) (m l r : Int) : Int := if okD c ll m l r = true then (pairD c ll m l r).2 else -1
noncomputable def witB (c : Int) (ll : List (List Int)) (m l r : Int) : Bool := okD c ll m l r && decide (0 ≤ (pairD c ll m l r).1)
theorem depB_nat {c l r : Int} (h : depB c l r = true) : ∃ L R : Nat, l = (L : Int) ∧ r = (R : Int) ∧ R < 5 := by
  obtain ⟨⟨h1, h5⟩, ha, h0, hr⟩ := depB_iff.1 h
  refine ⟨l.toNat, r.toNat, ?_, by omega, by omega⟩
  unfold isA at ha
  simp at ha
  omega
theorem fineT_isT {c : Int} {ll : List (List Int)} {m : Int} (h : fineT c ll m = true) : isT c ll = true := by unfold fineT at h; simp at h; exact h.1

section
set_option maxRecDepth 20000
set_option maxHeartbeats 1600000
end
end Go.Proofs.YtfndnaldgaaieaaGreatDoor
