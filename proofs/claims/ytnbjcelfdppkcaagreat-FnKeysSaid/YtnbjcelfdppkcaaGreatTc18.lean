/- Texts of this claim, merged: DepB, DepC, PmB, CovA, PmC. Conditions: as stated. -/
import Derived.Test.YtnbjcelfdppkcaaGreatTc17
import Derived.Test.YtnbjcelfdppkcaaGreatTc15
import Derived.Test.YtnbjcelfdppkcaaGreatTc11
namespace Go.Proofs.YtnbjcelfdppkcaaGreat
open Go.RowKit

/-- Rows i and k are equal on the left and not on the right. -/
def badB (c : Nat) (ll : List (List Int)) (m : Int) (L R : Nat) (i k : Nat) : Bool := agB c ll m (L : Int) i k && !bitB (agrTo m (ll.getD i []) (ll.getD k []) c).toNat R
/-- The first pair that is bad. -/
def PairIs (bad : Nat → Nat → Bool) (N : Nat) (a b : Int) : Prop :=
  (a = -1 ∧ b = -1 ∧ ∀ i k, i < k → k < N → bad i k = false) ∨ ∃ i k : Nat, a = (i : Int) ∧ b = (k : Int) ∧ i < k ∧ k < N ∧ bad i k = true ∧ (∀ i' k', i' < i → i' < k' → k' < N → bad i' k' = false) ∧ ∀ k', i < k' → k' < k → bad i k' = false
theorem PairIs.one {bad : Nat → Nat → Bool} {N : Nat} {a b a' b' : Int} (h : PairIs bad N a b) (h' : PairIs bad N a' b') : a = a' ∧ b = b' := by
  rcases h with ⟨rfl, rfl, h⟩ | ⟨i, k, rfl, rfl, h1, h2, h3, h4, h5⟩
  · rcases h' with ⟨rfl, rfl, -⟩ | ⟨i', k', rfl, rfl, h1', h2', h3', -⟩
    · exact ⟨rfl, rfl⟩
    · rw [h i' k' h1' h2'] at h3'; cases h3'
  · rcases h' with ⟨rfl, rfl, h'⟩ | ⟨i', k', rfl, rfl, h1', h2', h3', h4', h5'⟩
    · rw [h' i k h1 h2] at h3; cases h3
    · rcases Nat.lt_trichotomy i i' with hlt | rfl | hlt
      · rw [h4' i k hlt h1 h2] at h3; cases h3
      · rcases Nat.lt_trichotomy k k' with hlt | rfl | hlt
        · rw [h5' k h1 hlt] at h3; cases h3
        · exact ⟨rfl, rfl⟩
        · rw [h5 k' h1' hlt] at h3'; cases h3'
      · rw [h4 i' k' hlt h1' h2'] at h3'; cases h3'
theorem least_nat (p : Nat → Bool) : ∀ n, (∃ i, i < n ∧ p i = true) → ∃ a, a < n ∧ p a = true ∧ ∀ b, b < a → p b = false
  | 0, ⟨i, h, _⟩ => absurd h (Nat.not_lt_zero _)
  | n + 1, ⟨i, h, hi⟩ => by
    by_cases hx : ∃ j, j < n ∧ p j = true
    · obtain ⟨a, h1, h2⟩ := least_nat p n hx
      exact ⟨a, by omega, h2⟩
    · have : i = n := by
        by_cases e : i = n
        · exact e
        · exact (hx ⟨i, by omega, hi⟩).elim
      subst this
      exact ⟨i, h, hi, fun b hb => by
        cases hp : p b with
        | false => rfl
        | true => exact (hx ⟨b, hb, hp⟩).elim⟩
theorem PairIs.ex (bad : Nat → Nat → Bool) (N : Nat) : ∃ ab : Int × Int, PairIs bad N ab.1 ab.2 := by
  by_cases h : ∃ i, i < N ∧ ((List.range N).any fun k => decide (i < k) && bad i k) = true
  · obtain ⟨i, h1, h2, h3⟩ := least_nat (fun i => (List.range N).any fun k => decide (i < k) && bad i k) N h
    rw [List.any_eq_true] at h2
    obtain ⟨k, hk, hb⟩ := h2
    obtain ⟨k, h4, h5, h6⟩ := least_nat (fun k => decide (i < k) && bad i k) N ⟨k, List.mem_range.1 hk, hb⟩
    rw [Bool.and_eq_true, decide_eq_true_eq] at h5
    refine ⟨((i : Int), (k : Int)), .inr ⟨i, k, rfl, rfl, h5.1, h4, h5.2, fun i' k' g1 g2 g3 => ?_, fun k' g1 g2 => ?_⟩⟩
    · have := h3 i' g1
      simp only [List.any_eq_false] at this
      have := this k' (List.mem_range.2 g3)
      simpa [g2] using this
    · have := h6 k' g2
      simpa [g1] using this
  · refine ⟨(-1, -1), .inl ⟨rfl, rfl, fun i k h1 h2 => ?_⟩⟩
    cases hb : bad i k with
    | false => rfl
    | true => exact (h ⟨i, by omega, List.any_eq_true.2 ⟨k, List.mem_range.2 h2, by rw [hb]; simp [h1]⟩⟩).elim
noncomputable def pairI (bad : Nat → Nat → Bool) (N : Nat) : Int × Int := Classical.choose (PairIs.ex bad N)
theorem pairI_is (bad : Nat → Nat → Bool) (N : Nat) : PairIs bad N (pairI bad N).1 (pairI bad N).2 := Classical.choose_spec (PairIs.ex bad N)
theorem pairI_eq {bad : Nat → Nat → Bool} {N : Nat} {a b : Int} (h : PairIs bad N a b) : pairI bad N = (a, b) := by
  obtain ⟨h1, h2⟩ := (pairI_is bad N).one h
  rw [← h1, ← h2]
theorem bit_zero (X k : Nat) : (bits BinOp.and IntKind.i64 ((X : Int) / 2 ^ k) 1 == 0) = !bitB X k := by
  rw [← bit_test, i64_and_1]
  have h := Int.emod_two_eq ((X : Int) / 2 ^ k)
  rcases h with h | h <;> rw [h] <;> rfl
theorem agrTo_nat6 (m : Int) (r s : List Int) (n : Nat) (h : n ≤ 5) : ∃ Y : Nat, agrTo m r s n = (Y : Int) ∧ Y < 32 := by
  obtain ⟨h0, h1⟩ := agrTo_bd m r s n
  refine ⟨(agrTo m r s n).toNat, by omega, ?_⟩
  rcases (show n = 0 ∨ n = 1 ∨ n = 2 ∨ n = 3 ∨ n = 4 ∨ n = 5 by omega) with rfl | rfl | rfl | rfl | rfl | rfl <;> simp at h1 <;> omega
/-- A table and a dependency, each in a block of the call's own. -/
theorem boxTD {w wr : World} {a b l r : Value} {T T' : TypeId} (hb : Below ((w.alloc (.cells #[a, b] T)).alloc (.cells #[l, r] T')).heap.size ((w.alloc (.cells #[a, b] T)).alloc (.cells #[l, r] T')) wr) :
    (wr.cell? ⟨w.heap.size, 0, none⟩ = some a ∧ wr.cell? ⟨w.heap.size, 1, none⟩ = some b) ∧ wr.cell? ⟨w.heap.size + 1, 0, none⟩ = some l ∧ wr.cell? ⟨w.heap.size + 1, 1, none⟩ = some r := by
  have hb1 := (Below.refl (w.alloc (.cells #[a, b] T)).heap.size (w.alloc (.cells #[a, b] T))).alloc (Nat.le_refl _) (.cells #[l, r] T')
  have hbb := hb1.trans (hb.mono hb1.size)
  obtain ⟨h0, h1⟩ := zero2 (w.alloc (.cells #[a, b] T)) T' l r
  have hs : (w.alloc (.cells #[a, b] T)).heap.size = w.heap.size + 1 := by simp
  rw [hs] at h0 h1
  obtain ⟨g0, g1⟩ := zero2 w T a b
  exact ⟨⟨(hbb.cell (p := ⟨w.heap.size, 0, none⟩) (by simp)).trans g0, (hbb.cell (p := ⟨w.heap.size, 1, none⟩) (by simp)).trans g1⟩, (hb.cell (p := ⟨w.heap.size + 1, 0, none⟩) (by simp)).trans h0, (hb.cell (p := ⟨w.heap.size + 1, 1, none⟩) (by simp)).trans h1⟩
end Go.Proofs.YtnbjcelfdppkcaaGreat
namespace Go.Proofs.YtnbjcelfdppkcaaGreat
open Go.RowKit

/-- The first pair that violates the dependency. -/
noncomputable def pairD (c : Int) (ll : List (List Int)) (m l r : Int) : Int × Int := pairI (badB c.toNat ll m l.toNat r.toNat) ll.length
def okD (c : Int) (ll : List (List Int)) (m l r : Int) : Bool := fineT c ll m && depB c l r
noncomputable def holdsD (c : Int) (ll : List (List Int)) (m l r : Int) : Bool := okD c ll m l r && decide ((pairD c ll m l r).1 < 0)
noncomputable def witI (c : Int) (ll : List (List Int)) (m l r : Int) : Int := if okD c ll m l r = true then (pairD c ll m l r).1 else -1
noncomputable def witK (c : Int) (ll : List (List Int)) (m l r : Int) : Int := if okD c ll m l r = true then (pairD c ll m l r).2 else -1
noncomputable def witB (c : Int) (ll : List (List Int)) (m l r : Int) : Bool := okD c ll m l r && decide (0 ≤ (pairD c ll m l r).1)
theorem depB_nat {c l r : Int} (h : depB c l r = true) : ∃ L R : Nat, l = (L : Int) ∧ r = (R : Int) ∧ R < 5 := by
  obtain ⟨⟨h1, h5⟩, ha, h0, hr⟩ := depB_iff.1 h
  refine ⟨l.toNat, r.toNat, ?_, by omega, by omega⟩
  unfold isA at ha
  simp at ha
  omega
theorem fineT_isT {c : Int} {ll : List (List Int)} {m : Int} (h : fineT c ll m = true) : isT c ll = true := by unfold fineT at h; simp at h; exact h.1

section
set_option maxRecDepth 20000
set_option maxHeartbeats 1600000
end
end Go.Proofs.YtnbjcelfdppkcaaGreat
namespace Go.Proofs.YtnbjcelfdppkcaaGreat

theorem or_fin : ∀ (L : Fin 32) (R : Fin 5) (j : Fin 5), bitB (L.val ||| 2 ^ R.val) j.val = (bitB L.val j.val || decide (j.val = R.val)) := by decide +kernel
theorem or_lt : ∀ (c : Fin 6) (L : Fin 32) (R : Fin 5), L.val < 2 ^ c.val → R.val < c.val → (L.val ||| 2 ^ R.val) < 2 ^ c.val := by decide +kernel
theorem pow_bit : ∀ (R : Fin 5) (j : Fin 5), bitB (2 ^ R.val) j.val = decide (j.val = R.val) := by decide +kernel
theorem lt32 {c S : Nat} (hc : c ≤ 5) (hS : S < 2 ^ c) : S < 32 := by
  have : 2 ^ c ≤ 32 := by
    rcases (show c = 0 ∨ c = 1 ∨ c = 2 ∨ c = 3 ∨ c = 4 ∨ c = 5 by omega) with rfl | rfl | rfl | rfl | rfl | rfl <;> decide
  omega
section
variable {c : Nat} {ll : List (List Int)} {m : Int} {L R : Nat}
/-- Two rows agree in both sides if they agree in each. -/
theorem agB_or (hc : c ≤ 5) (hL : L < 2 ^ c) (hR : R < c) (i k : Nat) : agB c ll m ((L ||| 2 ^ R : Nat) : Int) i k = true ↔ agB c ll m (L : Int) i k = true ∧ agB c ll m ((2 ^ R : Nat) : Int) i k = true := by
  have h32 := lt32 hc hL
  have hO := or_lt ⟨c, by omega⟩ ⟨L, h32⟩ ⟨R, by omega⟩ hL hR
  have hP : 2 ^ R < 2 ^ c := Nat.pow_lt_pow_right (by omega) hR
  rw [agB_iff c ll m _ i k hc hO, agB_iff c ll m _ i k hc hL, agB_iff c ll m _ i k hc hP]
  constructor
  · intro h
    refine ⟨fun j hj hb => h j hj ?_, fun j hj hb => h j hj ?_⟩
    · have := or_fin ⟨L, h32⟩ ⟨R, by omega⟩ ⟨j, by omega⟩
      simp only at this
      rw [this, hb]; rfl
    · have h1 := or_fin ⟨L, h32⟩ ⟨R, by omega⟩ ⟨j, by omega⟩
      have h2 := pow_bit ⟨R, by omega⟩ ⟨j, by omega⟩
      simp only at h1 h2
      rw [h2] at hb
      rw [h1, hb]; simp
  · rintro ⟨h1, h2⟩ j hj hb
    have g1 := or_fin ⟨L, h32⟩ ⟨R, by omega⟩ ⟨j, by omega⟩
    have g2 := pow_bit ⟨R, by omega⟩ ⟨j, by omega⟩
    simp only at g1 g2
    rw [g1, Bool.or_eq_true] at hb
    rcases hb with hb | hb
    · exact h1 j hj hb
    · exact h2 j hj (by rw [g2]; exact hb)
/-- Equal on the right: agreeing in the set of that one column. -/
theorem agB_one (hc : c ≤ 5) (hR : R < c) (i k : Nat) : agB c ll m ((2 ^ R : Nat) : Int) i k = bitB (agrTo m (ll.getD i []) (ll.getD k []) c).toNat R := by
  have hP : 2 ^ R < 2 ^ c := Nat.pow_lt_pow_right (by omega) hR
  obtain ⟨X, h1, -, h3, h4⟩ := agrTo_bit m (ll.getD i []) (ll.getD k []) c hc
  rw [Bool.eq_iff_iff, agB_iff c ll m _ i k hc hP, h1, show ((X : Int)).toNat = X by omega, h4 R (by omega), decide_eq_true hR, Bool.true_and]
  constructor
  · intro h
    refine h R hR ?_
    have := pow_bit ⟨R, by omega⟩ ⟨R, by omega⟩
    simp only at this
    rw [this]; simp
  · intro h j hj hb
    have := pow_bit ⟨R, by omega⟩ ⟨j, by omega⟩
    simp only at this
    rw [this, decide_eq_true_eq] at hb
    subst hb
    exact h
theorem badB_iff (hc : c ≤ 5) (hR : R < c) (i k : Nat) : badB c ll m L R i k = true ↔ agB c ll m (L : Int) i k = true ∧ ¬ agB c ll m ((2 ^ R : Nat) : Int) i k = true := by
  unfold badB
  rw [Bool.and_eq_true, Bool.not_eq_true', agB_one hc hR]
  constructor
  · rintro ⟨h1, h2⟩; exact ⟨h1, by rw [h2]; simp⟩
  · rintro ⟨h1, h2⟩; exact ⟨h1, by simpa using h2⟩
/-- It holds if no two rows agree on the left alone. -/
def HoldsAll (c : Nat) (ll : List (List Int)) (m : Int) (L R : Nat) : Prop := ∀ i k, i < k → k < ll.length → agB c ll m (L : Int) i k = true → agB c ll m ((2 ^ R : Nat) : Int) i k = true
theorem pairI_holds (hc : c ≤ 5) (hR : R < c) : (pairI (badB c ll m L R) ll.length).1 < 0 ↔ HoldsAll c ll m L R := by
  rcases pairI_is (badB c ll m L R) ll.length with ⟨h1, -, h⟩ | ⟨i, k, h1, -, h2, h3, h4, -⟩
  · rw [h1]
    refine ⟨fun _ i k hik hk hL => ?_, fun _ => by omega⟩
    have hb := h i k hik hk
    by_cases hr : agB c ll m ((2 ^ R : Nat) : Int) i k = true
    · exact hr
    · rw [(badB_iff hc hR i k).2 ⟨hL, hr⟩] at hb; cases hb
  · rw [h1]
    refine ⟨fun h => by omega, fun h => ?_⟩
    obtain ⟨g1, g2⟩ := (badB_iff hc hR i k).1 h4
    exact (g2 (h i k h2 h3 g1)).elim
/-- The product of the sides' partitions is the partition of both. -/
theorem parL_product (hc : c ≤ 5) (hL : L < 2 ^ c) (hR : R < c) (h40 : ll.length ≤ 40) : proS (parL c ll m L) (parL c ll m (2 ^ R)) (ll.length : Int) = parL c ll m (L ||| 2 ^ R) := by
  have hO : (L ||| 2 ^ R) < 2 ^ c := or_lt ⟨c, by omega⟩ ⟨L, lt32 hc hL⟩ ⟨R, by omega⟩ hL hR
  have hP : 2 ^ R < 2 ^ c := Nat.pow_lt_pow_right (by omega) hR
  have pL := parL_part (m := m) hc hL h40
  have pR := parL_part (m := m) hc hP h40
  rw [proS_eq _ _ _ pL pR, show ((ll.length : Int)).toNat = ll.length by omega]
  unfold prL
  rw [show parL c ll m (L ||| 2 ^ R) = ((List.range ll.length).filter fun a => repB c ll m ((L ||| 2 ^ R : Nat) : Int) a && decide (1 < (clsC c ll m ((L ||| 2 ^ R : Nat) : Int) a).length)).map (clsC c ll m ((L ||| 2 ^ R : Nat) : Int)) from rfl]
  -- where a row has a partner in both, the product's class is its class
  have hpart : ∀ a, a < ll.length → (∃ y, y < ll.length ∧ y ≠ a ∧ agB c ll m ((L ||| 2 ^ R : Nat) : Int) a y = true) →
      (0 ≤ clsI (parL c ll m L) (a : Int) ∧ 0 ≤ clsI (parL c ll m (2 ^ R)) (a : Int)) ∧ ∀ x : Nat, x < ll.length → ((clsI (parL c ll m L) (x : Int) = clsI (parL c ll m L) (a : Int) ∧ clsI (parL c ll m (2 ^ R)) (x : Int) = clsI (parL c ll m (2 ^ R)) (a : Int)) ↔ agB c ll m ((L ||| 2 ^ R : Nat) : Int) a x = true) := by
    rintro a ha ⟨y, hy, hne, hay⟩
    obtain ⟨y1, y2⟩ := (agB_or hc hL hR a y).1 hay
    have i1 := (clsI_in hc hL h40 ha).2 ⟨y, hy, hne, y1⟩
    have i2 := (clsI_in hc hP h40 ha).2 ⟨y, hy, hne, y2⟩
    refine ⟨⟨i1, i2⟩, fun x hx => ?_⟩
    by_cases hxa : x = a
    · subst hxa
      exact ⟨fun _ => agB_trans hc hO hay (agB_symm hc hO hay), fun _ => ⟨rfl, rfl⟩⟩
    · rw [agB_or hc hL hR, ← clsI_same hc hL h40 ha hx (fun e => hxa e.symm), ← clsI_same hc hP h40 ha hx (fun e => hxa e.symm)]
      constructor
      · rintro ⟨h1, h2⟩; exact ⟨⟨h1.symm, i1⟩, h2.symm, i2⟩
      · rintro ⟨⟨h1, -⟩, h2, -⟩; exact ⟨h1.symm, h2.symm⟩
  have hcls : ∀ a, a < ll.length → repB c ll m ((L ||| 2 ^ R : Nat) : Int) a = true → (∃ y, y < ll.length ∧ y ≠ a ∧ agB c ll m ((L ||| 2 ^ R : Nat) : Int) a y = true) → prC (parL c ll m L) (parL c ll m (2 ^ R)) (clsI (parL c ll m L) (a : Int)).toNat (clsI (parL c ll m (2 ^ R)) (a : Int)).toNat = clsC c ll m ((L ||| 2 ^ R : Nat) : Int) a := by
    intro a ha hrep hex
    obtain ⟨⟨i1, i2⟩, hs⟩ := hpart a ha hex
    obtain ⟨y, hy, hne, hay⟩ := hex
    have hya : a < y := by
      by_cases hlt : y < a
      · unfold repB at hrep
        rw [Bool.not_eq_true', List.any_eq_false] at hrep
        exact (hrep y (List.mem_range.2 hlt) (agB_symm hc hO hay)).elim
      · omega
    have hm : a ∈ reps c ll m (L ||| 2 ^ R) := reps_mem.2 ⟨ha, hrep, (clsC_two ha).2 ⟨y, hya, hy, hay⟩⟩
    have hge := clsI_ge (parL c ll m L) (a : Int)
    refine ascH_unique (r := fun x y => x < y) (fun x => by omega) (fun x y z => by omega) _ _ ?_ (clsC_asc _ _) fun x => ?_
    · obtain ⟨-, hcl⟩ := partP_iff.mp pL
      have h4 := (hcl (clsI (parL c ll m L) (a : Int)).toNat (by omega)).2.2.2.1
      unfold prC
      refine List.Pairwise.filter _ ?_
      rw [List.pairwise_iff_getElem]
      intro i j hi hj hij
      have := asc_lt h4 (i := i) (j - i - 1) (by omega)
      rw [show i + (j - i - 1) + 1 = j by omega, ← get_getD _ _ hi, ← get_getD _ _ hj] at this
      exact this
    · rw [prC_mem pL pR i1 i2, rep_mem hc hO hm]
      constructor
      · rintro ⟨h1, h2⟩
        have hx : x ∈ (parL c ll m L).getD (clsI (parL c ll m L) x).toNat [] := (clsI_part pL (by omega)).2 (by omega)
        obtain ⟨e, hmm⟩ := parL_get (c := c) (ll := ll) (m := m) (S := L) (i := (clsI (parL c ll m L) x).toNat) (by omega)
        rw [e] at hx
        obtain ⟨k, k1, rfl, -⟩ := (rep_mem hc hL hmm).1 hx
        exact ⟨k, k1, rfl, (hs k k1).1 ⟨h1, h2⟩⟩
      · rintro ⟨k, k1, rfl, k3⟩
        exact (hs k k1).2 k3
  have hfil : ∀ a, a < ll.length → (rep2 (parL c ll m L) (parL c ll m (2 ^ R)) a && decide (1 < (prC (parL c ll m L) (parL c ll m (2 ^ R)) (clsI (parL c ll m L) (a : Int)).toNat (clsI (parL c ll m (2 ^ R)) (a : Int)).toNat).length)) = (repB c ll m ((L ||| 2 ^ R : Nat) : Int) a && decide (1 < (clsC c ll m ((L ||| 2 ^ R : Nat) : Int) a).length)) := by
    intro a ha
    by_cases hex : ∃ y, y < ll.length ∧ y ≠ a ∧ agB c ll m ((L ||| 2 ^ R : Nat) : Int) a y = true
    · obtain ⟨⟨i1, i2⟩, hs⟩ := hpart a ha hex
      have hrr : rep2 (parL c ll m L) (parL c ll m (2 ^ R)) a = repB c ll m ((L ||| 2 ^ R : Nat) : Int) a := by
        unfold rep2 repB
        rw [decide_eq_true ⟨i1, i2⟩, Bool.true_and]
        congr 1
        rw [Bool.eq_iff_iff, List.any_eq_true, List.any_eq_true]
        constructor
        · rintro ⟨b, hb, h⟩
          exact ⟨b, hb, agB_symm hc hO ((hs b (by have := List.mem_range.1 hb; omega)).1 (of_decide_eq_true h))⟩
        · rintro ⟨b, hb, h⟩
          exact ⟨b, hb, decide_eq_true ((hs b (by have := List.mem_range.1 hb; omega)).2 (agB_symm hc hO h))⟩
      rw [hrr]
      cases hrep : repB c ll m ((L ||| 2 ^ R : Nat) : Int) a with
      | false => rfl
      | true => rw [hcls a ha hrep hex]
    · have h2 : ¬ 1 < (clsC c ll m ((L ||| 2 ^ R : Nat) : Int) a).length := fun h => by
        obtain ⟨k, k1, k2, k3⟩ := (clsC_two ha).1 h
        exact hex ⟨k, k2, by omega, k3⟩
      rw [decide_eq_false h2, Bool.and_false]
      cases hr2 : rep2 (parL c ll m L) (parL c ll m (2 ^ R)) a with
      | false => rfl
      | true =>
        rw [Bool.true_and, decide_eq_false_iff_not]
        intro hlen
        have hr2' := hr2
        unfold rep2 at hr2'
        rw [Bool.and_eq_true, decide_eq_true_eq] at hr2'
        obtain ⟨⟨i1, i2⟩, -⟩ := hr2'
        have hmemx : ∀ x, x ∈ prC (parL c ll m L) (parL c ll m (2 ^ R)) (clsI (parL c ll m L) (a : Int)).toNat (clsI (parL c ll m (2 ^ R)) (a : Int)).toNat → x = (a : Int) := by
          intro x hx
          obtain ⟨h1, h3⟩ := (prC_mem pL pR i1 i2 x).1 hx
          have hge := clsI_ge (parL c ll m L) x
          have hxm : x ∈ (parL c ll m L).getD (clsI (parL c ll m L) x).toNat [] := (clsI_part pL (by omega)).2 (by omega)
          obtain ⟨e, hmm⟩ := parL_get (c := c) (ll := ll) (m := m) (S := L) (i := (clsI (parL c ll m L) x).toNat) (by omega)
          rw [e] at hxm
          obtain ⟨k, k1, rfl, -⟩ := (rep_mem hc hL hmm).1 hxm
          by_cases hka : k = a
          · rw [hka]
          · exact (hex ⟨k, k1, hka, (agB_or hc hL hR a k).2 ⟨(clsI_same hc hL h40 ha k1 (fun e => hka e.symm)).1 ⟨h1.symm, i1⟩, (clsI_same hc hP h40 ha k1 (fun e => hka e.symm)).1 ⟨h3.symm, i2⟩⟩⟩).elim
        have hasc : (prC (parL c ll m L) (parL c ll m (2 ^ R)) (clsI (parL c ll m L) (a : Int)).toNat (clsI (parL c ll m (2 ^ R)) (a : Int)).toNat).Pairwise (fun x y => x < y) := by
          obtain ⟨-, hcl⟩ := partP_iff.mp pL
          have hge := clsI_ge (parL c ll m L) (a : Int)
          have h4 := (hcl (clsI (parL c ll m L) (a : Int)).toNat (by omega)).2.2.2.1
          unfold prC
          refine List.Pairwise.filter _ ?_
          rw [List.pairwise_iff_getElem]
          intro i j hi hj hij
          have := asc_lt h4 (i := i) (j - i - 1) (by omega)
          rw [show i + (j - i - 1) + 1 = j by omega, ← get_getD _ _ hi, ← get_getD _ _ hj] at this
          exact this
        match hq : prC (parL c ll m L) (parL c ll m (2 ^ R)) (clsI (parL c ll m L) (a : Int)).toNat (clsI (parL c ll m (2 ^ R)) (a : Int)).toNat, hlen with
        | x :: y :: t, _ =>
          rw [hq] at hmemx hasc
          have hx := hmemx x (by simp)
          have hy := hmemx y (by simp)
          rw [List.pairwise_cons] at hasc
          have := hasc.1 y (by simp)
          omega
  rw [List.filter_congr (fun a ha => hfil a (List.mem_range.1 ha))]
  refine List.map_congr_left fun a ha => ?_
  have hm : a ∈ reps c ll m (L ||| 2 ^ R) := ha
  obtain ⟨h1, h2, h3⟩ := reps_mem.1 hm
  obtain ⟨k, k1, k2, k3⟩ := (clsC_two h1).1 h3
  exact hcls a h1 h2 ⟨k, k2, by omega, k3⟩
end
end Go.Proofs.YtnbjcelfdppkcaaGreat
namespace Go.Proofs.YtnbjcelfdppkcaaGreat
open Go.RowKit

/-- a is part of b. -/
def subN (a b : Nat) : Bool := (a &&& b) == a
theorem subN_bit (a b : Fin 32) : subN a.val b.val = true ↔ ∀ j : Fin 5, bitB a.val j.val = true → bitB b.val j.val = true := by
  have h : ∀ a b : Fin 32, (subN a.val b.val = true ↔ ∀ j : Fin 5, bitB a.val j.val = true → bitB b.val j.val = true) := by decide +kernel
  exact h a b
theorem subN_refl (a : Nat) : subN a a = true := by unfold subN; simp
theorem subN_trans {a b c : Nat} (h1 : subN a b = true) (h2 : subN b c = true) : subN a c = true := by
  unfold subN at *
  rw [beq_iff_eq] at *
  rw [← h1, Nat.and_assoc, h2]
/-- Without one of its columns. -/
theorem drop_fin : ∀ (a : Fin 32) (j : Fin 5), bitB a.val j.val = true → 2 ^ j.val ≤ a.val ∧ subN (a.val - 2 ^ j.val) a.val = true ∧ bitB (a.val - 2 ^ j.val) j.val = false := by decide +kernel
/-- With one more. -/
theorem more_fin : ∀ (a : Fin 32) (j : Fin 5), bitB a.val j.val = false → a.val + 2 ^ j.val < 32 ∧ subN a.val (a.val + 2 ^ j.val) = true ∧ bitB (a.val + 2 ^ j.val) j.val = true ∧ ∀ i : Fin 5, i ≠ j → bitB (a.val + 2 ^ j.val) i.val = bitB a.val i.val := by decide +kernel
theorem below_fin : ∀ (a b : Fin 32), subN a.val b.val = true → a ≠ b → ∃ j : Fin 5, bitB b.val j.val = true ∧ bitB a.val j.val = false ∧ subN a.val (b.val - 2 ^ j.val) = true ∧ subN (a.val + 2 ^ j.val) b.val = true := by decide +kernel
theorem bit_lt : ∀ (C : Fin 6) (a : Fin 32) (j : Fin 5), a.val < 2 ^ C.val → bitB a.val j.val = true → j.val < C.val := by decide +kernel
theorem more_lt : ∀ (C : Fin 6) (a : Fin 32) (j : Fin 5), a.val < 2 ^ C.val → j.val < C.val → bitB a.val j.val = false → a.val + 2 ^ j.val < 2 ^ C.val := by decide +kernel

/-- Closed upwards among the sets below n. -/
def UpN (n : Nat) (f : Nat → Prop) : Prop := ∀ a b, a < n → b < n → subN a b = true → f a → f b
/-- It is in f, and without any of its columns it is not. -/
def LeastN (f : Nat → Prop) (y : Nat) : Prop := f y ∧ ∀ j, j < 5 → bitB y j = true → ¬ f (y - 2 ^ j)
theorem least_ex {f : Nat → Prop} : ∀ (x : Nat), x < 32 → f x → ∃ y, y < 32 ∧ y ≤ x ∧ subN y x = true ∧ LeastN f y := by
  intro x
  induction x using Nat.strongRecOn with
  | ind x ih =>
    intro hx hf
    by_cases h : ∃ j, j < 5 ∧ bitB x j = true ∧ f (x - 2 ^ j)
    · obtain ⟨j, hj, hb, hfj⟩ := h
      obtain ⟨d1, d2, -⟩ := drop_fin ⟨x, hx⟩ ⟨j, hj⟩ hb
      have hp : 0 < 2 ^ j := Nat.pow_pos (by decide)
      simp only at d1 d2
      obtain ⟨y, y1, y2, y3, y4⟩ := ih (x - 2 ^ j) (by omega) (by omega) hfj
      exact ⟨y, y1, by omega, subN_trans y3 d2, y4⟩
    · exact ⟨x, hx, Nat.le_refl _, subN_refl _, hf, fun j hj hb hfj => h ⟨j, hj, hb, hfj⟩⟩
/-- Among closed families: the least ones have no smaller one at all. -/
theorem least_iff {f : Nat → Prop} {n : Nat} (hn : n ≤ 32) (hu : UpN n f) {y : Nat} (hy : y < n) : LeastN f y ↔ f y ∧ ∀ z, z < n → f z → subN z y = true → z = y := by
  constructor
  · rintro ⟨h1, h2⟩
    refine ⟨h1, fun z hz hfz hs => Classical.byContradiction fun hne => ?_⟩
    obtain ⟨j, j1, -, j3, -⟩ := below_fin ⟨z, by omega⟩ ⟨y, by omega⟩ hs (fun e => hne (Fin.mk.inj e))
    exact h2 j.val j.isLt j1 (hu z _ hz (Nat.lt_of_le_of_lt (Nat.sub_le _ _) hy) j3 hfz)
  · rintro ⟨h1, h2⟩
    refine ⟨h1, fun j hj hb hf => ?_⟩
    obtain ⟨d1, d2, d3⟩ := drop_fin ⟨y, by omega⟩ ⟨j, hj⟩ hb
    have hp : 0 < 2 ^ j := Nat.pow_pos (by decide)
    simp only at d1 d2 d3
    have := h2 (y - 2 ^ j) (by omega) hf d2
    omega
/-- Outside of f, without column R, and with any other column more it is inside. -/
def MostN (C R : Nat) (f : Nat → Prop) (y : Nat) : Prop := ¬ f y ∧ bitB y R = false ∧ ∀ j, j < C → j ≠ R → bitB y j = false → f (y + 2 ^ j)
theorem most_ex {C R : Nat} (hC : C ≤ 5) {f : Nat → Prop} (hR : R < C) : ∀ (k x : Nat), 32 - x ≤ k → x < 2 ^ C → bitB x R = false → ¬ f x → ∃ y, y < 2 ^ C ∧ subN x y = true ∧ MostN C R f y := by
  intro k
  have h32 : 2 ^ C ≤ 32 := Nat.le_trans (Nat.pow_le_pow_right (by omega) hC) (by decide)
  induction k with
  | zero => intro x hk hx; omega
  | succ k ih =>
    intro x hk hx hr hf
    by_cases h : ∃ j, j < C ∧ j ≠ R ∧ bitB x j = false ∧ ¬ f (x + 2 ^ j)
    · obtain ⟨j, hj, hne, hb, hfj⟩ := h
      obtain ⟨d1, d2, d3, d4⟩ := more_fin ⟨x, by omega⟩ ⟨j, by omega⟩ hb
      have hl := more_lt ⟨C, by omega⟩ ⟨x, by omega⟩ ⟨j, by omega⟩ hx hj hb
      have hp : 0 < 2 ^ j := Nat.pow_pos (by decide)
      have d5 := d4 ⟨R, by omega⟩ (fun e => hne (Fin.mk.inj e).symm)
      simp only at d1 d2 d3 d5 hl
      obtain ⟨y, y1, y2, y3⟩ := ih (x + 2 ^ j) (by omega) hl (by rw [d5]; exact hr) hfj
      exact ⟨y, y1, subN_trans d2 y2, y3⟩
    · exact ⟨x, hx, subN_refl _, hf, hr, fun j hj hne hb => Classical.byContradiction fun hfj => h ⟨j, hj, hne, hb, hfj⟩⟩
theorem most_iff {C R : Nat} (hC : C ≤ 5) {f : Nat → Prop} (hu : UpN (2 ^ C) f) (hR : R < C) {y : Nat} (hy : y < 2 ^ C) : MostN C R f y ↔ ¬ f y ∧ bitB y R = false ∧ ∀ z, z < 2 ^ C → ¬ f z → bitB z R = false → subN y z = true → z = y := by
  have h32 : 2 ^ C ≤ 32 := Nat.le_trans (Nat.pow_le_pow_right (by omega) hC) (by decide)
  constructor
  · rintro ⟨h1, h2, h3⟩
    refine ⟨h1, h2, fun z hz hfz hr hs => Classical.byContradiction fun hne => ?_⟩
    obtain ⟨j, j1, j2, -, j4⟩ := below_fin ⟨y, by omega⟩ ⟨z, by omega⟩ hs (fun e => hne (Fin.mk.inj e).symm)
    have hjC := bit_lt ⟨C, by omega⟩ ⟨z, by omega⟩ j hz j1
    have hl := more_lt ⟨C, by omega⟩ ⟨y, by omega⟩ j hy hjC j2
    simp only at hjC hl j1 j2 j4
    have hjR : j.val ≠ R := fun e => by rw [e, hr] at j1; cases j1
    exact hfz (hu _ z hl hz j4 (h3 j.val hjC hjR j2))
  · rintro ⟨h1, h2, h3⟩
    refine ⟨h1, h2, fun j hj hne hb => Classical.byContradiction fun hf => ?_⟩
    obtain ⟨d1, d2, d3, d4⟩ := more_fin ⟨y, by omega⟩ ⟨j, by omega⟩ hb
    have hl := more_lt ⟨C, by omega⟩ ⟨y, by omega⟩ ⟨j, by omega⟩ hy hj hb
    have hp : 0 < 2 ^ j := Nat.pow_pos (by decide)
    have d5 := d4 ⟨R, by omega⟩ (fun e => hne (Fin.mk.inj e).symm)
    simp only at d2 d5 hl
    have := h3 _ hl hf (by rw [d5]; exact h2) d2
    omega
/-- A dependency that holds goes on holding with a greater left side. -/
theorem holds_up {c : Nat} {ll : List (List Int)} {m : Int} {R : Nat} (hc : c ≤ 5) : UpN (2 ^ c) (fun L => HoldsAll c ll m L R) := by
  intro a b ha hb hs h i k hik hk hag
  refine h i k hik hk ?_
  rw [agB_iff c ll m _ _ _ hc hb] at hag
  rw [agB_iff c ll m _ _ _ hc ha]
  have h32 : 2 ^ c ≤ 32 := Nat.le_trans (Nat.pow_le_pow_right (by omega) hc) (by decide)
  intro j hj hbj
  exact hag j hj ((subN_bit ⟨a, by omega⟩ ⟨b, by omega⟩).1 hs ⟨j, by omega⟩ hbj)
end Go.Proofs.YtnbjcelfdppkcaaGreat
namespace Go.Proofs.YtnbjcelfdppkcaaGreat

section
variable {c : Nat} {ll : List (List Int)} {m : Int} {S T L R : Nat}
/-- What agrees in S agrees in T. -/
def Fin2 (c : Nat) (ll : List (List Int)) (m : Int) (S T : Nat) : Prop := ∀ i k, i < k → k < ll.length → agB c ll m (S : Int) i k = true → agB c ll m (T : Int) i k = true
theorem Fin2.ne (hc : c ≤ 5) (hS : S < 2 ^ c) (hT : T < 2 ^ c) (h : Fin2 c ll m S T) {i k : Nat} (hi : i < ll.length) (hk : k < ll.length) (hne : i ≠ k) (ha : agB c ll m (S : Int) i k = true) : agB c ll m (T : Int) i k = true := by
  rcases Nat.lt_trichotomy i k with hlt | he | hlt
  · exact h i k hlt hk ha
  · exact (hne he).elim
  · exact agB_symm hc hT (h k i hlt hi (agB_symm hc hS ha))
theorem clsC_first {a : Nat} (ha : a < ll.length) : (clsC c ll m (S : Int) a).getD 0 0 = (a : Int) := by
  have hz := (clsC_mem c ll m (S : Int) a ha _).2 (.inl rfl)
  cases hq : clsC c ll m (S : Int) a with
  | nil => rw [hq] at hz; cases hz
  | cons x t =>
    have hx := (clsC_mem c ll m (S : Int) a ha x).1 (by rw [hq]; simp)
    have hp := clsC_asc (c := c) (ll := ll) (m := m) a (S : Int)
    rw [hq, List.pairwise_cons] at hp
    rw [hq] at hz
    rcases List.mem_cons.1 hz with hz | hz
    · rw [hz]; rfl
    · have := hp.1 _ hz
      rcases hx with hx | ⟨k, k1, -, -, hx⟩ <;> omega
theorem parL_finer (hc : c ≤ 5) (hS : S < 2 ^ c) (hT : T < 2 ^ c) (h40 : ll.length ≤ 40) : finB (parL c ll m S) (parL c ll m T) = true ↔ Fin2 c ll m S T := by
  unfold finB
  rw [List.all_eq_true]
  constructor
  · intro h i k hik hk ha
    obtain ⟨h1, h0⟩ := (clsI_same hc hS h40 (by omega) hk (by omega)).2 ha
    have hge := clsI_ge (parL c ll m S) (i : Int)
    have hpp := parL_part (m := m) hc hS h40
    have hi := (clsI_part hpp (x := (i : Int)) (a := (clsI (parL c ll m S) (i : Int)).toNat) (by omega)).2 (by omega)
    have hk' := (clsI_part hpp (x := (k : Int)) (a := (clsI (parL c ll m S) (i : Int)).toNat) (by omega)).2 (by omega)
    have hr := h ((parL c ll m S).getD (clsI (parL c ll m S) (i : Int)).toNat []) (by rw [List.getD_eq_getElem?_getD, List.getElem?_eq_getElem (by omega)]; exact List.getElem_mem _)
    unfold finR at hr
    rw [Bool.and_eq_true, List.all_eq_true] at hr
    have g1 := of_decide_eq_true (hr.2 _ hi)
    have g2 := of_decide_eq_true (hr.2 _ hk')
    exact (clsI_same hc hT h40 (by omega) hk (by omega)).1 ⟨g1.2.trans g2.2.symm, g1.1⟩
  · intro h r hr
    obtain ⟨j, hj, rfl⟩ := List.mem_iff_getElem.1 hr
    obtain ⟨e, hm⟩ := parL_get hj
    rw [List.getD_eq_getElem?_getD, List.getElem?_eq_getElem hj] at e
    simp only [Option.getD_some] at e
    rw [e]
    obtain ⟨h1, h2, h3⟩ := reps_mem.1 hm
    obtain ⟨k, k1, k2, k3⟩ := (clsC_two h1).1 h3
    have hT1 := h _ k k1 k2 k3
    have h0 := (clsI_in hc hT h40 h1).2 ⟨k, k2, by omega, hT1⟩
    unfold finR
    rw [Bool.and_eq_true, List.all_eq_true, clsC_first h1]
    refine ⟨?_, fun x hx => ?_⟩
    · cases hq : parL c ll m T with
      | nil => rw [hq] at h0; simp [clsI] at h0
      | cons a t => rfl
    · obtain ⟨y, y1, rfl, y3⟩ := (rep_mem hc hS hm).1 hx
      refine decide_eq_true ?_
      by_cases hya : (reps c ll m S).getD j 0 = y
      · rw [← hya]; exact ⟨h0, rfl⟩
      · have := (clsI_same hc hT h40 h1 y1 hya).2 (h.ne hc hS hT h1 y1 hya y3)
        omega
/-! ### The error: the rows that have an equal one before them -/
theorem sum_map_add {α : Type} (l : List α) (f g : α → Nat) : (l.map fun x => f x + g x).sum = (l.map f).sum + (l.map g).sum := by
  induction l with
  | nil => rfl
  | cons x t ih => simp only [List.map_cons, List.sum_cons, ih]; omega
theorem sum_map_zero {α : Type} (l : List α) : (l.map fun _ => 0).sum = 0 := by
  induction l with
  | nil => rfl
  | cons x t ih => simp only [List.map_cons, List.sum_cons, ih]
theorem sum_swap {α β : Type} (l : List α) (k : List β) (f : α → β → Nat) : (l.map fun x => (k.map fun y => f x y).sum).sum = (k.map fun y => (l.map fun x => f x y).sum).sum := by
  induction l with
  | nil => simp only [List.map_nil, List.sum_nil, sum_map_zero]
  | cons x t ih => simp only [List.map_cons, List.sum_cons, ih, sum_map_add]
theorem sum_ind {α : Type} (l : List α) (p : α → Bool) : (l.map fun x => if p x = true then 1 else 0).sum = (l.filter p).length := by
  induction l with
  | nil => rfl
  | cons x t ih =>
    simp only [List.map_cons, List.sum_cons, ih]
    cases h : p x with
    | true => rw [if_pos rfl, List.filter_cons, if_pos h, List.length_cons]; omega
    | false => rw [if_neg (by simp), List.filter_cons, if_neg (by rw [h]; simp)]; omega
/-- The rows behind a that agree with it. -/
def later (c : Nat) (ll : List (List Int)) (m : Int) (S a : Nat) : List Nat := (List.range ll.length).filter fun k => decide (a < k) && agB c ll m (S : Int) a k
theorem clsC_len1 {a : Nat} (ha : a < ll.length) : (clsC c ll m (S : Int) a).length = 1 + (later c ll m S a).length := by
  have h : clsC c ll m (S : Int) a = (a : Int) :: (later c ll m S a).map fun (k : Nat) => (k : Int) := by
    refine ascH_unique (r := fun x y => x < y) (fun x => by omega) (fun x y z => by omega) _ _ (clsC_asc _ _) ?_ fun x => ?_
    · rw [List.pairwise_cons]
      refine ⟨fun x hx => ?_, ?_⟩
      · obtain ⟨k, hk, rfl⟩ := List.mem_map.1 hx
        unfold later at hk
        rw [List.mem_filter, Bool.and_eq_true, decide_eq_true_eq] at hk
        omega
      · rw [List.pairwise_map]
        unfold later
        exact (List.pairwise_lt_range.filter _).imp fun {x y} h => by omega
    · rw [clsC_mem c ll m _ a ha, List.mem_cons, List.mem_map]
      unfold later
      constructor
      · rintro (h | ⟨k, h1, h2, h3, h4⟩)
        · exact .inl h
        · exact .inr ⟨k, by rw [List.mem_filter, List.mem_range, Bool.and_eq_true, decide_eq_true_eq]; exact ⟨h2, h1, h3⟩, h4.symm⟩
      · rintro (h | ⟨k, hk, rfl⟩)
        · exact .inl h
        · rw [List.mem_filter, List.mem_range, Bool.and_eq_true, decide_eq_true_eq] at hk
          exact .inr ⟨k, hk.2.1, hk.1, hk.2.2, rfl⟩
  rw [h, List.length_cons, List.length_map]; omega
theorem errTo_sum (p : List (List Int)) : ∀ k, k ≤ p.length → errTo p k = ((((p.take k).map fun r => r.length - 1).sum : Nat) : Int)
  | 0, _ => rfl
  | k + 1, hk => by
    rw [take_succ_getD p [] k (by omega), List.map_append, List.sum_append]
    unfold errTo
    rw [errTo_sum p k (by omega)]
    simp only [List.map_cons, List.map_nil, List.sum_cons, List.sum_nil]
    omega
/-- The rows that have an equal one before them. -/
def nonreps (c : Nat) (ll : List (List Int)) (m : Int) (S : Nat) : List Nat := (List.range ll.length).filter fun k => !repB c ll m (S : Int) k
theorem filter_one (n : Nat) (p : Nat → Bool) (a : Nat) (ha : a < n) (h : ∀ k, k < n → (p k = true ↔ k = a)) : ((List.range n).filter p).length = 1 := by
  have : (List.range n).filter p = [a] := by
    refine ascH_unique (r := fun x y : Nat => x < y) (fun x => by omega) (fun x y z => by omega) _ _ (List.pairwise_lt_range.filter _) (by simp) fun x => ?_
    rw [List.mem_filter, List.mem_range, List.mem_singleton]
    constructor
    · rintro ⟨h1, h2⟩; exact (h x h1).1 h2
    · rintro rfl; exact ⟨ha, (h x ha).2 rfl⟩
  rw [this]; rfl
theorem parL_error (hc : c ≤ 5) (hS : S < 2 ^ c) : errTo (parL c ll m S) (parL c ll m S).length = (((nonreps c ll m S).length : Nat) : Int) := by
  rw [errTo_sum _ _ (Nat.le_refl _), List.take_length]
  congr 1
  -- each class counts the rows behind its first one
  have h1 : ((parL c ll m S).map fun r => r.length - 1).sum = ((reps c ll m S).map fun a => (later c ll m S a).length).sum := by
    rw [parL_map, List.map_map]
    congr 1
    refine List.map_congr_left fun a ha => ?_
    obtain ⟨g1, -, -⟩ := reps_mem.1 ha
    show (clsC c ll m (S : Int) a).length - 1 = _
    rw [clsC_len1 g1]; omega
  -- classes of one row count nothing
  have h2 : ∀ l : List Nat, (∀ a ∈ l, a < ll.length) → ((l.filter fun a => repB c ll m (S : Int) a && decide (1 < (clsC c ll m (S : Int) a).length)).map fun a => (later c ll m S a).length).sum = (l.map fun a => ((List.range ll.length).map fun k => if (repB c ll m (S : Int) a && (decide (a < k) && agB c ll m (S : Int) a k)) = true then 1 else 0).sum).sum := by
    intro l
    induction l with
    | nil => intro _; rfl
    | cons a t ih =>
      intro hl
      have ha := hl a (by simp)
      have iht := ih fun b hb => hl b (by simp [hb])
      rw [List.map_cons, List.sum_cons, ← iht, sum_ind, List.filter_cons]
      cases hr : repB c ll m (S : Int) a with
      | false =>
        rw [if_neg (by simp)]
        have : ((List.range ll.length).filter fun k => (false && (decide (a < k) && agB c ll m (S : Int) a k))) = [] := by simp
        rw [this]; simp
      | true =>
        have e : ((List.range ll.length).filter fun k => (true && (decide (a < k) && agB c ll m (S : Int) a k))) = later c ll m S a := by unfold later; simp
        rw [e, Bool.true_and]
        by_cases hlen : 1 < (clsC c ll m (S : Int) a).length
        · rw [if_pos (decide_eq_true hlen), List.map_cons, List.sum_cons]
        · rw [if_neg (by rw [decide_eq_true_eq]; exact hlen)]
          rw [clsC_len1 ha] at hlen
          have : (later c ll m S a).length = 0 := by omega
          rw [this]; omega
  rw [h1]
  unfold reps
  rw [h2 _ (fun a ha => List.mem_range.1 ha), sum_swap]
  unfold nonreps
  rw [← sum_ind]
  congr 1
  refine List.map_congr_left fun k hk => ?_
  have hkl := List.mem_range.1 hk
  rw [sum_ind]
  cases hr : repB c ll m (S : Int) k with
  | true =>
    rw [if_neg (by simp), List.length_eq_zero_iff, List.filter_eq_nil_iff]
    intro a ha h
    rw [Bool.and_eq_true, Bool.and_eq_true, decide_eq_true_eq] at h
    unfold repB at hr
    rw [Bool.not_eq_true', List.any_eq_false] at hr
    exact hr a (List.mem_range.2 h.2.1) h.2.2
  | false =>
    rw [if_pos (by simp)]
    unfold repB at hr
    rw [Bool.not_eq_false', List.any_eq_true] at hr
    obtain ⟨b, hb, hbk⟩ := hr
    obtain ⟨a, g1, g2, g3⟩ := rep_least hc hS k (b + 1) b (by omega) (List.mem_range.1 hb) hbk
    refine filter_one _ _ a (by omega) fun x hx => ?_
    rw [Bool.and_eq_true, Bool.and_eq_true, decide_eq_true_eq]
    constructor
    · rintro ⟨x1, x2, x3⟩
      have hxa := agB_trans hc hS x3 (agB_symm hc hS g3)
      rcases Nat.lt_trichotomy x a with hlt | he | hlt
      · unfold repB at g2
        rw [Bool.not_eq_true', List.any_eq_false] at g2
        exact (g2 x (List.mem_range.2 hlt) hxa).elim
      · exact he
      · unfold repB at x1
        rw [Bool.not_eq_true', List.any_eq_false] at x1
        exact (x1 a (List.mem_range.2 hlt) (agB_symm hc hS hxa)).elim
    · rintro rfl; exact ⟨g2, g1, g3⟩
theorem filter_same {n : Nat} {p q : Nat → Bool} (h : ∀ k, k < n → q k = true → p k = true) (hl : ((List.range n).filter p).length = ((List.range n).filter q).length) : ∀ k, k < n → p k = true → q k = true := by
  have hs : ((List.range n).filter q).Sublist ((List.range n).filter p) := by
    have e : (List.range n).filter q = ((List.range n).filter p).filter q := by
      rw [List.filter_filter]
      refine List.filter_congr fun k hk => ?_
      have := h k (List.mem_range.1 hk)
      cases hq : q k with
      | false => rfl
      | true => rw [this hq]; rfl
    rw [e]; exact List.filter_sublist
  have he := hs.eq_of_length hl.symm
  intro k hk hp
  have : k ∈ (List.range n).filter q := by rw [he, List.mem_filter, List.mem_range]; exact ⟨hk, hp⟩
  exact (List.mem_filter.1 this).2
/-- A dependency holds just if the error of its left side is that of both sides. -/
theorem holds_error (hc : c ≤ 5) (hL : L < 2 ^ c) (hR : R < c) : errTo (parL c ll m L) (parL c ll m L).length = errTo (parL c ll m (L ||| 2 ^ R)) (parL c ll m (L ||| 2 ^ R)).length ↔ HoldsAll c ll m L R := by
  have hO : (L ||| 2 ^ R) < 2 ^ c := or_lt ⟨c, by omega⟩ ⟨L, lt32 hc hL⟩ ⟨R, by omega⟩ hL hR
  rw [parL_error hc hL, parL_error hc hO]
  have hsub : ∀ k, k < ll.length → (!repB c ll m ((L ||| 2 ^ R : Nat) : Int) k) = true → (!repB c ll m (L : Int) k) = true := by
    intro k hk h
    unfold repB at h ⊢
    rw [Bool.not_not, List.any_eq_true] at h ⊢
    obtain ⟨b, hb, hbk⟩ := h
    exact ⟨b, hb, ((agB_or hc hL hR b k).1 hbk).1⟩
  constructor
  · intro h
    have hl : ((List.range ll.length).filter fun k => !repB c ll m (L : Int) k).length = ((List.range ll.length).filter fun k => !repB c ll m ((L ||| 2 ^ R : Nat) : Int) k).length := by
      unfold nonreps at h; omega
    have hall := filter_same hsub hl
    -- from a first row on, all rows of its class agree in both
    have key : ∀ a, repB c ll m (L : Int) a = true → ∀ n x, x < n → a < x → x < ll.length → agB c ll m (L : Int) a x = true → agB c ll m ((L ||| 2 ^ R : Nat) : Int) a x = true := by
      intro a hrep n
      induction n with
      | zero => intro x hx; omega
      | succ n ih =>
        intro x hxn hax hx hagr
        have hnr : (!repB c ll m (L : Int) x) = true := by
          unfold repB
          rw [Bool.not_not, List.any_eq_true]
          exact ⟨a, List.mem_range.2 hax, hagr⟩
        have hno := hall x hx hnr
        unfold repB at hno
        rw [Bool.not_not, List.any_eq_true] at hno
        obtain ⟨b, hb, hbx⟩ := hno
        have hb' := List.mem_range.1 hb
        have hbL := ((agB_or hc hL hR b x).1 hbx).1
        have hab := agB_trans hc hL hagr (agB_symm hc hL hbL)
        rcases Nat.lt_trichotomy b a with hlt | rfl | hlt
        · unfold repB at hrep
          rw [Bool.not_eq_true', List.any_eq_false] at hrep
          exact (hrep b (List.mem_range.2 hlt) (agB_symm hc hL hab)).elim
        · exact hbx
        · exact agB_trans hc hO (ih b (by omega) hlt (by omega) hab) hbx
    intro i k hik hk hagr
    have hO2 : agB c ll m ((L ||| 2 ^ R : Nat) : Int) i k = true := by
      cases hr : repB c ll m (L : Int) i with
      | true => exact key i hr (k + 1) k (by omega) hik hk hagr
      | false =>
        unfold repB at hr
        rw [Bool.not_eq_false', List.any_eq_true] at hr
        obtain ⟨b, hb, hbi⟩ := hr
        obtain ⟨a, g1, g2, g3⟩ := rep_least hc hL i (b + 1) b (by omega) (List.mem_range.1 hb) hbi
        have h1 := key a g2 (i + 1) i (by omega) g1 (by omega) g3
        have h2 := key a g2 (k + 1) k (by omega) (by omega) hk (agB_trans hc hL g3 hagr)
        exact agB_trans hc hO (agB_symm hc hO h1) h2
    exact ((agB_or hc hL hR i k).1 hO2).2
  · intro h
    congr 1
    unfold nonreps
    congr 1
    refine List.filter_congr fun k hk => ?_
    have hkl := List.mem_range.1 hk
    congr 1
    unfold repB
    congr 1
    rw [Bool.eq_iff_iff, List.any_eq_true, List.any_eq_true]
    constructor
    · rintro ⟨b, hb, hbk⟩
      exact ⟨b, hb, (agB_or hc hL hR b k).2 ⟨hbk, h b k (List.mem_range.1 hb) hkl hbk⟩⟩
    · rintro ⟨b, hb, hbk⟩
      exact ⟨b, hb, ((agB_or hc hL hR b k).1 hbk).1⟩
theorem or_finer (hc : c ≤ 5) (hL : L < 2 ^ c) (hR : R < c) : Fin2 c ll m (L ||| 2 ^ R) L := fun i k _ _ h => ((agB_or hc hL hR i k).1 h).1
end
end Go.Proofs.YtnbjcelfdppkcaaGreat
