/- Lists in order and families: the model's lists are those of the program's families. Conditions: as stated. -/
import Derived.Test.YtchdceglcjjggaaImN
namespace Go.Proofs.Ytchdceglcjjggaa
open Go.RowKit

/-- In order, no two equal. -/
def AscI (l : List Int) : Prop := l.Pairwise fun a b => a < b
theorem ascI_unique : ∀ (a b : List Int), AscI a → AscI b → (∀ x, x ∈ a ↔ x ∈ b) → a = b
  | [], [], _, _, _ => rfl
  | [], y :: bs, _, _, h => by have := (h y).2 (by simp); cases this
  | x :: s1, [], _, _, h => by have := (h x).1 (by simp); cases this
  | x :: s1, y :: bs, ha, hb, h => by
    unfold AscI at ha hb
    rw [List.pairwise_cons] at ha hb
    have hxy : x = y := by
      have h1 := (h x).1 (by simp)
      have h2 := (h y).2 (by simp)
      rw [List.mem_cons] at h1 h2
      rcases h1 with h1 | h1
      · exact h1
      · rcases h2 with h2 | h2
        · exact h2.symm
        · have e1 := ha.1 y h2
          have e2 := hb.1 x h1
          omega
    subst hxy
    have hx1 : ∀ z ∈ s1, z ≠ x := fun z hz e => by have := ha.1 z hz; omega
    have hx2 : ∀ z ∈ bs, z ≠ x := fun z hz e => by have := hb.1 z hz; omega
    rw [ascI_unique s1 bs ha.2 hb.2 fun z => ⟨fun hz => by
      have := (h z).1 (by simp [hz])
      rw [List.mem_cons] at this
      exact this.resolve_left (hx1 z hz), fun hz => by
      have := (h z).2 (by simp [hz])
      rw [List.mem_cons] at this
      exact this.resolve_left (hx2 z hz)⟩]
theorem ascI_getD {l : List Int} (h : AscI l) {i j : Nat} (hij : i < j) (hj : j < l.length) : l.getD i 0 < l.getD j 0 := by
  rw [← get_getD l i (by omega), ← get_getD l j hj]
  exact List.pairwise_iff_getElem.mp h i j (by omega) hj hij
theorem ascI_snoc {l : List Int} {x : Int} (h : AscI l) (hx : ∀ y ∈ l, y < x) : AscI (l ++ [x]) := by
  unfold AscI
  rw [List.pairwise_append]
  exact ⟨h, List.pairwise_singleton _ _, fun a ha b hb => by rw [List.mem_singleton] at hb; subst hb; exact hx a ha⟩
theorem mem_getD {l : List Int} {y : Int} : y ∈ l ↔ ∃ t, t < l.length ∧ y = l.getD t 0 := by
  constructor
  · intro h
    obtain ⟨t, ht, rfl⟩ := List.mem_iff_getElem.mp h
    exact ⟨t, ht, get_getD l t ht⟩
  · rintro ⟨t, ht, rfl⟩
    rw [← get_getD l t ht]; exact List.getElem_mem ht
theorem take_snocD (l : List Int) (k : Nat) (h : k < l.length) : l.take (k + 1) = l.take k ++ [l.getD k 0] := by
  rw [List.take_succ_eq_append_getElem h, get_getD l k h]
theorem putTo_mem (l : List Int) (x y : Int) : ∀ k, k ≤ l.length → (y ∈ (putTo l x k).2 ↔ y ∈ l.take k ∨ ((putTo l x k).1 = true ∧ y = x))
  | 0, _ => by simp [putTo]
  | k + 1, hk => by
    have ih := putTo_mem l x y k (by omega)
    rw [take_snocD l k (by omega)]
    unfold putTo
    split
    · rename_i h
      rw [h.1] at ih
      have ih' : y ∈ (putTo l x k).2 ↔ y ∈ l.take k := by rw [ih]; simp
      rw [List.mem_append, List.mem_append, List.mem_singleton, List.mem_singleton, List.mem_append, List.mem_singleton, ih']
      constructor
      · rintro ((h1 | h1) | h1)
        · exact Or.inl (Or.inl h1)
        · exact Or.inr ⟨rfl, h1⟩
        · exact Or.inl (Or.inr h1)
      · rintro ((h1 | h1) | ⟨-, h1⟩)
        · exact Or.inl (Or.inl h1)
        · exact Or.inr h1
        · exact Or.inl (Or.inr h1)
    · simp only [List.mem_append, List.mem_singleton, ih]
      constructor
      · rintro ((h1 | h1) | h1)
        · exact Or.inl (Or.inl h1)
        · exact Or.inr h1
        · exact Or.inl (Or.inr h1)
      · rintro ((h1 | h1) | h1)
        · exact Or.inl (Or.inl h1)
        · exact Or.inr h1
        · exact Or.inl (Or.inr h1)
theorem putTo_asc {l : List Int} (hl : AscI l) (x : Int) (hx : x ∉ l) : ∀ k, k ≤ l.length →
    AscI (putTo l x k).2 ∧ (∀ y ∈ (putTo l x k).2, ∀ i, k ≤ i → i < l.length → y < l.getD i 0) ∧ ((putTo l x k).1 = false → ∀ y ∈ (putTo l x k).2, y < x)
  | 0, _ => ⟨List.Pairwise.nil, fun y hy => by simp [putTo] at hy, fun _ y hy => by simp [putTo] at hy⟩
  | k + 1, hk => by
    obtain ⟨h1, h2, h3⟩ := putTo_asc hl x hx k (by omega)
    have hz : ∀ i, k + 1 ≤ i → i < l.length → l.getD k 0 < l.getD i 0 := fun i h h' => ascI_getD hl (by omega) h'
    have hne : l.getD k 0 ≠ x := fun e => hx (by rw [← e]; exact mem_getD.mpr ⟨k, by omega, rfl⟩)
    unfold putTo
    split
    · rename_i h
      refine ⟨ascI_snoc (ascI_snoc h1 (h3 h.1)) fun y hy => ?_, fun y hy i hi hil => ?_, fun e => by cases e⟩
      · rw [List.mem_append, List.mem_singleton] at hy
        rcases hy with hy | rfl
        · exact h2 y hy k (Nat.le_refl _) (by omega)
        · exact h.2
      · rw [List.mem_append, List.mem_append, List.mem_singleton, List.mem_singleton] at hy
        have := hz i hi hil
        rcases hy with (hy | rfl) | rfl
        · exact h2 y hy i (by omega) hil
        · omega
        · exact this
    · rename_i h
      refine ⟨ascI_snoc h1 fun y hy => h2 y hy k (Nat.le_refl _) (by omega), fun y hy i hi hil => ?_, fun e y hy => ?_⟩
      · rw [List.mem_append, List.mem_singleton] at hy
        rcases hy with hy | rfl
        · exact h2 y hy i (by omega) hil
        · exact hz i hi hil
      · rw [List.mem_append, List.mem_singleton] at hy
        rcases hy with hy | rfl
        · exact h3 e y hy
        · have : ¬ x < l.getD k 0 := fun e' => h ⟨e, e'⟩
          omega
theorem put4_mem (l : List Int) (x y : Int) : y ∈ put4 l x ↔ y = x ∨ y ∈ l := by
  have h := putTo_mem l x y l.length (Nat.le_refl _)
  rw [List.take_length] at h
  unfold put4
  split
  · rename_i hx
    constructor
    · exact Or.inr
    · rintro (rfl | h')
      · exact hx
      · exact h'
  · split
    · rename_i h1
      rw [h, h1]; simp
      constructor
      · rintro (h' | h')
        · exact Or.inr h'
        · exact Or.inl h'
      · rintro (h' | h')
        · exact Or.inr h'
        · exact Or.inl h'
    · rename_i h1
      rw [List.mem_append, h, List.mem_singleton]
      simp [h1]
      constructor
      · rintro (h' | h')
        · exact Or.inr h'
        · exact Or.inl h'
      · rintro (h' | h')
        · exact Or.inr h'
        · exact Or.inl h'
theorem put4_asc {l : List Int} (hl : AscI l) (x : Int) : AscI (put4 l x) := by
  unfold put4
  split
  · exact hl
  · rename_i hx
    obtain ⟨h1, -, h3⟩ := putTo_asc hl x hx l.length (Nat.le_refl _)
    split
    · exact h1
    · rename_i h
      exact ascI_snoc h1 (h3 (by simpa using h))
theorem lstTo_mem (f : Nat → Bool) (y : Int) : ∀ n, (y ∈ lstTo f n ↔ ∃ j : Nat, j < n ∧ f j = true ∧ y = (j : Int))
  | 0 => by simp [lstTo]
  | n + 1 => by
    have ih := lstTo_mem f y n
    unfold lstTo
    split
    · rename_i h
      rw [List.mem_append, ih, List.mem_singleton]
      constructor
      · rintro (⟨j, h1, h2, h3⟩ | rfl)
        · exact ⟨j, by omega, h2, h3⟩
        · exact ⟨n, by omega, h, rfl⟩
      · rintro ⟨j, h1, h2, h3⟩
        by_cases e : j = n
        · subst e; exact Or.inr h3
        · exact Or.inl ⟨j, by omega, h2, h3⟩
    · rename_i h
      rw [ih]
      constructor
      · rintro ⟨j, h1, h2, h3⟩
        exact ⟨j, by omega, h2, h3⟩
      · rintro ⟨j, h1, h2, h3⟩
        by_cases e : j = n
        · subst e; exact (h h2).elim
        · exact ⟨j, by omega, h2, h3⟩
theorem lstTo_asc (f : Nat → Bool) : ∀ n, AscI (lstTo f n)
  | 0 => List.Pairwise.nil
  | n + 1 => by
    unfold lstTo
    split
    · exact ascI_snoc (lstTo_asc f n) fun y hy => by
        obtain ⟨j, h1, -, rfl⟩ := (lstTo_mem f y n).mp hy
        omega
    · exact lstTo_asc f n
theorem lstF_mem (f : Nat → Bool) (y : Int) : y ∈ lstF f ↔ ∃ j : Nat, j < 32 ∧ f j = true ∧ y = (j : Int) := lstTo_mem f y 32
theorem lstF_none : lstF noF = [] := by decide
/-- The agree sets. -/
theorem agIn_mem (c : Nat) (ll : List (List Int)) (m : Int) (i : Nat) (l0 : List Int) (y : Int) : ∀ n, (y ∈ agIn c ll m i l0 n ↔ y ∈ l0 ∨ ∃ t, t < n ∧ y = agrTo m (ll.getD i []) (ll.getD (i + 1 + t) []) c)
  | 0 => by simp [agIn]
  | n + 1 => by
    have ih := agIn_mem c ll m i l0 y n
    unfold agIn
    rw [put4_mem, ih]
    constructor
    · rintro (h | h | ⟨t, h1, h2⟩)
      · exact Or.inr ⟨n, by omega, h⟩
      · exact Or.inl h
      · exact Or.inr ⟨t, by omega, h2⟩
    · rintro (h | ⟨t, h1, h2⟩)
      · exact Or.inr (Or.inl h)
      · by_cases e : t = n
        · subst e; exact Or.inl h2
        · exact Or.inr (Or.inr ⟨t, by omega, h2⟩)
theorem agIn_asc (c : Nat) (ll : List (List Int)) (m : Int) (i : Nat) (l0 : List Int) (h0 : AscI l0) : ∀ n, AscI (agIn c ll m i l0 n)
  | 0 => h0
  | n + 1 => by unfold agIn; exact put4_asc (agIn_asc c ll m i l0 h0 n) _
theorem agOut_mem (c : Nat) (ll : List (List Int)) (m : Int) (y : Int) : ∀ i, i ≤ ll.length → (y ∈ agOut c ll m i ↔ ∃ a b, a < i ∧ a < b ∧ b < ll.length ∧ y = agrTo m (ll.getD a []) (ll.getD b []) c)
  | 0, _ => by simp [agOut]
  | i + 1, hi => by
    have ih := agOut_mem c ll m y i (by omega)
    unfold agOut
    rw [agIn_mem, ih]
    constructor
    · rintro (⟨a, b, h1, h2, h3, h4⟩ | ⟨t, h1, h2⟩)
      · exact ⟨a, b, by omega, h2, h3, h4⟩
      · exact ⟨i, i + 1 + t, by omega, by omega, by omega, h2⟩
    · rintro ⟨a, b, h1, h2, h3, h4⟩
      by_cases e : a = i
      · subst e
        refine Or.inr ⟨b - (a + 1), by omega, ?_⟩
        rw [show a + 1 + (b - (a + 1)) = b by omega]; exact h4
      · exact Or.inl ⟨a, b, by omega, h2, h3, h4⟩
theorem agOut_asc (c : Nat) (ll : List (List Int)) (m : Int) : ∀ i, AscI (agOut c ll m i)
  | 0 => List.Pairwise.nil
  | i + 1 => by unfold agOut; exact agIn_asc _ _ _ _ _ (agOut_asc c ll m i) _
theorem agFI_iff (c : Nat) (ll : List (List Int)) (m : Int) (k : Nat) (f : Nat → Bool) (j : Nat) : ∀ n, (agFI c ll m k f n j = true ↔ f j = true ∨ ∃ a, a < n ∧ j = (agrTo m (ll.getD a []) (ll.getD k []) c).toNat)
  | 0 => by simp [agFI]
  | n + 1 => by
    have ih := agFI_iff c ll m k f j n
    unfold agFI setF
    split
    · rename_i h
      simp only [true_iff]
      exact Or.inr ⟨n, by omega, h⟩
    · rename_i h
      rw [ih]
      constructor
      · rintro (h' | ⟨a, h1, h2⟩)
        · exact Or.inl h'
        · exact Or.inr ⟨a, by omega, h2⟩
      · rintro (h' | ⟨a, h1, h2⟩)
        · exact Or.inl h'
        · by_cases e : a = n
          · subst e; exact (h h2).elim
          · exact Or.inr ⟨a, by omega, h2⟩
theorem agFO_iff (c : Nat) (ll : List (List Int)) (m : Int) (j : Nat) : ∀ k, (agFO c ll m k j = true ↔ ∃ a b, a < b ∧ b < k ∧ j = (agrTo m (ll.getD a []) (ll.getD b []) c).toNat)
  | 0 => by simp [agFO, noF]
  | k + 1 => by
    have ih := agFO_iff c ll m j k
    unfold agFO
    rw [agFI_iff, ih]
    constructor
    · rintro (⟨a, b, h1, h2, h3⟩ | ⟨a, h1, h2⟩)
      · exact ⟨a, b, h1, by omega, h3⟩
      · exact ⟨a, k, h1, by omega, h2⟩
    · rintro ⟨a, b, h1, h2, h3⟩
      by_cases e : b = k
      · subst e; exact Or.inr ⟨a, h1, h3⟩
      · exact Or.inl ⟨a, b, h1, by omega, h3⟩
theorem agS_asc (c : Int) (ll : List (List Int)) (m : Int) : AscI (agrS c ll m) := by
  unfold agrS
  split
  · exact agOut_asc _ _ _ _
  · exact List.Pairwise.nil
theorem agF_mem (c : Int) (ll : List (List Int)) (m : Int) (y : Int) : y ∈ agrS c ll m ↔ ∃ j : Nat, j < 32 ∧ agF c ll m j = true ∧ y = (j : Int) := by
  unfold agrS agF
  split
  · rename_i h
    have hT : isT c ll = true := by unfold fineT at h; simp at h; exact h.1
    obtain ⟨h1, h5, -⟩ := isT_bd hT
    rw [agOut_mem _ _ _ _ _ (Nat.le_refl _)]
    constructor
    · rintro ⟨a, b, -, h2, h3, h4⟩
      obtain ⟨Y, hY, hY32⟩ := agrTo_nat m (ll.getD a []) (ll.getD b []) c.toNat (by omega)
      exact ⟨Y, hY32, (agFO_iff _ _ _ _ _).mpr ⟨a, b, h2, h3, by rw [hY]; omega⟩, by rw [h4, hY]⟩
    · rintro ⟨j, -, h2, h3⟩
      obtain ⟨a, b, h4, h6, h7⟩ := (agFO_iff _ _ _ _ _).mp h2
      obtain ⟨Y, hY, hY32⟩ := agrTo_nat m (ll.getD a []) (ll.getD b []) c.toNat (by omega)
      exact ⟨a, b, by omega, h4, h6, by rw [h3, h7, hY]; omega⟩
  · simp [noF]
theorem lstF_agF (c : Int) (ll : List (List Int)) (m : Int) : lstF (agF c ll m) = agrS c ll m :=
  ascI_unique _ _ (lstTo_asc _ _) (agS_asc c ll m) fun y => by rw [lstF_mem, agF_mem]
end Go.Proofs.Ytchdceglcjjggaa
