/- Texts of this claim, merged: AgrF, ImN, AgrP. Conditions: as stated. -/
import Derived.Test.YtlecfkfcjhliiaaGreatWc12
import Derived.Deep.RegionHeld3
import Derived.Test.YtlecfkfcjhliiaaGreatWc15
import Derived.Test.YtlecfkfcjhliiaaGreatWc13
namespace Go.Proofs.YtlecfkfcjhliiaaGreat
open Go.RowKit

def difB (q : Nat) (x : Int) : Bool := bits .and .i64 (x / 2 ^ q) 1 == 0
def difV (c q : Nat) (x : Int) : Int := bits .andNot .i64 (bits .andNot .i64 (2 ^ c - 1) x) (2 ^ q)
def difTo (c q : Nat) (l : List Int) : Nat → List Int
  | 0 => []
  | i + 1 => if difB q (l.getD i 0) = true then put4 (difTo c q l i) (difV c q (l.getD i 0)) else difTo c q l i
def difS (c : Int) (ll : List (List Int)) (m q : Int) : List Int := if 0 ≤ q ∧ q ≤ c - 1 then difTo c.toNat q.toNat (agrS c ll m) (agrS c ll m).length else []
theorem difTo_len (c q : Nat) (l : List Int) (i : Nat) : (difTo c q l i).length ≤ i := by
  induction i with
  | zero => simp [difTo]
  | succ i ih => have := put4_len (difTo c q l i) (difV c q (l.getD i 0)); unfold difTo; split <;> omega
theorem keep2 {w0 w w' : World} {p q : Addr} {a b : Value} (h : w.cell? p = some a ∧ w.cell? q = some b ∧ Below w0.heap.size w0 w) (k : Below w.heap.size w w') : w'.cell? p = some a ∧ w'.cell? q = some b ∧ Below w0.heap.size w0 w' :=
  ⟨(k.cell (World.block_lt_of_cell? w _ h.1)).trans h.1, (k.cell (World.block_lt_of_cell? w _ h.2.1)).trans h.2.1, h.2.2.trans (k.mono h.2.2.size)⟩
theorem agrS_fine {c m : Int} {ll : List (List Int)} (h : 0 < (agrS c ll m).length) : 1 ≤ c ∧ c ≤ 5 := by
  unfold agrS at h
  split at h
  · rename_i hf
    have hT : isT c ll = true := by unfold fineT at hf; simp at hf; exact hf.1
    exact ⟨(isT_bd hT).1, (isT_bd hT).2.1⟩
  · simp at h
theorem wrap_pow (j : Nat) (hj : j ≤ 4) : wrap64 (2 ^ j) = 2 ^ j := by
  refine IntWalk.wrap64_in _ ?_
  rcases (show j = 0 ∨ j = 1 ∨ j = 2 ∨ j = 3 ∨ j = 4 by omega) with rfl | rfl | rfl | rfl | rfl <;> decide
end Go.Proofs.YtlecfkfcjhliiaaGreat
namespace Go.Proofs.YtlecfkfcjhliiaaGreat
open Go.RowKit

/-- The value that a set is answered by: the other columns that are not in it. -/
def dfN (C Q s : Nat) : Nat := (difV C Q (s : Int)).toNat
theorem dfN_fin : ∀ (C : Fin 6) (Q : Fin 5) (s : Fin 32), Q.val < C.val → bits .andNot .i64 (bits .andNot .i64 (2 ^ C.val - 1) (wrap64 (2 ^ Q.val))) (s.val : Int) = (dfN C.val Q.val s.val : Int) ∧ dfN C.val Q.val s.val < 32 := by
  decide +kernel
theorem dfN_eq (C Q s : Nat) (hC : C ≤ 5) (hQ : Q < C) (hs : s < 32) : bits .andNot .i64 (bits .andNot .i64 (2 ^ C - 1) (wrap64 (2 ^ Q))) (s : Int) = (dfN C Q s : Int) ∧ dfN C Q s < 32 :=
  dfN_fin ⟨C, by omega⟩ ⟨Q, by omega⟩ ⟨s, hs⟩ hQ
def dfTo (C Q : Nat) (g : Nat → Bool) : Nat → (Nat → Bool)
  | 0 => noF
  | s + 1 => if (g s && !bitB s Q) = true then setF (dfTo C Q g s) (dfN C Q s) true else dfTo C Q g s
def dfS (c : Int) (ll : List (List Int)) (m q : Int) : List Int := if colB c ll q = true then lstF (dfTo c.toNat q.toNat (agF c ll m) 32) else []
end Go.Proofs.YtlecfkfcjhliiaaGreat
namespace Go.Proofs.YtlecfkfcjhliiaaGreat
open Go.RowKit

theorem lstTo_mem (f : Nat → Bool) (y : Int) : ∀ n, (y ∈ lstTo f n ↔ ∃ j : Nat, j < n ∧ f j = true ∧ y = (j : Int))
  | 0 => by simp [lstTo]
  | n + 1 => by
    have ih := lstTo_mem f y n
    unfold lstTo
    split
    · rename_i h
      rw [List.mem_append, ih, List.mem_singleton]
      constructor
      · rintro (⟨j, h1, h2, h3⟩ | rfl)
        · exact ⟨j, by omega, h2, h3⟩
        · exact ⟨n, by omega, h, rfl⟩
      · rintro ⟨j, h1, h2, h3⟩
        by_cases e : j = n
        · subst e; exact Or.inr h3
        · exact Or.inl ⟨j, by omega, h2, h3⟩
    · rename_i h
      rw [ih]
      constructor
      · rintro ⟨j, h1, h2, h3⟩
        exact ⟨j, by omega, h2, h3⟩
      · rintro ⟨j, h1, h2, h3⟩
        by_cases e : j = n
        · subst e; exact (h h2).elim
        · exact ⟨j, by omega, h2, h3⟩
theorem lstTo_asc (f : Nat → Bool) : ∀ n, AscI (lstTo f n)
  | 0 => List.Pairwise.nil
  | n + 1 => by
    unfold lstTo
    split
    · exact ascI_snoc (lstTo_asc f n) fun y hy => by
        obtain ⟨j, h1, -, rfl⟩ := (lstTo_mem f y n).mp hy
        omega
    · exact lstTo_asc f n
theorem lstF_mem (f : Nat → Bool) (y : Int) : y ∈ lstF f ↔ ∃ j : Nat, j < 32 ∧ f j = true ∧ y = (j : Int) := lstTo_mem f y 32
theorem lstF_none : lstF noF = [] := by decide
/-- The agree sets. -/
theorem agIn_mem (c : Nat) (ll : List (List Int)) (m : Int) (i : Nat) (l0 : List Int) (y : Int) : ∀ n, (y ∈ agIn c ll m i l0 n ↔ y ∈ l0 ∨ ∃ t, t < n ∧ y = agrTo m (ll.getD i []) (ll.getD (i + 1 + t) []) c)
  | 0 => by simp [agIn]
  | n + 1 => by
    have ih := agIn_mem c ll m i l0 y n
    unfold agIn
    rw [put4_mem, ih]
    constructor
    · rintro (h | h | ⟨t, h1, h2⟩)
      · exact Or.inr ⟨n, by omega, h⟩
      · exact Or.inl h
      · exact Or.inr ⟨t, by omega, h2⟩
    · rintro (h | ⟨t, h1, h2⟩)
      · exact Or.inr (Or.inl h)
      · by_cases e : t = n
        · subst e; exact Or.inl h2
        · exact Or.inr (Or.inr ⟨t, by omega, h2⟩)
theorem agIn_asc (c : Nat) (ll : List (List Int)) (m : Int) (i : Nat) (l0 : List Int) (h0 : AscI l0) : ∀ n, AscI (agIn c ll m i l0 n)
  | 0 => h0
  | n + 1 => by unfold agIn; exact put4_asc (agIn_asc c ll m i l0 h0 n) _
theorem agOut_mem (c : Nat) (ll : List (List Int)) (m : Int) (y : Int) : ∀ i, i ≤ ll.length → (y ∈ agOut c ll m i ↔ ∃ a b, a < i ∧ a < b ∧ b < ll.length ∧ y = agrTo m (ll.getD a []) (ll.getD b []) c)
  | 0, _ => by simp [agOut]
  | i + 1, hi => by
    have ih := agOut_mem c ll m y i (by omega)
    unfold agOut
    rw [agIn_mem, ih]
    constructor
    · rintro (⟨a, b, h1, h2, h3, h4⟩ | ⟨t, h1, h2⟩)
      · exact ⟨a, b, by omega, h2, h3, h4⟩
      · exact ⟨i, i + 1 + t, by omega, by omega, by omega, h2⟩
    · rintro ⟨a, b, h1, h2, h3, h4⟩
      by_cases e : a = i
      · subst e
        refine Or.inr ⟨b - (a + 1), by omega, ?_⟩
        rw [show a + 1 + (b - (a + 1)) = b by omega]; exact h4
      · exact Or.inl ⟨a, b, by omega, h2, h3, h4⟩
theorem agOut_asc (c : Nat) (ll : List (List Int)) (m : Int) : ∀ i, AscI (agOut c ll m i)
  | 0 => List.Pairwise.nil
  | i + 1 => by unfold agOut; exact agIn_asc _ _ _ _ _ (agOut_asc c ll m i) _
theorem agFI_iff (c : Nat) (ll : List (List Int)) (m : Int) (k : Nat) (f : Nat → Bool) (j : Nat) : ∀ n, (agFI c ll m k f n j = true ↔ f j = true ∨ ∃ a, a < n ∧ j = (agrTo m (ll.getD a []) (ll.getD k []) c).toNat)
  | 0 => by simp [agFI]
  | n + 1 => by
    have ih := agFI_iff c ll m k f j n
    unfold agFI setF
    split
    · rename_i h
      simp only [true_iff]
      exact Or.inr ⟨n, by omega, h⟩
    · rename_i h
      rw [ih]
      constructor
      · rintro (h' | ⟨a, h1, h2⟩)
        · exact Or.inl h'
        · exact Or.inr ⟨a, by omega, h2⟩
      · rintro (h' | ⟨a, h1, h2⟩)
        · exact Or.inl h'
        · by_cases e : a = n
          · subst e; exact (h h2).elim
          · exact Or.inr ⟨a, by omega, h2⟩
theorem agFO_iff (c : Nat) (ll : List (List Int)) (m : Int) (j : Nat) : ∀ k, (agFO c ll m k j = true ↔ ∃ a b, a < b ∧ b < k ∧ j = (agrTo m (ll.getD a []) (ll.getD b []) c).toNat)
  | 0 => by simp [agFO, noF]
  | k + 1 => by
    have ih := agFO_iff c ll m j k
    unfold agFO
    rw [agFI_iff, ih]
    constructor
    · rintro (⟨a, b, h1, h2, h3⟩ | ⟨a, h1, h2⟩)
      · exact ⟨a, b, h1, by omega, h3⟩
      · exact ⟨a, k, h1, by omega, h2⟩
    · rintro ⟨a, b, h1, h2, h3⟩
      by_cases e : b = k
      · subst e; exact Or.inr ⟨a, h1, h3⟩
      · exact Or.inl ⟨a, b, h1, by omega, h3⟩
theorem agS_asc (c : Int) (ll : List (List Int)) (m : Int) : AscI (agrS c ll m) := by
  unfold agrS
  split
  · exact agOut_asc _ _ _ _
  · exact List.Pairwise.nil
theorem agF_mem (c : Int) (ll : List (List Int)) (m : Int) (y : Int) : y ∈ agrS c ll m ↔ ∃ j : Nat, j < 32 ∧ agF c ll m j = true ∧ y = (j : Int) := by
  unfold agrS agF
  split
  · rename_i h
    have hT : isT c ll = true := by unfold fineT at h; simp at h; exact h.1
    obtain ⟨h1, h5, -⟩ := isT_bd hT
    rw [agOut_mem _ _ _ _ _ (Nat.le_refl _)]
    constructor
    · rintro ⟨a, b, -, h2, h3, h4⟩
      obtain ⟨Y, hY, hY32⟩ := agrTo_nat m (ll.getD a []) (ll.getD b []) c.toNat (by omega)
      exact ⟨Y, hY32, (agFO_iff _ _ _ _ _).mpr ⟨a, b, h2, h3, by rw [hY]; omega⟩, by rw [h4, hY]⟩
    · rintro ⟨j, -, h2, h3⟩
      obtain ⟨a, b, h4, h6, h7⟩ := (agFO_iff _ _ _ _ _).mp h2
      obtain ⟨Y, hY, hY32⟩ := agrTo_nat m (ll.getD a []) (ll.getD b []) c.toNat (by omega)
      exact ⟨a, b, by omega, h4, h6, by rw [h3, h7, hY]; omega⟩
  · simp [noF]
theorem lstF_agF (c : Int) (ll : List (List Int)) (m : Int) : lstF (agF c ll m) = agrS c ll m :=
  ascI_unique _ _ (lstTo_asc _ _) (agS_asc c ll m) fun y => by rw [lstF_mem, agF_mem]
end Go.Proofs.YtlecfkfcjhliiaaGreat
