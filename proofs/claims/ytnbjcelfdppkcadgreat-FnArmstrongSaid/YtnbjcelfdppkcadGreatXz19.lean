/- Texts of this claim, merged: AgrF, ImN, AgrP, AgrQ, ClK. Conditions: as stated. -/
import Derived.Test.YtnbjcelfdppkcadGreatXz9
import Derived.Deep.RegionHeld3
import Derived.Test.YtnbjcelfdppkcadGreatXz16
import Derived.Test.YtnbjcelfdppkcadGreatXz18
namespace Go.Proofs.YtnbjcelfdppkcadGreat
open Go.RowKit

def difB (q : Nat) (x : Int) : Bool := bits .and .i64 (x / 2 ^ q) 1 == 0
def difV (c q : Nat) (x : Int) : Int := bits .andNot .i64 (bits .andNot .i64 (2 ^ c - 1) x) (2 ^ q)
def difTo (c q : Nat) (l : List Int) : Nat → List Int
  | 0 => []
  | i + 1 => if difB q (l.getD i 0) = true then put4 (difTo c q l i) (difV c q (l.getD i 0)) else difTo c q l i
def difS (c : Int) (ll : List (List Int)) (m q : Int) : List Int := if 0 ≤ q ∧ q ≤ c - 1 then difTo c.toNat q.toNat (agrS c ll m) (agrS c ll m).length else []
theorem difTo_len (c q : Nat) (l : List Int) (i : Nat) : (difTo c q l i).length ≤ i := by
  induction i with
  | zero => simp [difTo]
  | succ i ih => have := put4_len (difTo c q l i) (difV c q (l.getD i 0)); unfold difTo; split <;> omega
theorem keep2 {w0 w w' : World} {p q : Addr} {a b : Value} (h : w.cell? p = some a ∧ w.cell? q = some b ∧ Below w0.heap.size w0 w) (k : Below w.heap.size w w') : w'.cell? p = some a ∧ w'.cell? q = some b ∧ Below w0.heap.size w0 w' :=
  ⟨(k.cell (World.block_lt_of_cell? w _ h.1)).trans h.1, (k.cell (World.block_lt_of_cell? w _ h.2.1)).trans h.2.1, h.2.2.trans (k.mono h.2.2.size)⟩
theorem agrS_fine {c m : Int} {ll : List (List Int)} (h : 0 < (agrS c ll m).length) : 1 ≤ c ∧ c ≤ 5 := by
  unfold agrS at h
  split at h
  · rename_i hf
    have hT : isT c ll = true := by unfold fineT at hf; simp at hf; exact hf.1
    exact ⟨(isT_bd hT).1, (isT_bd hT).2.1⟩
  · simp at h
theorem wrap_pow (j : Nat) (hj : j ≤ 4) : wrap64 (2 ^ j) = 2 ^ j := by
  refine IntWalk.wrap64_in _ ?_
  rcases (show j = 0 ∨ j = 1 ∨ j = 2 ∨ j = 3 ∨ j = 4 by omega) with rfl | rfl | rfl | rfl | rfl <;> decide
end Go.Proofs.YtnbjcelfdppkcadGreat
namespace Go.Proofs.YtnbjcelfdppkcadGreat
open Go.RowKit

/-- The value that a set is answered by: the other columns that are not in it. -/
def dfN (C Q s : Nat) : Nat := (difV C Q (s : Int)).toNat
theorem dfN_fin : ∀ (C : Fin 6) (Q : Fin 5) (s : Fin 32), Q.val < C.val → bits .andNot .i64 (bits .andNot .i64 (2 ^ C.val - 1) (wrap64 (2 ^ Q.val))) (s.val : Int) = (dfN C.val Q.val s.val : Int) ∧ dfN C.val Q.val s.val < 32 := by
  decide +kernel
theorem dfN_eq (C Q s : Nat) (hC : C ≤ 5) (hQ : Q < C) (hs : s < 32) : bits .andNot .i64 (bits .andNot .i64 (2 ^ C - 1) (wrap64 (2 ^ Q))) (s : Int) = (dfN C Q s : Int) ∧ dfN C Q s < 32 :=
  dfN_fin ⟨C, by omega⟩ ⟨Q, by omega⟩ ⟨s, hs⟩ hQ
def dfTo (C Q : Nat) (g : Nat → Bool) : Nat → (Nat → Bool)
  | 0 => noF
  | s + 1 => if (g s && !bitB s Q) = true then setF (dfTo C Q g s) (dfN C Q s) true else dfTo C Q g s
def dfS (c : Int) (ll : List (List Int)) (m q : Int) : List Int := if colB c ll q = true then lstF (dfTo c.toNat q.toNat (agF c ll m) 32) else []
end Go.Proofs.YtnbjcelfdppkcadGreat
namespace Go.Proofs.YtnbjcelfdppkcadGreat
open Go.RowKit

theorem lstTo_mem (f : Nat → Bool) (y : Int) : ∀ n, (y ∈ lstTo f n ↔ ∃ j : Nat, j < n ∧ f j = true ∧ y = (j : Int))
  | 0 => by simp [lstTo]
  | n + 1 => by
    have ih := lstTo_mem f y n
    unfold lstTo
    split
    · rename_i h
      rw [List.mem_append, ih, List.mem_singleton]
      constructor
      · rintro (⟨j, h1, h2, h3⟩ | rfl)
        · exact ⟨j, by omega, h2, h3⟩
        · exact ⟨n, by omega, h, rfl⟩
      · rintro ⟨j, h1, h2, h3⟩
        by_cases e : j = n
        · subst e; exact Or.inr h3
        · exact Or.inl ⟨j, by omega, h2, h3⟩
    · rename_i h
      rw [ih]
      constructor
      · rintro ⟨j, h1, h2, h3⟩
        exact ⟨j, by omega, h2, h3⟩
      · rintro ⟨j, h1, h2, h3⟩
        by_cases e : j = n
        · subst e; exact (h h2).elim
        · exact ⟨j, by omega, h2, h3⟩
theorem lstTo_asc (f : Nat → Bool) : ∀ n, AscI (lstTo f n)
  | 0 => List.Pairwise.nil
  | n + 1 => by
    unfold lstTo
    split
    · exact ascI_snoc (lstTo_asc f n) fun y hy => by
        obtain ⟨j, h1, -, rfl⟩ := (lstTo_mem f y n).mp hy
        omega
    · exact lstTo_asc f n
theorem lstF_mem (f : Nat → Bool) (y : Int) : y ∈ lstF f ↔ ∃ j : Nat, j < 32 ∧ f j = true ∧ y = (j : Int) := lstTo_mem f y 32
theorem lstF_none : lstF noF = [] := by decide
/-- The agree sets. -/
theorem agIn_mem (c : Nat) (ll : List (List Int)) (m : Int) (i : Nat) (l0 : List Int) (y : Int) : ∀ n, (y ∈ agIn c ll m i l0 n ↔ y ∈ l0 ∨ ∃ t, t < n ∧ y = agrTo m (ll.getD i []) (ll.getD (i + 1 + t) []) c)
  | 0 => by simp [agIn]
  | n + 1 => by
    have ih := agIn_mem c ll m i l0 y n
    unfold agIn
    rw [put4_mem, ih]
    constructor
    · rintro (h | h | ⟨t, h1, h2⟩)
      · exact Or.inr ⟨n, by omega, h⟩
      · exact Or.inl h
      · exact Or.inr ⟨t, by omega, h2⟩
    · rintro (h | ⟨t, h1, h2⟩)
      · exact Or.inr (Or.inl h)
      · by_cases e : t = n
        · subst e; exact Or.inl h2
        · exact Or.inr (Or.inr ⟨t, by omega, h2⟩)
theorem agIn_asc (c : Nat) (ll : List (List Int)) (m : Int) (i : Nat) (l0 : List Int) (h0 : AscI l0) : ∀ n, AscI (agIn c ll m i l0 n)
  | 0 => h0
  | n + 1 => by unfold agIn; exact put4_asc (agIn_asc c ll m i l0 h0 n) _
theorem agOut_mem (c : Nat) (ll : List (List Int)) (m : Int) (y : Int) : ∀ i, i ≤ ll.length → (y ∈ agOut c ll m i ↔ ∃ a b, a < i ∧ a < b ∧ b < ll.length ∧ y = agrTo m (ll.getD a []) (ll.getD b []) c)
  | 0, _ => by simp [agOut]
  | i + 1, hi => by
    have ih := agOut_mem c ll m y i (by omega)
    unfold agOut
    rw [agIn_mem, ih]
    constructor
    · rintro (⟨a, b, h1, h2, h3, h4⟩ | ⟨t, h1, h2⟩)
      · exact ⟨a, b, by omega, h2, h3, h4⟩
      · exact ⟨i, i + 1 + t, by omega, by omega, by omega, h2⟩
    · rintro ⟨a, b, h1, h2, h3, h4⟩
      by_cases e : a = i
      · subst e
        refine Or.inr ⟨b - (a + 1), by omega, ?_⟩
        rw [show a + 1 + (b - (a + 1)) = b by omega]; exact h4
      · exact Or.inl ⟨a, b, by omega, h2, h3, h4⟩
theorem agOut_asc (c : Nat) (ll : List (List Int)) (m : Int) : ∀ i, AscI (agOut c ll m i)
  | 0 => List.Pairwise.nil
  | i + 1 => by unfold agOut; exact agIn_asc _ _ _ _ _ (agOut_asc c ll m i) _
theorem agFI_iff (c : Nat) (ll : List (List Int)) (m : Int) (k : Nat) (f : Nat → Bool) (j : Nat) : ∀ n, (agFI c ll m k f n j = true ↔ f j = true ∨ ∃ a, a < n ∧ j = (agrTo m (ll.getD a []) (ll.getD k []) c).toNat)
  | 0 => by simp [agFI]
  | n + 1 => by
    have ih := agFI_iff c ll m k f j n
    unfold agFI setF
    split
    · rename_i h
      simp only [true_iff]
      exact Or.inr ⟨n, by omega, h⟩
    · rename_i h
      rw [ih]
      constructor
      · rintro (h' | ⟨a, h1, h2⟩)
        · exact Or.inl h'
        · exact Or.inr ⟨a, by omega, h2⟩
      · rintro (h' | ⟨a, h1, h2⟩)
        · exact Or.inl h'
        · by_cases e : a = n
          · subst e; exact (h h2).elim
          · exact Or.inr ⟨a, by omega, h2⟩
theorem agFO_iff (c : Nat) (ll : List (List Int)) (m : Int) (j : Nat) : ∀ k, (agFO c ll m k j = true ↔ ∃ a b, a < b ∧ b < k ∧ j = (agrTo m (ll.getD a []) (ll.getD b []) c).toNat)
  | 0 => by simp [agFO, noF]
  | k + 1 => by
    have ih := agFO_iff c ll m j k
    unfold agFO
    rw [agFI_iff, ih]
    constructor
    · rintro (⟨a, b, h1, h2, h3⟩ | ⟨a, h1, h2⟩)
      · exact ⟨a, b, h1, by omega, h3⟩
      · exact ⟨a, k, h1, by omega, h2⟩
    · rintro ⟨a, b, h1, h2, h3⟩
      by_cases e : b = k
      · subst e; exact Or.inr ⟨a, h1, h3⟩
      · exact Or.inl ⟨a, b, h1, by omega, h3⟩
theorem agS_asc (c : Int) (ll : List (List Int)) (m : Int) : AscI (agrS c ll m) := by
  unfold agrS
  split
  · exact agOut_asc _ _ _ _
  · exact List.Pairwise.nil
theorem agF_mem (c : Int) (ll : List (List Int)) (m : Int) (y : Int) : y ∈ agrS c ll m ↔ ∃ j : Nat, j < 32 ∧ agF c ll m j = true ∧ y = (j : Int) := by
  unfold agrS agF
  split
  · rename_i h
    have hT : isT c ll = true := by unfold fineT at h; simp at h; exact h.1
    obtain ⟨h1, h5, -⟩ := isT_bd hT
    rw [agOut_mem _ _ _ _ _ (Nat.le_refl _)]
    constructor
    · rintro ⟨a, b, -, h2, h3, h4⟩
      obtain ⟨Y, hY, hY32⟩ := agrTo_nat m (ll.getD a []) (ll.getD b []) c.toNat (by omega)
      exact ⟨Y, hY32, (agFO_iff _ _ _ _ _).mpr ⟨a, b, h2, h3, by rw [hY]; omega⟩, by rw [h4, hY]⟩
    · rintro ⟨j, -, h2, h3⟩
      obtain ⟨a, b, h4, h6, h7⟩ := (agFO_iff _ _ _ _ _).mp h2
      obtain ⟨Y, hY, hY32⟩ := agrTo_nat m (ll.getD a []) (ll.getD b []) c.toNat (by omega)
      exact ⟨a, b, by omega, h4, h6, by rw [h3, h7, hY]; omega⟩
  · simp [noF]
theorem lstF_agF (c : Int) (ll : List (List Int)) (m : Int) : lstF (agF c ll m) = agrS c ll m :=
  ascI_unique _ _ (lstTo_asc _ _) (agS_asc c ll m) fun y => by rw [lstF_mem, agF_mem]
end Go.Proofs.YtnbjcelfdppkcadGreat
namespace Go.Proofs.YtnbjcelfdppkcadGreat
open Go.RowKit

theorem kpIn_iff (S : Int → Int → Bool) (l : List Int) (y : Int) (f : Nat → Bool) (j : Nat) : ∀ n, (kpIn S l y f n j = true ↔ f j = true ∧ (j = y.toNat → ∀ a, a < n → (l.getD a 0 != y && S (l.getD a 0) y) = false))
  | 0 => by simp [kpIn]
  | n + 1 => by
    have ih := kpIn_iff S l y f j n
    unfold kpIn
    split
    · rename_i h
      unfold setF
      split
      · rename_i hj
        constructor
        · intro e; cases e
        · rintro ⟨-, h2⟩
          have := h2 hj n (by omega)
          rw [h] at this; cases this
      · rename_i hj
        rw [ih]
        constructor
        · rintro ⟨h1, -⟩
          exact ⟨h1, fun e => (hj e).elim⟩
        · rintro ⟨h1, -⟩
          exact ⟨h1, fun e => (hj e).elim⟩
    · rename_i h
      rw [ih]
      constructor
      · rintro ⟨h1, h2⟩
        refine ⟨h1, fun e a ha => ?_⟩
        by_cases e' : a = n
        · subst e'; simpa using h
        · exact h2 e a (by omega)
      · rintro ⟨h1, h2⟩
        exact ⟨h1, fun e a ha => h2 e a (by omega)⟩
theorem kpOut_iff (S : Int → Int → Bool) (l : List Int) (j : Nat) (hat : ∀ i, i < l.length → ∃ X : Nat, l.getD i 0 = (X : Int) ∧ X < 32) : ∀ i, i ≤ l.length → (kpOut S l i j = true ↔ (j : Int) ∈ l ∧ ∀ t, t < i → l.getD t 0 = (j : Int) → ∀ a, a < l.length → (l.getD a 0 != (j : Int) && S (l.getD a 0) (j : Int)) = false)
  | 0, _ => by simp [kpOut, memF]
  | i + 1, hi => by
    have ih := kpOut_iff S l j hat i (by omega)
    unfold kpOut
    rw [kpIn_iff, ih]
    obtain ⟨X, hX, -⟩ := hat i (by omega)
    constructor
    · rintro ⟨⟨h1, h2⟩, h3⟩
      refine ⟨h1, fun t ht e a ha => ?_⟩
      by_cases e' : t = i
      · subst e'
        have := h3 (by rw [e]; omega) a ha
        rw [e] at this; exact this
      · exact h2 t (by omega) e a ha
    · rintro ⟨h1, h2⟩
      refine ⟨⟨h1, fun t ht e a ha => h2 t (by omega) e a ha⟩, fun e a ha => ?_⟩
      have e2 : l.getD i 0 = (j : Int) := by rw [hX] at e ⊢; omega
      have := h2 i (by omega) e2 a ha
      rw [e2]; exact this
theorem unsS_mem (S : Int → Int → Bool) (l : List Int) (hs : setsOk l = true) (y : Int) : y ∈ unsS S l ↔ y ∈ l ∧ ∀ a, a < l.length → (l.getD a 0 != y && S (l.getD a 0) y) = false := by
  obtain ⟨-, hat⟩ := setsOk_at hs
  unfold unsS
  rw [if_pos hs, lstF_mem]
  constructor
  · rintro ⟨j, h1, h2, rfl⟩
    rw [kpOut_iff S l j hat _ (Nat.le_refl _)] at h2
    obtain ⟨t, ht, e⟩ := mem_getD.mp h2.1
    exact ⟨h2.1, h2.2 t ht e.symm⟩
  · rintro ⟨h1, h2⟩
    obtain ⟨t, ht, e⟩ := mem_getD.mp h1
    obtain ⟨X, hX, hX32⟩ := hat t ht
    rw [hX] at e
    subst e
    exact ⟨X, hX32, (kpOut_iff S l X hat _ (Nat.le_refl _)).mpr ⟨h1, fun t _ _ a ha => h2 a ha⟩, rfl⟩
theorem unsS_asc (S : Int → Int → Bool) (l : List Int) : AscI (unsS S l) := by
  unfold unsS
  split
  · exact lstTo_asc _ _
  · exact List.Pairwise.nil
theorem and_swap (x y : Int) : bits .and .i64 x y = bits .and .i64 y x := by rw [bits_and, bits_and, BitVec.and_comm]
theorem maxS_eq (l : List Int) : unsS supS l = maxS l := by
  cases hs : setsOk l with
  | false => unfold unsS maxS; rw [hs]; rfl
  | true =>
    obtain ⟨-, hat⟩ := setsOk_at hs
    refine ascI_unique _ _ (unsS_asc _ _) (by unfold maxS; rw [if_pos hs]; exact mxTo_asc _ _) fun y => ?_
    rw [unsS_mem supS l hs]
    unfold maxS
    rw [if_pos hs, mxTo_mem]
    have key : ∀ X : Nat, X < 32 → ((∀ a, a < l.length → (l.getD a 0 != (X : Int) && supS (l.getD a 0) (X : Int)) = false) ↔ topK l (X : Int) l.length = true) := fun X hX => by
      rw [topK_iff]
      refine ⟨fun h a ha => ?_, fun h a ha => ?_⟩
      · have := h a ha
        clear h hat
        unfold supS at this
        rw [partZ_eq _ _ (by omega) (by omega)] at this
        cases e1 : (l.getD a 0 == (X : Int)) <;> cases e2 : (bits .and .i64 (X : Int) (l.getD a 0) == (X : Int)) <;> simp_all
      · have := h a ha
        clear h hat
        unfold supS
        rw [partZ_eq _ _ (by omega) (by omega)]
        cases e1 : (l.getD a 0 == (X : Int)) <;> cases e2 : (bits .and .i64 (X : Int) (l.getD a 0) == (X : Int)) <;> simp_all
    constructor
    · rintro ⟨h1, h2⟩
      obtain ⟨t, ht, e⟩ := mem_getD.mp h1
      obtain ⟨X, hX, hX32⟩ := hat t ht
      refine ⟨t, ht, e, ?_⟩
      rw [e, hX] at h2 ⊢
      exact (key X hX32).mp h2
    · rintro ⟨t, ht, e, h⟩
      obtain ⟨X, hX, hX32⟩ := hat t ht
      refine ⟨mem_getD.mpr ⟨t, ht, e⟩, ?_⟩
      rw [e, hX] at h ⊢
      exact (key X hX32).mpr h
theorem minS_eq (l : List Int) : unsS subS l = minS l := by
  cases hs : setsOk l with
  | false => unfold unsS minS; rw [hs]; rfl
  | true =>
    obtain ⟨-, hat⟩ := setsOk_at hs
    refine ascI_unique _ _ (unsS_asc _ _) (by unfold minS; rw [if_pos hs]; exact mnTo_asc _ _) fun y => ?_
    rw [unsS_mem subS l hs]
    unfold minS
    rw [if_pos hs, mnTo_mem]
    have key : ∀ X : Nat, X < 32 → ((∀ a, a < l.length → (l.getD a 0 != (X : Int) && subS (l.getD a 0) (X : Int)) = false) ↔ lowK l (X : Int) l.length = true) := fun X hX => by
      rw [lowK_iff]
      refine ⟨fun h a ha => ?_, fun h a ha => ?_⟩
      · have := h a ha
        obtain ⟨Z, hZ, hZ32⟩ := hat a ha
        unfold subS at this
        rw [hZ] at this ⊢
        rw [partZ_eq _ _ (by omega) (by omega), and_swap] at this
        cases e1 : ((Z : Int) == (X : Int)) <;> cases e2 : (bits .and .i64 (X : Int) (Z : Int) == (Z : Int)) <;> simp_all
      · have := h a ha
        obtain ⟨Z, hZ, hZ32⟩ := hat a ha
        unfold subS
        rw [hZ] at this ⊢
        rw [partZ_eq _ _ (by omega) (by omega), and_swap]
        cases e1 : ((Z : Int) == (X : Int)) <;> cases e2 : (bits .and .i64 (X : Int) (Z : Int) == (Z : Int)) <;> simp_all
    constructor
    · rintro ⟨h1, h2⟩
      obtain ⟨t, ht, e⟩ := mem_getD.mp h1
      obtain ⟨X, hX, hX32⟩ := hat t ht
      refine ⟨t, ht, e, ?_⟩
      rw [e, hX] at h2 ⊢
      exact (key X hX32).mp h2
    · rintro ⟨t, ht, e, h⟩
      obtain ⟨X, hX, hX32⟩ := hat t ht
      refine ⟨mem_getD.mpr ⟨t, ht, e⟩, ?_⟩
      rw [e, hX] at h ⊢
      exact (key X hX32).mpr h
theorem difB_fin : ∀ (Q : Fin 5) (s : Fin 32), difB Q.val (s.val : Int) = !bitB s.val Q.val := by decide +kernel
theorem difV_fin : ∀ (C : Fin 6) (Q : Fin 5) (s : Fin 32), Q.val < C.val → difV C.val Q.val (s.val : Int) = (dfN C.val Q.val s.val : Int) := by decide +kernel
theorem difTo_mem (C Q : Nat) (l : List Int) (y : Int) : ∀ i, (y ∈ difTo C Q l i ↔ ∃ t, t < i ∧ difB Q (l.getD t 0) = true ∧ y = difV C Q (l.getD t 0))
  | 0 => by simp [difTo]
  | i + 1 => by
    have ih := difTo_mem C Q l y i
    unfold difTo
    split
    · rename_i h
      rw [put4_mem, ih]
      constructor
      · rintro (rfl | ⟨t, h1, h2, h3⟩)
        · exact ⟨i, by omega, h, rfl⟩
        · exact ⟨t, by omega, h2, h3⟩
      · rintro ⟨t, h1, h2, h3⟩
        by_cases e : t = i
        · subst e; exact Or.inl h3
        · exact Or.inr ⟨t, by omega, h2, h3⟩
    · rename_i h
      rw [ih]
      constructor
      · rintro ⟨t, h1, h2, h3⟩
        exact ⟨t, by omega, h2, h3⟩
      · rintro ⟨t, h1, h2, h3⟩
        by_cases e : t = i
        · subst e; exact (h h2).elim
        · exact ⟨t, by omega, h2, h3⟩
theorem difTo_asc (C Q : Nat) (l : List Int) : ∀ i, AscI (difTo C Q l i)
  | 0 => List.Pairwise.nil
  | i + 1 => by
    unfold difTo
    split
    · exact put4_asc (difTo_asc C Q l i) _
    · exact difTo_asc C Q l i
theorem dfTo_iff (C Q : Nat) (g : Nat → Bool) (j : Nat) : ∀ n, (dfTo C Q g n j = true ↔ ∃ s, s < n ∧ (g s && !bitB s Q) = true ∧ j = dfN C Q s)
  | 0 => by simp [dfTo, noF]
  | n + 1 => by
    have ih := dfTo_iff C Q g j n
    unfold dfTo
    split
    · rename_i h
      unfold setF
      split
      · rename_i hj
        simp only [true_iff]
        exact ⟨n, by omega, h, hj⟩
      · rename_i hj
        rw [ih]
        constructor
        · rintro ⟨s, h1, h2, h3⟩
          exact ⟨s, by omega, h2, h3⟩
        · rintro ⟨s, h1, h2, h3⟩
          by_cases e : s = n
          · subst e; exact (hj h3).elim
          · exact ⟨s, by omega, h2, h3⟩
    · rename_i h
      rw [ih]
      constructor
      · rintro ⟨s, h1, h2, h3⟩
        exact ⟨s, by omega, h2, h3⟩
      · rintro ⟨s, h1, h2, h3⟩
        by_cases e : s = n
        · subst e; exact (h h2).elim
        · exact ⟨s, by omega, h2, h3⟩
theorem difS_eq (c : Int) (ll : List (List Int)) (m q : Int) : dfS c ll m q = difS c ll m q := by
  unfold dfS difS
  by_cases hq : 0 ≤ q ∧ q ≤ c - 1
  · rw [if_pos hq]
    cases hT : isT c ll with
    | false =>
      have e1 : colB c ll q = false := by unfold colB; rw [hT]; rfl
      have e2 : agrS c ll m = [] := by unfold agrS fineT; rw [hT]; rfl
      rw [e1, e2]; rfl
    | true =>
      have e1 : colB c ll q = true := by unfold colB; rw [hT, decide_eq_true hq]; rfl
      rw [if_pos e1]
      obtain ⟨h1, h5, -⟩ := isT_bd hT
      refine ascI_unique _ _ (lstTo_asc _ _) (difTo_asc _ _ _ _) fun y => ?_
      rw [lstF_mem, difTo_mem]
      have hC : c.toNat < 6 := by omega
      have hQ : q.toNat < 5 := by omega
      have hQC : q.toNat < c.toNat := by omega
      constructor
      · rintro ⟨j, -, h2, h3⟩
        obtain ⟨s, hs, h4, h6⟩ := (dfTo_iff _ _ _ _ _).mp h2
        rw [Bool.and_eq_true] at h4
        obtain ⟨t, ht, e⟩ := mem_getD.mp ((agF_mem c ll m (s : Int)).mpr ⟨s, hs, h4.1, rfl⟩)
        refine ⟨t, ht, ?_, ?_⟩
        · rw [← e]
          exact (difB_fin ⟨q.toNat, hQ⟩ ⟨s, hs⟩).trans h4.2
        · rw [← e, h3, h6]
          exact (difV_fin ⟨c.toNat, hC⟩ ⟨q.toNat, hQ⟩ ⟨s, hs⟩ hQC).symm
      · rintro ⟨t, ht, h2, h3⟩
        obtain ⟨s, hs, h4, h6⟩ := (agF_mem c ll m ((agrS c ll m).getD t 0)).mp (mem_getD.mpr ⟨t, ht, rfl⟩)
        rw [h6] at h2 h3
        have h7 := difB_fin ⟨q.toNat, hQ⟩ ⟨s, hs⟩
        have h8 := difV_fin ⟨c.toNat, hC⟩ ⟨q.toNat, hQ⟩ ⟨s, hs⟩ hQC
        simp only at h7 h8
        rw [h2] at h7
        rw [h8] at h3
        refine ⟨dfN c.toNat q.toNat s, (dfN_eq c.toNat q.toNat s (by omega) hQC hs).2, (dfTo_iff _ _ _ _ _).mpr ⟨s, hs, by rw [Bool.and_eq_true]; exact ⟨h4, h7.symm⟩, rfl⟩, h3⟩
  · rw [if_neg hq]
    have e1 : colB c ll q = false := by unfold colB; rw [decide_eq_false hq]; simp
    rw [e1]; rfl
theorem unsS_len (S : Int → Int → Bool) (l : List Int) : (unsS S l).length ≤ 32 := by
  unfold unsS; split
  · exact lstTo_len _ _
  · simp
theorem maxS_len (l : List Int) : (maxS l).length ≤ 32 := by rw [← maxS_eq]; exact unsS_len _ _
theorem minS_len (l : List Int) : (minS l).length ≤ 32 := by rw [← minS_eq]; exact unsS_len _ _
theorem difS_len (c : Int) (ll : List (List Int)) (m q : Int) : (difS c ll m q).length ≤ 32 := by
  rw [← difS_eq]; unfold dfS; split
  · exact lstTo_len _ _
  · simp
end Go.Proofs.YtnbjcelfdppkcadGreat
namespace Go.Proofs.YtnbjcelfdppkcadGreat
open Go.RowKit

def spn (l : List (Int × Int)) (C x : Nat) : Bool := clo l x == 2 ^ C - 1
def koC (n : Int) (l : List (Int × Int)) : List Int := if arD n l = true then brdTo (spn l n.toNat) (2 ^ n.toNat) else []
def koL (n : Int) (l : List (Int × Int)) : List Int := minS (koC n l)
def orL (l : List Int) : Nat → Int
  | 0 => 0
  | i + 1 => bits .or .i64 (orL l i) (l.getD i 0)
def prZ (n : Int) (l : List (Int × Int)) : Int := orL (koL n l) (koL n l).length
theorem koL_len (n : Int) (l : List (Int × Int)) : (koL n l).length ≤ 32 := minS_len _
section
set_option maxRecDepth 20000
set_option maxHeartbeats 3200000
end
end Go.Proofs.YtnbjcelfdppkcadGreat
