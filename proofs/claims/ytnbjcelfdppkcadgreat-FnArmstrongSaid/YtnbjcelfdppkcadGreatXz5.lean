/- Texts of this claim, merged: ParB, ParC, DepB, DepH, OwnDs. Conditions: as stated. -/
import Derived.Test.YtnbjcelfdppkcadGreatXz4
import Derived.Deep.AppendLies
import Derived.Test.YtnbjcelfdppkcadGreatXz3
import Derived.Deep.RegionHeld3
namespace Go.Proofs.YtnbjcelfdppkcadGreat
open Go.RowKit

/-- The rows of the first i classes. -/
def flatTo (p : List (List Int)) (i : Nat) : List Int := (p.take i).flatten
theorem flatTo_succ (p : List (List Int)) (i : Nat) (h : i < p.length) : flatTo p (i + 1) = flatTo p i ++ p.getD i [] := by
  unfold flatTo; rw [take_succ_getD p [] i h]; simp
theorem flatTo_len (p : List (List Int)) (i : Nat) : (flatTo p i).length = tot (p.take i) := by
  unfold flatTo tot; rw [List.length_flatten]
theorem flatTo_bd (p : List (List Int)) (i k : Nat) (h : i < p.length) (hk : k ≤ (p.getD i []).length) : (flatTo p i ++ (p.getD i []).take k).length ≤ tot p := by
  have h1 := tot_succ h
  have h2 := tot_take p (i + 1)
  rw [List.length_append, flatTo_len, List.length_take]
  omega
/-- The first row of the class before class i, or -1. -/
def lastTo (p : List (List Int)) : Nat → Int
  | 0 => -1
  | i + 1 => (p.getD i []).getD 0 0
/-- Row k of class i is as it should be. -/
def okX (R : Int) (p : List (List Int)) (i k : Nat) : Bool :=
  decide (0 ≤ (p.getD i []).getD k 0 ∧ (p.getD i []).getD k 0 ≤ R) && !(decide (0 < k) && decide ((p.getD i []).getD k 0 ≤ (p.getD i []).getD (k - 1) 0)) && !decide ((p.getD i []).getD k 0 ∈ flatTo p i ++ (p.getD i []).take k)
def okC (R : Int) (p : List (List Int)) (i : Nat) : Bool :=
  decide (2 ≤ (p.getD i []).length ∧ lastTo p i < (p.getD i []).getD 0 0) && (List.range (p.getD i []).length).all (okX R p i)
def partP (p : List (List Int)) (rows : Int) : Bool := (List.range p.length).all (okC (IntKind.i64.wrap (rows - 1)) p) && decide (0 ≤ rows ∧ rows ≤ 40)
theorem partP_no {p : List (List Int)} {rows : Int} {i : Nat} (hi : i < p.length) (h : okC (IntKind.i64.wrap (rows - 1)) p i = false) : partP p rows = false := by
  unfold partP
  have : (List.range p.length).all (okC (IntKind.i64.wrap (rows - 1)) p) = false := by
    rw [List.all_eq_false]; exact ⟨i, List.mem_range.mpr hi, by rw [h]; simp⟩
  rw [this]; rfl
theorem okC_no {R : Int} {p : List (List Int)} {i k : Nat} (hk : k < (p.getD i []).length) (h : okX R p i k = false) : okC R p i = false := by
  unfold okC
  have : (List.range (p.getD i []).length).all (okX R p i) = false := by
    rw [List.all_eq_false]; exact ⟨k, List.mem_range.mpr hk, by rw [h]; simp⟩
  rw [this]; simp
theorem okC_yes {R : Int} {p : List (List Int)} {i : Nat} (h1 : 2 ≤ (p.getD i []).length) (h2 : lastTo p i < (p.getD i []).getD 0 0) (h : ∀ k, k < (p.getD i []).length → okX R p i k = true) : okC R p i = true := by
  unfold okC
  rw [decide_eq_true (And.intro h1 h2), Bool.true_and, List.all_eq_true]
  exact fun k hk => h k (List.mem_range.mp hk)
theorem partP_yes {p : List (List Int)} {rows : Int} (h : ∀ i, i < p.length → okC (IntKind.i64.wrap (rows - 1)) p i = true) : partP p rows = decide (0 ≤ rows ∧ rows ≤ 40) := by
  unfold partP
  have : (List.range p.length).all (okC (IntKind.i64.wrap (rows - 1)) p) = true := by
    rw [List.all_eq_true]; exact fun i hi => h i (List.mem_range.mp hi)
  rw [this, Bool.true_and]
end Go.Proofs.YtnbjcelfdppkcadGreat
namespace Go.Proofs.YtnbjcelfdppkcadGreat
open Go.RowKit

theorem ownsRow_same {w w' : World} {B n : Nat} {E : TypeId} {v : Value} {xs : List Value} (h : w.ownsRow B E 1 v n xs) (hs : ∀ g, v.ownBlock = some g → w'.heap[g]? = w.heap[g]?) : w'.ownsRow B E 1 v n xs := by
  refine ⟨h.1, ?_⟩
  rcases h.2 with hn | ⟨g, cap, cur, rfl, hB, hg, rest⟩
  · exact Or.inl hn
  · exact Or.inr ⟨g, cap, cur, rfl, hB, (hs g rfl).trans hg, rest⟩
/-- A list of rows that the call owns, and beside it a row of its own that is none of them. -/
def OwnSD (w : World) (B C : Nat) (v : Value) (ll : List (List Int)) (dv : Value) (dl : List Int) : Prop :=
  ∃ V : Nat → Value, w.ownsRow B 40 1 v ll.length ((List.range ll.length).map V) ∧ (∀ g, v.ownBlock = some g → g < C) ∧
    (∀ i, i < ll.length → OwnI w B (V i) (ll.getD i []) ∧ ∀ g, (V i).ownBlock = some g → g < C) ∧
    (∀ i j, i < j → j < ll.length → ∀ g, (V i).ownBlock = some g → (V j).ownBlock ≠ some g) ∧
    OwnI w B dv dl ∧ (∀ g, dv.ownBlock = some g → g < C) ∧ (∀ i, i < ll.length → ∀ g, (V i).ownBlock = some g → dv.ownBlock ≠ some g)
theorem OwnSD.ss {w : World} {B C : Nat} {v dv : Value} {ll : List (List Int)} {dl : List Int} (h : OwnSD w B C v ll dv dl) : OwnSS w B C v ll := by
  obtain ⟨V, h1, h2, h3, h4, -⟩ := h
  exact ⟨V, h1, h2, h3, h4⟩
theorem OwnSD.done {w : World} {B C : Nat} {v dv : Value} {ll : List (List Int)} {dl : List Int} (h : OwnSD w B C v ll dv dl) : OwnI w B dv dl := by
  obtain ⟨V, -, -, -, -, h5, -⟩ := h
  exact h5
theorem OwnSD.base {w : World} {B C C' : Nat} {v dv : Value} {ll : List (List Int)} {dl : List Int} (h : OwnSD w B C v ll dv dl) (hC : C ≤ C') : OwnSD w B C' v ll dv dl := by
  obtain ⟨V, h1, h2, h3, h4, h5, h6, h7⟩ := h
  exact ⟨V, h1, fun g hg => Nat.lt_of_lt_of_le (h2 g hg) hC, fun i hi => ⟨(h3 i hi).1, fun g hg => Nat.lt_of_lt_of_le ((h3 i hi).2 g hg) hC⟩, h4, h5, fun g hg => Nat.lt_of_lt_of_le (h6 g hg) hC, h7⟩
theorem OwnSD.same {w w' : World} {B C : Nat} {v dv : Value} {ll : List (List Int)} {dl : List Int} (h : OwnSD w B C v ll dv dl) (hs : Same B C w w') : OwnSD w' B C v ll dv dl := by
  obtain ⟨V, h1, h2, h3, h4, h5, h6, h7⟩ := h
  exact ⟨V, ownsRow_same h1 fun g hg => hs g (World.ownsRow.lt h1 g hg).1 (h2 g hg), h2, fun i hi => ⟨(h3 i hi).1.same fun g hg => hs g ((h3 i hi).1.lt g hg).1 ((h3 i hi).2 g hg), (h3 i hi).2⟩, h4, h5.same fun g hg => hs g (h5.lt g hg).1 (h6 g hg), h6, h7⟩
/-- One more row. -/
theorem OwnSD.snoc {w w' : World} {B C C' : Nat} {v v' u dv : Value} {ll : List (List Int)} {l dl : List Int} {V : Nat → Value} (o1 : w.ownsRow B 40 1 v ll.length ((List.range ll.length).map V))
    (o3 : ∀ i, i < ll.length → OwnI w B (V i) (ll.getD i []) ∧ ∀ g, (V i).ownBlock = some g → g < C) (o4 : ∀ i j, i < j → j < ll.length → ∀ g, (V i).ownBlock = some g → (V j).ownBlock ≠ some g)
    (o5 : OwnI w B dv dl) (o6 : ∀ g, dv.ownBlock = some g → g < C) (o7 : ∀ i, i < ll.length → ∀ g, (V i).ownBlock = some g → dv.ownBlock ≠ some g)
    (hu : OwnI w B u l) (huC : ∀ g, u.ownBlock = some g → C ≤ g ∧ g < C')
    (h1 : w'.ownsRow B 40 1 v' (ll.length + 1) ((List.range ll.length).map V ++ [u])) (hg : w.grownBy w' v.ownBlock) (hC : C ≤ C') (hv' : ∀ g, v'.ownBlock = some g → g < C') : OwnSD w' B C' v' (ll ++ [l]) dv dl := by
  have hap : ∀ i, i < ll.length → ∀ g, v.ownBlock = some g → (V i).ownBlock ≠ some g := fun i hi => row_apart o1 (o3 i hi).1
  have hapu : ∀ g, v.ownBlock = some g → u.ownBlock ≠ some g := row_apart o1 hu
  have hapd : ∀ g, v.ownBlock = some g → dv.ownBlock ≠ some g := row_apart o1 o5
  refine ⟨fun i => if i < ll.length then V i else u, ?_, hv', fun i hi => ?_, fun i j hij hj g => ?_, o5.keptBy hg hapd, fun g hg => Nat.lt_of_lt_of_le (o6 g hg) hC, fun i hi g => ?_⟩
  · have e : (List.range (ll ++ [l]).length).map (fun i => if i < ll.length then V i else u) = (List.range ll.length).map V ++ [u] := by
      rw [List.length_append, List.length_singleton, List.range_succ, List.map_append]
      congr 1
      · apply List.map_congr_left; intro i hi; rw [List.mem_range] at hi; simp [hi]
      · simp
    rw [e, List.length_append]; exact h1
  · rw [List.length_append, List.length_singleton] at hi
    rw [getD_snoc _ _ _ _ hi]
    by_cases hlt : i < ll.length
    · simp only [hlt, if_true]
      exact ⟨(o3 i hlt).1.keptBy hg (fun g hg => hap i hlt g hg), fun g hgg => Nat.lt_of_lt_of_le ((o3 i hlt).2 g hgg) hC⟩
    · simp only [hlt, if_false]
      exact ⟨hu.keptBy hg hapu, fun g hgg => (huC g hgg).2⟩
  · rw [List.length_append, List.length_singleton] at hj
    have hi : i < ll.length := by omega
    simp only [hi, if_true]
    by_cases hlt : j < ll.length
    · simp only [hlt, if_true]; exact o4 i j hij hlt g
    · simp only [hlt, if_false]
      intro a b
      have := (o3 i hi).2 g a
      have := (huC g b).1
      omega
  · by_cases hlt : i < ll.length
    · simp only [hlt, if_true]; exact o7 i hlt g
    · simp only [hlt, if_false]
      intro a b
      have := (huC g a).1
      have := o6 g b
      omega
/-- The row beside has grown. -/
theorem OwnSD.grow {w w' : World} {B : Nat} {v dv dv' : Value} {ll : List (List Int)} {dl dl' : List Int} (h : OwnSD w B w.heap.size v ll dv dl) (hd : OwnI w' B dv' dl') (hg : w.grownBy w' dv.ownBlock) (hor : ∀ g, dv'.ownBlock = some g → dv.ownBlock = some g ∨ g = w.heap.size) : OwnSD w' B w'.heap.size v ll dv' dl' := by
  obtain ⟨V, h1, h2, h3, h4, h5, h6, h7⟩ := h
  have hap : ∀ g, v.ownBlock = some g → dv.ownBlock ≠ some g := row_apart h1 h5
  refine ⟨V, ownsRow_same h1 fun g hgv => hg.block g (h2 g hgv) (fun e => hap g hgv e.symm), fun g hgv => Nat.lt_of_lt_of_le (h2 g hgv) hg.size, fun i hi => ⟨(h3 i hi).1.same fun g hgv => hg.block g ((h3 i hi).2 g hgv) (fun e => h7 i hi g hgv e.symm), fun g hgv => Nat.lt_of_lt_of_le ((h3 i hi).2 g hgv) hg.size⟩, h4, hd, fun g hgv => (hd.lt g hgv).2, fun i hi g hgv e => ?_⟩
  rcases hor g e with h | h
  · exact h7 i hi g hgv h
  · have := (h3 i hi).2 g hgv; omega

/-- Two rows agree in all of the set. -/
def agB (c : Nat) (ll : List (List Int)) (m s : Int) (i k : Nat) : Bool := bits .and .i64 (agrTo m (ll.getD i []) (ll.getD k []) c) s == s
/-- Row i and those of the n rows behind it that agree with it. -/
def rowsC (c : Nat) (ll : List (List Int)) (m s : Int) (i : Nat) : Nat → List Int
  | 0 => [(i : Int)]
  | n + 1 => if agB c ll m s i (i + 1 + n) = true then rowsC c ll m s i n ++ [((i + 1 + n : Nat) : Int)] else rowsC c ll m s i n
def clsC (c : Nat) (ll : List (List Int)) (m s : Int) (i : Nat) : List Int := rowsC c ll m s i (ll.length - (i + 1))
/-- The classes and the rows that are done, after i rows. -/
def clSt (c : Nat) (ll : List (List Int)) (m s : Int) : Nat → List (List Int) × List Int
  | 0 => ([], [])
  | i + 1 => if (i : Int) ∈ (clSt c ll m s i).2 then clSt c ll m s i else if 1 < (clsC c ll m s i).length then ((clSt c ll m s i).1 ++ [clsC c ll m s i], (clSt c ll m s i).2 ++ clsC c ll m s i) else clSt c ll m s i
theorem rowsC_len (c : Nat) (ll : List (List Int)) (m s : Int) (i : Nat) : ∀ n, (rowsC c ll m s i n).length ≤ n + 1
  | 0 => by simp [rowsC]
  | n + 1 => by
    have := rowsC_len c ll m s i n
    unfold rowsC
    split
    · simp; omega
    · omega
theorem clsC_len (c : Nat) (ll : List (List Int)) (m s : Int) (i : Nat) (hi : i < ll.length) : (clsC c ll m s i).length ≤ ll.length := by
  have := rowsC_len c ll m s i (ll.length - (i + 1)); unfold clsC; omega
theorem clSt_len (c : Nat) (ll : List (List Int)) (m s : Int) : ∀ i, i ≤ ll.length → (clSt c ll m s i).1.length ≤ i ∧ (clSt c ll m s i).2.length ≤ ll.length * i
  | 0, _ => by simp [clSt]
  | i + 1, hi => by
    have ih := clSt_len c ll m s i (by omega)
    have h := clsC_len c ll m s i (by omega)
    have e : ll.length * (i + 1) = ll.length * i + ll.length := by rw [Nat.mul_add, Nat.mul_one]
    unfold clSt
    split
    · omega
    · split
      · simp; omega
      · omega
end Go.Proofs.YtnbjcelfdppkcadGreat
namespace Go.Proofs.YtnbjcelfdppkcadGreat
open Go.RowKit

/-- Rows i and k are equal on the left and not on the right. -/
def badB (c : Nat) (ll : List (List Int)) (m : Int) (L R : Nat) (i k : Nat) : Bool := agB c ll m (L : Int) i k && !bitB (agrTo m (ll.getD i []) (ll.getD k []) c).toNat R
/-- The first pair that is bad. -/
def PairIs (bad : Nat → Nat → Bool) (N : Nat) (a b : Int) : Prop :=
  (a = -1 ∧ b = -1 ∧ ∀ i k, i < k → k < N → bad i k = false) ∨ ∃ i k : Nat, a = (i : Int) ∧ b = (k : Int) ∧ i < k ∧ k < N ∧ bad i k = true ∧ (∀ i' k', i' < i → i' < k' → k' < N → bad i' k' = false) ∧ ∀ k', i < k' → k' < k → bad i k' = false
theorem PairIs.one {bad : Nat → Nat → Bool} {N : Nat} {a b a' b' : Int} (h : PairIs bad N a b) (h' : PairIs bad N a' b') : a = a' ∧ b = b' := by
  rcases h with ⟨rfl, rfl, h⟩ | ⟨i, k, rfl, rfl, h1, h2, h3, h4, h5⟩
  · rcases h' with ⟨rfl, rfl, -⟩ | ⟨i', k', rfl, rfl, h1', h2', h3', -⟩
    · exact ⟨rfl, rfl⟩
    · rw [h i' k' h1' h2'] at h3'; cases h3'
  · rcases h' with ⟨rfl, rfl, h'⟩ | ⟨i', k', rfl, rfl, h1', h2', h3', h4', h5'⟩
    · rw [h' i k h1 h2] at h3; cases h3
    · rcases Nat.lt_trichotomy i i' with hlt | rfl | hlt
      · rw [h4' i k hlt h1 h2] at h3; cases h3
      · rcases Nat.lt_trichotomy k k' with hlt | rfl | hlt
        · rw [h5' k h1 hlt] at h3; cases h3
        · exact ⟨rfl, rfl⟩
        · rw [h5 k' h1' hlt] at h3'; cases h3'
      · rw [h4 i' k' hlt h1' h2'] at h3'; cases h3'
theorem least_nat (p : Nat → Bool) : ∀ n, (∃ i, i < n ∧ p i = true) → ∃ a, a < n ∧ p a = true ∧ ∀ b, b < a → p b = false
  | 0, ⟨i, h, _⟩ => absurd h (Nat.not_lt_zero _)
  | n + 1, ⟨i, h, hi⟩ => by
    by_cases hx : ∃ j, j < n ∧ p j = true
    · obtain ⟨a, h1, h2⟩ := least_nat p n hx
      exact ⟨a, by omega, h2⟩
    · have : i = n := by
        by_cases e : i = n
        · exact e
        · exact (hx ⟨i, by omega, hi⟩).elim
      subst this
      exact ⟨i, h, hi, fun b hb => by
        cases hp : p b with
        | false => rfl
        | true => exact (hx ⟨b, hb, hp⟩).elim⟩
theorem PairIs.ex (bad : Nat → Nat → Bool) (N : Nat) : ∃ ab : Int × Int, PairIs bad N ab.1 ab.2 := by
  by_cases h : ∃ i, i < N ∧ ((List.range N).any fun k => decide (i < k) && bad i k) = true
  · obtain ⟨i, h1, h2, h3⟩ := least_nat (fun i => (List.range N).any fun k => decide (i < k) && bad i k) N h
    rw [List.any_eq_true] at h2
    obtain ⟨k, hk, hb⟩ := h2
    obtain ⟨k, h4, h5, h6⟩ := least_nat (fun k => decide (i < k) && bad i k) N ⟨k, List.mem_range.1 hk, hb⟩
    rw [Bool.and_eq_true, decide_eq_true_eq] at h5
    refine ⟨((i : Int), (k : Int)), .inr ⟨i, k, rfl, rfl, h5.1, h4, h5.2, fun i' k' g1 g2 g3 => ?_, fun k' g1 g2 => ?_⟩⟩
    · have := h3 i' g1
      simp only [List.any_eq_false] at this
      have := this k' (List.mem_range.2 g3)
      simpa [g2] using this
    · have := h6 k' g2
      simpa [g1] using this
  · refine ⟨(-1, -1), .inl ⟨rfl, rfl, fun i k h1 h2 => ?_⟩⟩
    cases hb : bad i k with
    | false => rfl
    | true => exact (h ⟨i, by omega, List.any_eq_true.2 ⟨k, List.mem_range.2 h2, by rw [hb]; simp [h1]⟩⟩).elim
noncomputable def pairI (bad : Nat → Nat → Bool) (N : Nat) : Int × Int := Classical.choose (PairIs.ex bad N)
theorem pairI_is (bad : Nat → Nat → Bool) (N : Nat) : PairIs bad N (pairI bad N).1 (pairI bad N).2 := Classical.choose_spec (PairIs.ex bad N)
theorem pairI_eq {bad : Nat → Nat → Bool} {N : Nat} {a b : Int} (h : PairIs bad N a b) : pairI bad N = (a, b) := by
  obtain ⟨h1, h2⟩ := (pairI_is bad N).one h
  rw [← h1, ← h2]
theorem bit_zero (X k : Nat) : (bits BinOp.and IntKind.i64 ((X : Int) / 2 ^ k) 1 == 0) = !bitB X k := by
  rw [← bit_test, i64_and_1]
  have h := Int.emod_two_eq ((X : Int) / 2 ^ k)
  rcases h with h | h <;> rw [h] <;> rfl
theorem agrTo_nat6 (m : Int) (r s : List Int) (n : Nat) (h : n ≤ 5) : ∃ Y : Nat, agrTo m r s n = (Y : Int) ∧ Y < 32 := by
  obtain ⟨h0, h1⟩ := agrTo_bd m r s n
  refine ⟨(agrTo m r s n).toNat, by omega, ?_⟩
  rcases (show n = 0 ∨ n = 1 ∨ n = 2 ∨ n = 3 ∨ n = 4 ∨ n = 5 by omega) with rfl | rfl | rfl | rfl | rfl | rfl <;> simp at h1 <;> omega
/-- A table and a dependency, each in a block of the call's own. -/
theorem boxTD {w wr : World} {a b l r : Value} {T T' : TypeId} (hb : Below ((w.alloc (.cells #[a, b] T)).alloc (.cells #[l, r] T')).heap.size ((w.alloc (.cells #[a, b] T)).alloc (.cells #[l, r] T')) wr) :
    (wr.cell? ⟨w.heap.size, 0, none⟩ = some a ∧ wr.cell? ⟨w.heap.size, 1, none⟩ = some b) ∧ wr.cell? ⟨w.heap.size + 1, 0, none⟩ = some l ∧ wr.cell? ⟨w.heap.size + 1, 1, none⟩ = some r := by
  have hb1 := (Below.refl (w.alloc (.cells #[a, b] T)).heap.size (w.alloc (.cells #[a, b] T))).alloc (Nat.le_refl _) (.cells #[l, r] T')
  have hbb := hb1.trans (hb.mono hb1.size)
  obtain ⟨h0, h1⟩ := zero2 (w.alloc (.cells #[a, b] T)) T' l r
  have hs : (w.alloc (.cells #[a, b] T)).heap.size = w.heap.size + 1 := by simp
  rw [hs] at h0 h1
  obtain ⟨g0, g1⟩ := zero2 w T a b
  exact ⟨⟨(hbb.cell (p := ⟨w.heap.size, 0, none⟩) (by simp)).trans g0, (hbb.cell (p := ⟨w.heap.size, 1, none⟩) (by simp)).trans g1⟩, (hb.cell (p := ⟨w.heap.size + 1, 0, none⟩) (by simp)).trans h0, (hb.cell (p := ⟨w.heap.size + 1, 1, none⟩) (by simp)).trans h1⟩
set_option maxRecDepth 20000 in
set_option maxHeartbeats 1600000 in
theorem pair6_any (c m : Int) (L R : Nat) (v : Value) (ll : List (List Int)) (w : World) (hr : ReadSS w v ll) (hT : isT c ll = true) (hR : R < 5) :
    Calls Tryz.prog 31 #[.agg #[.int .i64 c, v], .int .i64 m, .agg #[.int .i64 (L : Int), .int .i64 (R : Int)]] w fun e w' =>
      e = .returned (.tuple #[.int .i64 (pairI (badB c.toNat ll m L R) ll.length).1, .int .i64 (pairI (badB c.toNat ll m L R) ll.length).2]) ∧ Below w.heap.size w w' := by
  obtain ⟨hc1, hc5, h40⟩ := isT_bd hT
  have HK := Lib.hid (fun (i k : Nat) w' (hb : Below w.heap.size w w') (hi : i < ll.length) (hk : k < ll.length) => l4Agree_any c m i k v ll w' (hr.kept hb) hT hi hk)
  obtain ⟨a, cap, rfl, -⟩ := hr
  have hb1 := (Below.refl w.heap.size w).alloc (Nat.le_refl _) (.cells #[.int .i64 c, .slice a ll.length cap] 29)
  have hb2 := hb1.alloc hb1.size (.cells #[.int .i64 (L : Int), .int .i64 (R : Int)] 35)
  have HB2 := Lib.hid hb2
  have HRF := Lib.hid (Below.refl ((w.alloc (.cells #[.int .i64 c, .slice a ll.length cap] 29)).alloc (.cells #[.int .i64 (L : Int), .int .i64 (R : Int)] 35)).heap.size ((w.alloc (.cells #[.int .i64 c, .slice a ll.length cap] 29)).alloc (.cells #[.int .i64 (L : Int), .int .i64 (R : Int)] 35)))
  have HEQ := Lib.hid (fun a b (h : PairIs (badB c.toNat ll m L R) ll.length a b) => pairI_eq h)
  have HTN := Lib.hid (fun i k => agrTo_nat6 m (ll.getD i []) (ll.getD k []) c.toNat (by omega))
  clear hb1 hb2
  go_enter Tryz.func31, Tryz.ntmps31
  go_wp2_with fail
  go_loopw [8] (fun iv wr => ∃ i : Nat, i ≤ ll.length ∧ iv = .int .i64 (i : Int) ∧ Hid (∀ i' k', i' < i → i' < k' → k' < ll.length → badB c.toNat ll m L R i' k' = false) ∧ Below ((w.alloc (.cells #[.int .i64 c, .slice a ll.length cap] 29)).alloc (.cells #[.int .i64 (L : Int), .int .i64 (R : Int)] 35)).heap.size ((w.alloc (.cells #[.int .i64 c, .slice a ll.length cap] 29)).alloc (.cells #[.int .i64 (L : Int), .int .i64 (R : Int)] 35)) wr) (fun iv _ => ll.length - (intOf iv).toNat)
  case atStart => exact ⟨0, by omega, rfl, Lib.hid (fun i' k' h => absurd h (Nat.not_lt_zero _)), HRF.out⟩
  case round =>
    obtain ⟨i, hi, rfl, HNO, hb⟩ := hrel
    obtain ⟨w1, hw1⟩ : ∃ w', w' = wr := ⟨_, rfl⟩
    rw [← hw1] at hb ⊢
    clear hw1
    obtain ⟨⟨c0, c1⟩, d0, d1⟩ := boxTD hb
    by_cases hlt : i < ll.length
    · have z1 : (i : Int) < (ll.length : Int) := by omega
      go_wp2_with fail
      go_loopw [9] (fun kv wr => ∃ k : Nat, i < k ∧ k ≤ ll.length ∧ kv = .int .i64 (k : Int) ∧ Hid (∀ k', i < k' → k' < k → badB c.toNat ll m L R i k' = false) ∧ Below ((w.alloc (.cells #[.int .i64 c, .slice a ll.length cap] 29)).alloc (.cells #[.int .i64 (L : Int), .int .i64 (R : Int)] 35)).heap.size ((w.alloc (.cells #[.int .i64 c, .slice a ll.length cap] 29)).alloc (.cells #[.int .i64 (L : Int), .int .i64 (R : Int)] 35)) wr) (fun kv _ => ll.length - (intOf kv).toNat)
      case atStart => exact ⟨i + 1, by omega, by omega, by go_num, Lib.hid (fun k' h1 h2 => by omega), hb⟩
      case round =>
        clear c0 c1 d0 d1 hb
        obtain ⟨k, hik, hk, rfl, HNK, hb⟩ := hrel
        obtain ⟨w2, hw2⟩ : ∃ w', w' = wr := ⟨_, rfl⟩
        rw [← hw2] at hb ⊢
        clear hw2
        obtain ⟨⟨c0, c1⟩, d0, d1⟩ := boxTD hb
        by_cases hlk : k < ll.length
        · have z2 : (k : Int) < (ll.length : Int) := by omega
          have HC := Lib.hid (HK.out i k w2 (HB2.out.trans (hb.mono HB2.out.size)) hlt hlk)
          obtain ⟨X, hX, hX32⟩ := HTN.out i k
          have hbad : badB c.toNat ll m L R i k = ((bits .and .i64 (X : Int) (L : Int) == (L : Int)) && !bitB X R) := by
            unfold badB agB; rw [hX]; rfl
          rw [hX] at HC
          have HBZ := Lib.hid (bit_zero X R)
          have HB := Lib.hid hb
          clear hX hb
          cases h1 : (bits .and .i64 (X : Int) (L : Int) == (L : Int)) with
          | false =>
            have HBF : Hid (badB c.toNat ll m L R i k = false) := Lib.hid (by rw [hbad, h1]; rfl)
            clear hbad
            go_wp2_with fail
            refine HC.out.mono ?_
            rintro e w3 ⟨rfl, b3⟩
            have hb3 := HB.out.trans (b3.mono HB.out.size)
            clear b3 c0 c1 d0 d1
            obtain ⟨⟨c0, c1⟩, d0, d1⟩ := boxTD hb3
            go_wp2_with fail
            go_roundw
            case rel => exact ⟨k + 1, by omega, by omega, by go_num, Lib.hid (fun k' g1 g2 => by
              by_cases e : k' = k
              · rw [e]; exact HBF.out
              · exact HNK.out k' g1 (by omega)), hb3⟩
            case measure => simp [intOf]; omega
          | true =>
            cases h2 : bitB X R with
            | true =>
              have HBF : Hid (badB c.toNat ll m L R i k = false) := Lib.hid (by rw [hbad, h2]; simp)
              rw [h2] at HBZ
              have h3 := HBZ.out
              rw [show (!true) = false from rfl] at h3
              clear hbad h2 HBZ
              go_wp2_with fail
              refine HC.out.mono ?_
              rintro e w3 ⟨rfl, b3⟩
              have hb3 := HB.out.trans (b3.mono HB.out.size)
              clear b3 c0 c1 d0 d1
              obtain ⟨⟨c0, c1⟩, d0, d1⟩ := boxTD hb3
              go_wp2_with fail
              go_roundw
              case rel => exact ⟨k + 1, by omega, by omega, by go_num, Lib.hid (fun k' g1 g2 => by
                by_cases e : k' = k
                · rw [e]; exact HBF.out
                · exact HNK.out k' g1 (by omega)), hb3⟩
              case measure => simp [intOf]; omega
            | false =>
              have HP := Lib.hid (HEQ.out (i : Int) (k : Int) (.inr ⟨i, k, rfl, rfl, hik, hlk, by rw [hbad, h1, h2]; rfl, HNO.out, HNK.out⟩))
              rw [h2] at HBZ
              have h3 := HBZ.out
              rw [show (!false) = true from rfl] at h3
              clear hbad h2 HBZ
              go_wp2_with fail
              refine HC.out.mono ?_
              rintro e w3 ⟨rfl, b3⟩
              have hb3 := HB.out.trans (b3.mono HB.out.size)
              have hb4 := HB2.out.trans (hb3.mono HB2.out.size)
              clear b3 c0 c1 d0 d1
              obtain ⟨⟨c0, c1⟩, d0, d1⟩ := boxTD hb3
              go_wp2_with fail
              go_ret2
              exact ⟨by rw [HP.out]; rfl, hb4⟩
        · obtain rfl : k = ll.length := by omega
          go_wp2_with fail
          go_roundw
          case rel => exact ⟨i + 1, by omega, by go_num, Lib.hid (fun i' k' g1 g2 g3 => by
            by_cases e : i' = i
            · rw [e] at g2 ⊢; exact HNK.out k' g2 g3
            · exact HNO.out i' k' (by omega) g2 g3), hb⟩
          case measure => simp [intOf]; omega
    · obtain rfl : i = ll.length := by omega
      have HP := Lib.hid (HEQ.out (-1) (-1) (.inl ⟨rfl, rfl, fun i k g1 g2 => HNO.out i k (by omega) g1 g2⟩))
      have hb4 := HB2.out.trans (hb.mono HB2.out.size)
      go_wp2_with fail
      go_ret2
      exact ⟨by rw [HP.out]; rfl, hb4⟩
end Go.Proofs.YtnbjcelfdppkcadGreat
namespace Go.Proofs.YtnbjcelfdppkcadGreat
open Go.RowKit

/-- The cells of a list of dependencies. -/
def depsV : List (Int × Int) → List Value
  | [] => []
  | d :: t => .int .i64 d.1 :: .int .i64 d.2 :: depsV t
theorem depsV_len : ∀ ds : List (Int × Int), (depsV ds).length = ds.length * 2
  | [] => rfl
  | d :: t => by simp only [depsV, List.length_cons, depsV_len t]; omega
theorem depsV_get : ∀ (ds : List (Int × Int)) (i : Nat), i < ds.length → (depsV ds)[i * 2]? = some (.int .i64 (ds.getD i (0, 0)).1) ∧ (depsV ds)[i * 2 + 1]? = some (.int .i64 (ds.getD i (0, 0)).2)
  | [], i, h => absurd h (Nat.not_lt_zero _)
  | d :: t, 0, _ => ⟨rfl, rfl⟩
  | d :: t, i + 1, h => by
    have ih := depsV_get t i (by simpa using h)
    rw [show (i + 1) * 2 = i * 2 + 1 + 1 by omega]
    simpa [depsV] using ih
theorem depsV_set : ∀ (ds : List (Int × Int)) (i : Nat) (a b : Int), ((depsV ds).set (i * 2) (.int .i64 a)).set (i * 2 + 1) (.int .i64 b) = depsV (ds.set i (a, b))
  | [], i, a, b => by simp [depsV]
  | d :: t, 0, a, b => rfl
  | d :: t, i + 1, a, b => by
    have ih := depsV_set t i a b
    rw [show (i + 1) * 2 = i * 2 + 1 + 1 by omega]
    simp only [depsV, List.set_cons_succ]
    rw [ih]
/-- A slice of dependencies that the call owns. -/
def OwnD (w : World) (B : Nat) (v : Value) (ds : List (Int × Int)) : Prop := w.ownsRow B 35 2 v ds.length (depsV ds)
theorem infoDp : (Tryz.prog.info? 35).map (fun i => (i.zero, i.size, i.bytes)) = some (some (.agg #[.int .i64 0, .int .i64 0]), 2, 16) := by kernel_rfl
theorem OwnD.read {w : World} {B : Nat} {v : Value} {ds : List (Int × Int)} (h : OwnD w B v ds) : ReadD w v ds := by
  rcases h.2 with ⟨rfl, h0⟩ | ⟨g, cap, cur, rfl, hB, hgg, rest⟩
  · exact ⟨none, 0, by rw [h0], fun i hi => by omega⟩
  · refine ⟨_, cap, rfl, fun i hi => ⟨g, 0, rfl, ?_, ?_⟩⟩
    · rw [Nat.zero_add, World.ownsRow.cellAt h (i * 2) (by omega), (depsV_get ds i hi).1]
    · rw [Nat.zero_add, World.ownsRow.cellAt h (i * 2 + 1) (by omega), (depsV_get ds i hi).2]
theorem ReadD.kept {w w' : World} {v : Value} {ds : List (Int × Int)} (h : ReadD w v ds) (hb : Below w.heap.size w w') : ReadD w' v ds := by
  obtain ⟨a, cap, hv, hc⟩ := h
  refine ⟨a, cap, hv, fun i hi => ?_⟩
  obtain ⟨b, o, ha, h0, h1⟩ := hc i hi
  exact ⟨b, o, ha, (hb.cell (World.block_lt_of_cell? w _ h0)).trans h0, (hb.cell (World.block_lt_of_cell? w _ h1)).trans h1⟩
theorem OwnD.lt {w : World} {B : Nat} {v : Value} {ds : List (Int × Int)} (h : OwnD w B v ds) : ∀ k, v.ownBlock = some k → B ≤ k ∧ k < w.heap.size := World.ownsRow.lt h
theorem OwnD.below {w w' : World} {B C : Nat} {v : Value} {ds : List (Int × Int)} (h : OwnD w B v ds) (hb : Below C w w') (hC : ∀ k, v.ownBlock = some k → k < C) : OwnD w' B v ds := by
  refine ⟨h.1, ?_⟩
  rcases h.2 with hn | ⟨g, cap, cur, rfl, hB, hgg, rest⟩
  · exact .inl hn
  · exact .inr ⟨g, cap, cur, rfl, hB, (hb.block g (hC g rfl)).trans hgg, rest⟩
theorem OwnD.store {w : World} {B g cap n : Nat} {ds : List (Int × Int)} (h : OwnD w B (.slice (some ⟨g, 0, none⟩) n cap) ds) (i : Nat) (a b : Int) : OwnD ((w.setCell ⟨g, i * 2, none⟩ (.int .i64 a)).setCell ⟨g, i * 2 + 1, none⟩ (.int .i64 b)) B (.slice (some ⟨g, 0, none⟩) n cap) (ds.set i (a, b)) := by
  have hn : n = ds.length := by rcases h.2 with ⟨h', _⟩ | ⟨g', cap', cur, h', _⟩ <;> simp at h'; omega
  subst hn
  have h1 := (World.ownsRow.stored (World.ownsRow.stored h (i * 2) (.int .i64 a)).1 (i * 2 + 1) (.int .i64 b)).1
  rw [depsV_set] at h1
  unfold OwnD
  rw [List.length_set]; exact h1
theorem depsV_zero : ∀ n : Nat, depsV (List.replicate n (0, 0)) = List.replicate (n * 2) (.int .i64 0)
  | 0 => rfl
  | n + 1 => by
    rw [show (n + 1) * 2 = n * 2 + 1 + 1 by omega, List.replicate_succ, List.replicate_succ, List.replicate_succ, depsV, depsV_zero n]
theorem made_deps (n : Nat) : (madeCells (Value.cells (.agg #[.int .i64 0, .int .i64 0])) (n * 2)).toList = depsV (List.replicate n (0, 0)) := by
  rw [depsV_zero]
  unfold madeCells
  apply List.ext_getElem
  · simp
  · intro i h1 h2
    simp only [Array.toList_map, List.getElem_map, List.getElem_replicate, Array.getElem_toList, Array.getElem_range]
    show (#[Value.int .i64 0, Value.int .i64 0])[i % 2]! = _
    rcases (show i % 2 = 0 ∨ i % 2 = 1 by omega) with h | h <;> rw [h] <;> rfl
theorem OwnD.full {w : World} {B : Nat} {v : Value} {n : Nat} (h : w.ownsRow B 35 2 v n (madeCells (Value.cells (.agg #[.int .i64 0, .int .i64 0])) (n * 2)).toList) : OwnD w B v (List.replicate n (0, 0)) := by
  unfold OwnD
  rw [List.length_replicate, ← made_deps]; exact h
/-- A slice of dependencies of the call's own. -/
def RetD (ds : List (Int × Int)) (w : World) (e : Ending) (w' : World) : Prop := ∃ v, e = .returned v ∧ OwnD w' w.heap.size v ds ∧ Below w.heap.size w w'
/-- What a region of two lists' places holds on to. -/
theorem keep4 {w3 w' w'' : World} {p0 p1 p2 p3 : Addr} {v0 v1 v2 v3 : Value} (h : w'.cell? p0 = some v0 ∧ w'.cell? p1 = some v1 ∧ w'.cell? p2 = some v2 ∧ w'.cell? p3 = some v3 ∧ Below w3.heap.size w3 w') (b : Below w'.heap.size w' w'') :
    w''.cell? p0 = some v0 ∧ w''.cell? p1 = some v1 ∧ w''.cell? p2 = some v2 ∧ w''.cell? p3 = some v3 ∧ Below w3.heap.size w3 w'' :=
  ⟨(b.cell (World.block_lt_of_cell? _ _ h.1)).trans h.1, (b.cell (World.block_lt_of_cell? _ _ h.2.1)).trans h.2.1, (b.cell (World.block_lt_of_cell? _ _ h.2.2.1)).trans h.2.2.1, (b.cell (World.block_lt_of_cell? _ _ h.2.2.2.1)).trans h.2.2.2.1, h.2.2.2.2.trans (b.mono h.2.2.2.2.size)⟩
theorem below4 {w3 w' : World} {p0 p1 p2 p3 : Addr} {v0 v1 v2 v3 : Value} (h : w'.cell? p0 = some v0 ∧ w'.cell? p1 = some v1 ∧ w'.cell? p2 = some v2 ∧ w'.cell? p3 = some v3 ∧ Below w3.heap.size w3 w') : Below w3.heap.size w3 w' := h.2.2.2.2
theorem dep_box2 (w : World) (T T' : TypeId) (a b l r : Value) : (((w.alloc (.cells #[a, b] T)).alloc (.cells #[l, r] T')).cell? ⟨w.heap.size, 0, none⟩ = some a ∧ ((w.alloc (.cells #[a, b] T)).alloc (.cells #[l, r] T')).cell? ⟨w.heap.size, 1, none⟩ = some b) ∧ ((w.alloc (.cells #[a, b] T)).alloc (.cells #[l, r] T')).cell? ⟨w.heap.size + 1, 0, none⟩ = some l ∧ ((w.alloc (.cells #[a, b] T)).alloc (.cells #[l, r] T')).cell? ⟨w.heap.size + 1, 1, none⟩ = some r := boxTD (Below.refl _ _)
end Go.Proofs.YtnbjcelfdppkcadGreat
namespace Go.Proofs.YtnbjcelfdppkcadGreat
open Go.RowKit

theorem depsV_append (a b : List (Int × Int)) : depsV (a ++ b) = depsV a ++ depsV b := by
  induction a with
  | nil => rfl
  | cons x t ih => simp [depsV, ih]
theorem cell_two_new (w : World) (x y : Value) (t : TypeId) : ∀ j u, [x, y][j]? = some u → (w.alloc (.cells #[x, y] t)).cell? ((⟨w.heap.size, 0, none⟩ : Addr).add j) = some u := by
  intro j u hj
  match j, hj with
  | 0, hj =>
    simp at hj
    subst hj
    simp [Addr.add]
  | 1, hj =>
    simp at hj
    subst hj
    simp [Addr.add]
theorem two_i64 (x y : Int) : ∀ u ∈ [Value.int .i64 x, Value.int .i64 y], u.oneCell' = true := by
  intro u hu
  simp at hu
  rcases hu with rfl | rfl <;> rfl
theorem OwnD.nil (w : World) (B : Nat) : OwnD w B (.slice .none 0 0) [] := World.ownsRow_nil _ _ _ _
theorem OwnD.snoc {w : World} {B : Nat} {v : Value} {ds : List (Int × Int)} {x y : Int} (h : w.ownsRow B 35 2 v (ds.length + 1) (depsV ds ++ [.int .i64 x, .int .i64 y])) : OwnD w B v (ds ++ [(x, y)]) := by
  unfold OwnD
  rw [List.length_append, List.length_singleton, depsV_append]; exact h
theorem OwnD.base {w : World} {B B' : Nat} {v : Value} {ds : List (Int × Int)} (h : OwnD w B v ds) (hB : B' ≤ B) : OwnD w B' v ds := by
  refine ⟨h.1, ?_⟩
  rcases h.2 with hn | ⟨g, cap, cur, rfl, hb, rest⟩
  · exact .inl hn
  · exact .inr ⟨g, cap, cur, rfl, by omega, rest⟩
theorem OwnD.shape {w : World} {B : Nat} {v : Value} {ds : List (Int × Int)} (h : OwnD w B v ds) : ∃ a c, v = .slice a ds.length c := by
  rcases h.2 with ⟨rfl, h0⟩ | ⟨g, cap, cur, rfl, -⟩
  · exact ⟨_, _, by rw [h0]⟩
  · exact ⟨_, _, rfl⟩
/-- Blocks of rows of dependencies and blocks of rows of ints differ. -/
theorem dep_apart {w : World} {B B' : Nat} {v v' : Value} {n : Nat} {xs : List Value} {l : List Int} (h : w.ownsRow B 35 2 v n xs) (h' : OwnI w B' v' l) : ∀ g, v.ownBlock = some g → v'.ownBlock ≠ some g := by
  intro g hg hg'
  rcases h.2 with ⟨rfl, _⟩ | ⟨g1, cap, cur, rfl, hB, hgg, rest⟩
  · cases hg
  · rcases h'.2 with ⟨rfl, _⟩ | ⟨g2, cap2, cur2, rfl, hB2, hgg2, rest2⟩
    · cases hg'
    · simp [Value.ownBlock] at hg hg'
      subst hg hg'
      rw [hgg] at hgg2
      simp at hgg2
theorem one_at (w : World) (T : TypeId) (a : Value) : (w.alloc (.cells #[a] T)).cell? ⟨w.heap.size, 0, none⟩ = some a := World.cell?_alloc_mark w #[a] T (0, 0) 0
/-- A cell of a block that no row from B on holds is as it was, when a row grew. -/
theorem kept_cell {w w' : World} {row : Option Nat} {B : Nat} {p : Addr} (hg : w.grownBy w' row) (hB : ∀ g, row = some g → B < g) (hp : p.block < w.heap.size) (hlt : p.block ≤ B) : w'.cell? p = w.cell? p :=
  World.cell?_of_block (hg.block p.block hp (fun e => by have := hB p.block e.symm; omega))
end Go.Proofs.YtnbjcelfdppkcadGreat
