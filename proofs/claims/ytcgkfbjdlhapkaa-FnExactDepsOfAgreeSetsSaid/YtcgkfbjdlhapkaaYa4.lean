/- Texts of this claim, merged: ParB, ParC. Conditions: as stated. -/
import Derived.Test.YtcgkfbjdlhapkaaYa3
import Derived.Deep.AppendLies
namespace Go.Proofs.Ytcgkfbjdlhapkaa
open Go.RowKit

/-- The rows of the first i classes. -/
def flatTo (p : List (List Int)) (i : Nat) : List Int := (p.take i).flatten
theorem flatTo_succ (p : List (List Int)) (i : Nat) (h : i < p.length) : flatTo p (i + 1) = flatTo p i ++ p.getD i [] := by
  unfold flatTo; rw [take_succ_getD p [] i h]; simp
theorem flatTo_len (p : List (List Int)) (i : Nat) : (flatTo p i).length = tot (p.take i) := by
  unfold flatTo tot; rw [List.length_flatten]
theorem flatTo_bd (p : List (List Int)) (i k : Nat) (h : i < p.length) (hk : k ≤ (p.getD i []).length) : (flatTo p i ++ (p.getD i []).take k).length ≤ tot p := by
  have h1 := tot_succ h
  have h2 := tot_take p (i + 1)
  rw [List.length_append, flatTo_len, List.length_take]
  omega
/-- The first row of the class before class i, or -1. -/
def lastTo (p : List (List Int)) : Nat → Int
  | 0 => -1
  | i + 1 => (p.getD i []).getD 0 0
/-- Row k of class i is as it should be. -/
def okX (R : Int) (p : List (List Int)) (i k : Nat) : Bool :=
  decide (0 ≤ (p.getD i []).getD k 0 ∧ (p.getD i []).getD k 0 ≤ R) && !(decide (0 < k) && decide ((p.getD i []).getD k 0 ≤ (p.getD i []).getD (k - 1) 0)) && !decide ((p.getD i []).getD k 0 ∈ flatTo p i ++ (p.getD i []).take k)
def okC (R : Int) (p : List (List Int)) (i : Nat) : Bool :=
  decide (2 ≤ (p.getD i []).length ∧ lastTo p i < (p.getD i []).getD 0 0) && (List.range (p.getD i []).length).all (okX R p i)
def partP (p : List (List Int)) (rows : Int) : Bool := (List.range p.length).all (okC (IntKind.i64.wrap (rows - 1)) p) && decide (0 ≤ rows ∧ rows ≤ 40)
theorem partP_no {p : List (List Int)} {rows : Int} {i : Nat} (hi : i < p.length) (h : okC (IntKind.i64.wrap (rows - 1)) p i = false) : partP p rows = false := by
  unfold partP
  have : (List.range p.length).all (okC (IntKind.i64.wrap (rows - 1)) p) = false := by
    rw [List.all_eq_false]; exact ⟨i, List.mem_range.mpr hi, by rw [h]; simp⟩
  rw [this]; rfl
theorem okC_no {R : Int} {p : List (List Int)} {i k : Nat} (hk : k < (p.getD i []).length) (h : okX R p i k = false) : okC R p i = false := by
  unfold okC
  have : (List.range (p.getD i []).length).all (okX R p i) = false := by
    rw [List.all_eq_false]; exact ⟨k, List.mem_range.mpr hk, by rw [h]; simp⟩
  rw [this]; simp
theorem okC_yes {R : Int} {p : List (List Int)} {i : Nat} (h1 : 2 ≤ (p.getD i []).length) (h2 : lastTo p i < (p.getD i []).getD 0 0) (h : ∀ k, k < (p.getD i []).length → okX R p i k = true) : okC R p i = true := by
  unfold okC
  rw [decide_eq_true (And.intro h1 h2), Bool.true_and, List.all_eq_true]
  exact fun k hk => h k (List.mem_range.mp hk)
theorem partP_yes {p : List (List Int)} {rows : Int} (h : ∀ i, i < p.length → okC (IntKind.i64.wrap (rows - 1)) p i = true) : partP p rows = decide (0 ≤ rows ∧ rows ≤ 40) := by
  unfold partP
  have : (List.range p.length).all (okC (IntKind.i64.wrap (rows - 1)) p) = true := by
    rw [List.all_eq_true]; exact fun i hi => h i (List.mem_range.mp hi)
  rw [this, Bool.true_and]
end Go.Proofs.Ytcgkfbjdlhapkaa
namespace Go.Proofs.Ytcgkfbjdlhapkaa
open Go.RowKit

theorem ownsRow_same {w w' : World} {B n : Nat} {E : TypeId} {v : Value} {xs : List Value} (h : w.ownsRow B E 1 v n xs) (hs : ∀ g, v.ownBlock = some g → w'.heap[g]? = w.heap[g]?) : w'.ownsRow B E 1 v n xs := by
  refine ⟨h.1, ?_⟩
  rcases h.2 with hn | ⟨g, cap, cur, rfl, hB, hg, rest⟩
  · exact Or.inl hn
  · exact Or.inr ⟨g, cap, cur, rfl, hB, (hs g rfl).trans hg, rest⟩
/-- A list of rows that the call owns, and beside it a row of its own that is none of them. -/
def OwnSD (w : World) (B C : Nat) (v : Value) (ll : List (List Int)) (dv : Value) (dl : List Int) : Prop :=
  ∃ V : Nat → Value, w.ownsRow B 24 1 v ll.length ((List.range ll.length).map V) ∧ (∀ g, v.ownBlock = some g → g < C) ∧
    (∀ i, i < ll.length → OwnI w B (V i) (ll.getD i []) ∧ ∀ g, (V i).ownBlock = some g → g < C) ∧
    (∀ i j, i < j → j < ll.length → ∀ g, (V i).ownBlock = some g → (V j).ownBlock ≠ some g) ∧
    OwnI w B dv dl ∧ (∀ g, dv.ownBlock = some g → g < C) ∧ (∀ i, i < ll.length → ∀ g, (V i).ownBlock = some g → dv.ownBlock ≠ some g)
theorem OwnSD.ss {w : World} {B C : Nat} {v dv : Value} {ll : List (List Int)} {dl : List Int} (h : OwnSD w B C v ll dv dl) : OwnSS w B C v ll := by
  obtain ⟨V, h1, h2, h3, h4, -⟩ := h
  exact ⟨V, h1, h2, h3, h4⟩
theorem OwnSD.done {w : World} {B C : Nat} {v dv : Value} {ll : List (List Int)} {dl : List Int} (h : OwnSD w B C v ll dv dl) : OwnI w B dv dl := by
  obtain ⟨V, -, -, -, -, h5, -⟩ := h
  exact h5
theorem OwnSD.base {w : World} {B C C' : Nat} {v dv : Value} {ll : List (List Int)} {dl : List Int} (h : OwnSD w B C v ll dv dl) (hC : C ≤ C') : OwnSD w B C' v ll dv dl := by
  obtain ⟨V, h1, h2, h3, h4, h5, h6, h7⟩ := h
  exact ⟨V, h1, fun g hg => Nat.lt_of_lt_of_le (h2 g hg) hC, fun i hi => ⟨(h3 i hi).1, fun g hg => Nat.lt_of_lt_of_le ((h3 i hi).2 g hg) hC⟩, h4, h5, fun g hg => Nat.lt_of_lt_of_le (h6 g hg) hC, h7⟩
theorem OwnSD.same {w w' : World} {B C : Nat} {v dv : Value} {ll : List (List Int)} {dl : List Int} (h : OwnSD w B C v ll dv dl) (hs : Same B C w w') : OwnSD w' B C v ll dv dl := by
  obtain ⟨V, h1, h2, h3, h4, h5, h6, h7⟩ := h
  exact ⟨V, ownsRow_same h1 fun g hg => hs g (World.ownsRow.lt h1 g hg).1 (h2 g hg), h2, fun i hi => ⟨(h3 i hi).1.same fun g hg => hs g ((h3 i hi).1.lt g hg).1 ((h3 i hi).2 g hg), (h3 i hi).2⟩, h4, h5.same fun g hg => hs g (h5.lt g hg).1 (h6 g hg), h6, h7⟩
/-- One more row. -/
theorem OwnSD.snoc {w w' : World} {B C C' : Nat} {v v' u dv : Value} {ll : List (List Int)} {l dl : List Int} {V : Nat → Value} (o1 : w.ownsRow B 24 1 v ll.length ((List.range ll.length).map V))
    (o3 : ∀ i, i < ll.length → OwnI w B (V i) (ll.getD i []) ∧ ∀ g, (V i).ownBlock = some g → g < C) (o4 : ∀ i j, i < j → j < ll.length → ∀ g, (V i).ownBlock = some g → (V j).ownBlock ≠ some g)
    (o5 : OwnI w B dv dl) (o6 : ∀ g, dv.ownBlock = some g → g < C) (o7 : ∀ i, i < ll.length → ∀ g, (V i).ownBlock = some g → dv.ownBlock ≠ some g)
    (hu : OwnI w B u l) (huC : ∀ g, u.ownBlock = some g → C ≤ g ∧ g < C')
    (h1 : w'.ownsRow B 24 1 v' (ll.length + 1) ((List.range ll.length).map V ++ [u])) (hg : w.grownBy w' v.ownBlock) (hC : C ≤ C') (hv' : ∀ g, v'.ownBlock = some g → g < C') : OwnSD w' B C' v' (ll ++ [l]) dv dl := by
  have hap : ∀ i, i < ll.length → ∀ g, v.ownBlock = some g → (V i).ownBlock ≠ some g := fun i hi => row_apart o1 (o3 i hi).1
  have hapu : ∀ g, v.ownBlock = some g → u.ownBlock ≠ some g := row_apart o1 hu
  have hapd : ∀ g, v.ownBlock = some g → dv.ownBlock ≠ some g := row_apart o1 o5
  refine ⟨fun i => if i < ll.length then V i else u, ?_, hv', fun i hi => ?_, fun i j hij hj g => ?_, o5.keptBy hg hapd, fun g hg => Nat.lt_of_lt_of_le (o6 g hg) hC, fun i hi g => ?_⟩
  · have e : (List.range (ll ++ [l]).length).map (fun i => if i < ll.length then V i else u) = (List.range ll.length).map V ++ [u] := by
      rw [List.length_append, List.length_singleton, List.range_succ, List.map_append]
      congr 1
      · apply List.map_congr_left; intro i hi; rw [List.mem_range] at hi; simp [hi]
      · simp
    rw [e, List.length_append]; exact h1
  · rw [List.length_append, List.length_singleton] at hi
    rw [getD_snoc _ _ _ _ hi]
    by_cases hlt : i < ll.length
    · simp only [hlt, if_true]
      exact ⟨(o3 i hlt).1.keptBy hg (fun g hg => hap i hlt g hg), fun g hgg => Nat.lt_of_lt_of_le ((o3 i hlt).2 g hgg) hC⟩
    · simp only [hlt, if_false]
      exact ⟨hu.keptBy hg hapu, fun g hgg => (huC g hgg).2⟩
  · rw [List.length_append, List.length_singleton] at hj
    have hi : i < ll.length := by omega
    simp only [hi, if_true]
    by_cases hlt : j < ll.length
    · simp only [hlt, if_true]; exact o4 i j hij hlt g
    · simp only [hlt, if_false]
      intro a b
      have := (o3 i hi).2 g a
      have := (huC g b).1
      omega
  · by_cases hlt : i < ll.length
    · simp only [hlt, if_true]; exact o7 i hlt g
    · simp only [hlt, if_false]
      intro a b
      have := (huC g a).1
      have := o6 g b
      omega
/-- The row beside has grown. -/
theorem OwnSD.grow {w w' : World} {B : Nat} {v dv dv' : Value} {ll : List (List Int)} {dl dl' : List Int} (h : OwnSD w B w.heap.size v ll dv dl) (hd : OwnI w' B dv' dl') (hg : w.grownBy w' dv.ownBlock) (hor : ∀ g, dv'.ownBlock = some g → dv.ownBlock = some g ∨ g = w.heap.size) : OwnSD w' B w'.heap.size v ll dv' dl' := by
  obtain ⟨V, h1, h2, h3, h4, h5, h6, h7⟩ := h
  have hap : ∀ g, v.ownBlock = some g → dv.ownBlock ≠ some g := row_apart h1 h5
  refine ⟨V, ownsRow_same h1 fun g hgv => hg.block g (h2 g hgv) (fun e => hap g hgv e.symm), fun g hgv => Nat.lt_of_lt_of_le (h2 g hgv) hg.size, fun i hi => ⟨(h3 i hi).1.same fun g hgv => hg.block g ((h3 i hi).2 g hgv) (fun e => h7 i hi g hgv e.symm), fun g hgv => Nat.lt_of_lt_of_le ((h3 i hi).2 g hgv) hg.size⟩, h4, hd, fun g hgv => (hd.lt g hgv).2, fun i hi g hgv e => ?_⟩
  rcases hor g e with h | h
  · exact h7 i hi g hgv h
  · have := (h3 i hi).2 g hgv; omega

/-- Two rows agree in all of the set. -/
def agB (c : Nat) (ll : List (List Int)) (m s : Int) (i k : Nat) : Bool := bits .and .i64 (agrTo m (ll.getD i []) (ll.getD k []) c) s == s
/-- Row i and those of the n rows behind it that agree with it. -/
def rowsC (c : Nat) (ll : List (List Int)) (m s : Int) (i : Nat) : Nat → List Int
  | 0 => [(i : Int)]
  | n + 1 => if agB c ll m s i (i + 1 + n) = true then rowsC c ll m s i n ++ [((i + 1 + n : Nat) : Int)] else rowsC c ll m s i n
def clsC (c : Nat) (ll : List (List Int)) (m s : Int) (i : Nat) : List Int := rowsC c ll m s i (ll.length - (i + 1))
/-- The classes and the rows that are done, after i rows. -/
def clSt (c : Nat) (ll : List (List Int)) (m s : Int) : Nat → List (List Int) × List Int
  | 0 => ([], [])
  | i + 1 => if (i : Int) ∈ (clSt c ll m s i).2 then clSt c ll m s i else if 1 < (clsC c ll m s i).length then ((clSt c ll m s i).1 ++ [clsC c ll m s i], (clSt c ll m s i).2 ++ clsC c ll m s i) else clSt c ll m s i
theorem rowsC_len (c : Nat) (ll : List (List Int)) (m s : Int) (i : Nat) : ∀ n, (rowsC c ll m s i n).length ≤ n + 1
  | 0 => by simp [rowsC]
  | n + 1 => by
    have := rowsC_len c ll m s i n
    unfold rowsC
    split
    · simp; omega
    · omega
theorem clsC_len (c : Nat) (ll : List (List Int)) (m s : Int) (i : Nat) (hi : i < ll.length) : (clsC c ll m s i).length ≤ ll.length := by
  have := rowsC_len c ll m s i (ll.length - (i + 1)); unfold clsC; omega
theorem clSt_len (c : Nat) (ll : List (List Int)) (m s : Int) : ∀ i, i ≤ ll.length → (clSt c ll m s i).1.length ≤ i ∧ (clSt c ll m s i).2.length ≤ ll.length * i
  | 0, _ => by simp [clSt]
  | i + 1, hi => by
    have ih := clSt_len c ll m s i (by omega)
    have h := clsC_len c ll m s i (by omega)
    have e : ll.length * (i + 1) = ll.length * i + ll.length := by rw [Nat.mul_add, Nat.mul_one]
    unfold clSt
    split
    · omega
    · split
      · simp; omega
      · omega
end Go.Proofs.Ytcgkfbjdlhapkaa
