/- Texts of this claim, merged: ParE, RowsOpen, SSLaw, ParG, ParH. Conditions: as stated. -/
import Derived.Test.YtnbjcelfdppkcadGreatParDm
import Derived.Test.YtnbjcelfdppkcadGreatXz3
import Derived.Deep.Matrix
namespace Go.Proofs.YtnbjcelfdppkcadGreat
open Go.RowKit

/-- The row beside has grown; the rows are still below C. -/
theorem OwnSD.growE {w w' : World} {B C : Nat} {v dv dv' : Value} {ll : List (List Int)} {dl : List Int} (h : OwnSD w B C v ll dv dl) (hC : C ≤ w.heap.size) (hg : w.grownBy w' dv.ownBlock) (hor : ∀ g, dv'.ownBlock = some g → dv.ownBlock = some g ∨ g = w.heap.size) :
    ∃ V : Nat → Value, w'.ownsRow B 40 1 v ll.length ((List.range ll.length).map V) ∧ (∀ i, i < ll.length → OwnI w' B (V i) (ll.getD i []) ∧ ∀ g, (V i).ownBlock = some g → g < C) ∧
      (∀ i j, i < j → j < ll.length → ∀ g, (V i).ownBlock = some g → (V j).ownBlock ≠ some g) ∧ (∀ i, i < ll.length → ∀ g, (V i).ownBlock = some g → dv'.ownBlock ≠ some g) := by
  obtain ⟨V, h1, h2, h3, h4, h5, h6, h7⟩ := h
  have hap : ∀ g, v.ownBlock = some g → dv.ownBlock ≠ some g := row_apart h1 h5
  refine ⟨V, ownsRow_same h1 fun g hgv => hg.block g (by have := h2 g hgv; omega) (fun e => hap g hgv e.symm), fun i hi => ⟨(h3 i hi).1.same fun g hgv => hg.block g (by have := (h3 i hi).2 g hgv; omega) (fun e => h7 i hi g hgv e.symm), (h3 i hi).2⟩, h4, fun i hi g hgv e => ?_⟩
  rcases hor g e with h | h
  · exact h7 i hi g hgv h
  · have := (h3 i hi).2 g hgv; omega
/-- One more row, which is neither below C nor the one beside. -/
theorem OwnSD.snoc2 {w w' : World} {B C C' : Nat} {v v' u dv : Value} {ll : List (List Int)} {l dl : List Int} {V : Nat → Value} (o1 : w.ownsRow B 40 1 v ll.length ((List.range ll.length).map V))
    (o3 : ∀ i, i < ll.length → OwnI w B (V i) (ll.getD i []) ∧ ∀ g, (V i).ownBlock = some g → g < C) (o4 : ∀ i j, i < j → j < ll.length → ∀ g, (V i).ownBlock = some g → (V j).ownBlock ≠ some g)
    (o5 : OwnI w B dv dl) (o6 : ∀ g, dv.ownBlock = some g → g < C') (o7 : ∀ i, i < ll.length → ∀ g, (V i).ownBlock = some g → dv.ownBlock ≠ some g)
    (hu : OwnI w B u l) (huC : ∀ g, u.ownBlock = some g → C ≤ g ∧ g < C') (hud : ∀ g, u.ownBlock = some g → dv.ownBlock ≠ some g)
    (h1 : w'.ownsRow B 40 1 v' (ll.length + 1) ((List.range ll.length).map V ++ [u])) (hg : w.grownBy w' v.ownBlock) (hC : C ≤ C') (hv' : ∀ g, v'.ownBlock = some g → g < C') : OwnSD w' B C' v' (ll ++ [l]) dv dl := by
  have hap : ∀ i, i < ll.length → ∀ g, v.ownBlock = some g → (V i).ownBlock ≠ some g := fun i hi => row_apart o1 (o3 i hi).1
  have hapu : ∀ g, v.ownBlock = some g → u.ownBlock ≠ some g := row_apart o1 hu
  have hapd : ∀ g, v.ownBlock = some g → dv.ownBlock ≠ some g := row_apart o1 o5
  refine ⟨fun i => if i < ll.length then V i else u, ?_, hv', fun i hi => ?_, fun i j hij hj g => ?_, o5.keptBy hg hapd, o6, fun i hi g => ?_⟩
  · have e : (List.range (ll ++ [l]).length).map (fun i => if i < ll.length then V i else u) = (List.range ll.length).map V ++ [u] := by
      rw [List.length_append, List.length_singleton, List.range_succ, List.map_append]
      congr 1
      · apply List.map_congr_left; intro i hi; rw [List.mem_range] at hi; simp [hi]
      · simp
    rw [e, List.length_append]; exact h1
  · rw [List.length_append, List.length_singleton] at hi
    rw [getD_snoc _ _ _ _ hi]
    by_cases hlt : i < ll.length
    · simp only [hlt, if_true]
      exact ⟨(o3 i hlt).1.keptBy hg (fun g hg => hap i hlt g hg), fun g hgg => Nat.lt_of_lt_of_le ((o3 i hlt).2 g hgg) hC⟩
    · simp only [hlt, if_false]
      exact ⟨hu.keptBy hg hapu, fun g hgg => (huC g hgg).2⟩
  · rw [List.length_append, List.length_singleton] at hj
    have hi : i < ll.length := by omega
    simp only [hi, if_true]
    by_cases hlt : j < ll.length
    · simp only [hlt, if_true]; exact o4 i j hij hlt g
    · simp only [hlt, if_false]
      intro a b
      have := (o3 i hi).2 g a
      have := (huC g b).1
      omega
  · by_cases hlt : i < ll.length
    · simp only [hlt, if_true]; exact o7 i hlt g
    · simp only [hlt, if_false]
      exact hud g
theorem OwnSD.doneLt {w : World} {B C : Nat} {v dv : Value} {ll : List (List Int)} {dl : List Int} (h : OwnSD w B C v ll dv dl) : ∀ g, dv.ownBlock = some g → g < C := by
  obtain ⟨V, -, -, -, -, -, h6, -⟩ := h
  exact h6
theorem clsI_mem : ∀ (ll : List (List Int)) (x : Int), 0 ≤ clsI ll x → x ∈ ll.getD (clsI ll x).toNat []
  | [], _, h => by simp [clsI] at h
  | r :: t, x, h => by
    unfold clsI at h ⊢
    by_cases hr : x ∈ r
    · rw [if_pos hr]; exact hr
    · rw [if_neg hr] at h ⊢
      by_cases h2 : clsI t x < 0
      · rw [if_pos h2] at h; omega
      · rw [if_neg h2] at h ⊢
        have ih := clsI_mem t x (by omega)
        rw [show (clsI t x + 1).toNat = (clsI t x).toNat + 1 by omega]
        simpa using ih
/-- Those of the first k rows of class a of p that are in class b of q. -/
def prTo (p q : List (List Int)) (a b : Nat) (k : Nat) : List Int := ((p.getD a []).take k).filter fun x => decide (x ∈ q.getD b [])
def prC (p q : List (List Int)) (a b : Nat) : List Int := (p.getD a []).filter fun x => decide (x ∈ q.getD b [])
theorem prTo_succ (p q : List (List Int)) (a b k : Nat) (h : k < (p.getD a []).length) : prTo p q a b (k + 1) = if (p.getD a []).getD k 0 ∈ q.getD b [] then prTo p q a b k ++ [(p.getD a []).getD k 0] else prTo p q a b k := by
  unfold prTo
  rw [take_succ_getD (p.getD a []) 0 k h, List.filter_append]
  by_cases hm : (p.getD a []).getD k 0 ∈ q.getD b []
  · rw [if_pos hm, List.filter_cons, if_pos (decide_eq_true hm), List.filter_nil]
  · rw [if_neg hm, List.filter_cons, if_neg (by rw [decide_eq_true_eq]; exact hm), List.filter_nil, List.append_nil]
theorem prTo_all (p q : List (List Int)) (a b : Nat) : prTo p q a b (p.getD a []).length = prC p q a b := by unfold prTo prC; rw [List.take_length]
theorem prTo_len (p q : List (List Int)) (a b k : Nat) : (prTo p q a b k).length ≤ (p.getD a []).length := by
  unfold prTo
  have h1 := List.length_filter_le (fun x => decide (x ∈ q.getD b [])) ((p.getD a []).take k)
  rw [List.length_take] at h1; omega
/-- The classes and the rows that are done, after i rows. -/
def prSt (p q : List (List Int)) : Nat → List (List Int) × List Int
  | 0 => ([], [])
  | i + 1 => if clsI p i < 0 ∨ clsI q i < 0 ∨ (i : Int) ∈ (prSt p q i).2 then prSt p q i
    else (if 1 < (prC p q (clsI p i).toNat (clsI q i).toNat).length then (prSt p q i).1 ++ [prC p q (clsI p i).toNat (clsI q i).toNat] else (prSt p q i).1, (prSt p q i).2 ++ prC p q (clsI p i).toNat (clsI q i).toNat)
def proS (p q : List (List Int)) (rows : Int) : List (List Int) := if (partP p rows && partP q rows) = true then (prSt p q rows.toNat).1 else []
theorem prC_len (p q : List (List Int)) (i : Nat) (htot : tot p ≤ 1048576) (h : 0 ≤ clsI p i) : (prC p q (clsI p i).toNat (clsI q i).toNat).length ≤ 1048576 := by
  have h1 := prTo_len p q (clsI p i).toNat (clsI q i).toNat (p.getD (clsI p i).toNat []).length
  rw [prTo_all] at h1
  have h2 := clsI_ge p (i : Int)
  have h3 := tot_get (ll := p) (k := (clsI p i).toNat) (by omega)
  omega
theorem prSt_len (p q : List (List Int)) (htot : tot p ≤ 1048576) : ∀ i, (prSt p q i).1.length ≤ i ∧ (prSt p q i).2.length ≤ 1048576 * i
  | 0 => by simp [prSt]
  | i + 1 => by
    have ih := prSt_len p q htot i
    unfold prSt
    split
    · omega
    · rename_i h
      have h1 := prC_len p q i htot (by omega)
      simp only [List.length_append]
      refine ⟨?_, by omega⟩
      split
      · simp; omega
      · omega
theorem partP_rows {p : List (List Int)} {rows : Int} (h : partP p rows = true) : 0 ≤ rows ∧ rows ≤ 40 := by
  unfold partP at h
  simp only [Bool.and_eq_true, decide_eq_true_eq] at h
  exact h.2
end Go.Proofs.YtnbjcelfdppkcadGreat
namespace Go.Proofs.YtnbjcelfdppkcadGreat
open Go.ChangeShapes Go.WideShapes Go.RowKit Go.Deep

/-- All rows are integers. -/
def I64ss (p : List (List Int)) : Prop := ∀ i, i < p.length → ∀ x ∈ p.getD i [], -9223372036854775808 ≤ x ∧ x ≤ 9223372036854775807
section
variable {H : Type} {enc : TypeId × Value → H} {w : World} {base : Nat} {held : Bool}
theorem open_rows2 {fuel : Nat} {v : Value} {x : DataW H × List MemPlace} (h : DataW.trod enc Tryz.prog w base (fun _ => true) held fuel 27 [v] = some x) : ∃ ll, ReadSS w v ll ∧ Short ll ∧ I64ss ll := by
  rcases open_int_rows Tryz.underlying27 Tryz.underlying40 Tryz.underlying3 (by kernel_rfl) (by kernel_rfl) h with ⟨hcs, -⟩ | ⟨a, len, cap, A, L, C, Z, hcs, -, hl, hm, -, hr⟩
  · simp at hcs
    subst hcs
    exact ⟨[], ReadSS.nil _, ⟨Nat.zero_le _, fun i hi => absurd hi (Nat.not_lt_zero _)⟩, fun i hi => absurd hi (Nat.not_lt_zero _)⟩
  · simp at hcs
    subst hcs
    have hlen : ((List.range len).map fun r => (Z r).take (L r)).length = len := by simp
    have hget : ∀ i, i < len → ((List.range len).map fun r => (Z r).take (L r)).getD i [] = (Z i).take (L i) := fun i hi => by
      rw [List.getD_eq_getElem?_getD, List.getElem?_eq_getElem (by rw [hlen]; exact hi)]; simp
    have hrl : ∀ i, i < len → ((Z i).take (L i)).length = L i := fun i hi => by
      obtain ⟨-, h1, -, h2, -⟩ := hr i (by omega)
      rw [List.length_take]; omega
    refine ⟨(List.range len).map fun r => (Z r).take (L r), ⟨some a, cap, by rw [hlen], fun i hi => ?_⟩, ⟨by rw [hlen]; unfold maxLen at hm; omega, fun i hi => ?_⟩, fun i hi x hx => ?_⟩
    · rw [hlen] at hi
      obtain ⟨h0, h1, h2, h3, h4, h5, h6⟩ := hr i (by omega)
      rw [hget i hi]
      refine ⟨a, _, rfl, h0, A i, C i, by rw [hrl i hi], fun j hj => ?_⟩
      rw [hrl i hi] at hj
      cases hA : A i with
      | none => have := h5 hA; omega
      | some a' =>
        refine ⟨a', rfl, ?_⟩
        rw [(h6 a' hA).2 j (by omega)]
        simp only [List.getElem_take]
        rw [List.getD_eq_getElem?_getD, List.getElem?_eq_getElem (by omega)]
        rfl
    · rw [hlen] at hi
      rw [hget i hi, hrl i hi]
      obtain ⟨-, h1, h2, -⟩ := hr i (by omega)
      unfold maxLen at h2; omega
    · rw [hlen] at hi
      rw [hget i hi] at hx
      obtain ⟨-, -, -, -, h4, -⟩ := hr i (by omega)
      have := h4 x (List.mem_of_mem_take hx)
      exact ⟨wf_i64_ge this, wf_i64_le this⟩
end
end Go.Proofs.YtnbjcelfdppkcadGreat
namespace Go.Proofs.YtnbjcelfdppkcadGreat
open Go.RowKit

theorem szOf_tot {d : List (List Int)} (h : szOf d ≤ 1048576) : tot d ≤ 1048576 := by unfold szOf at h; omega
theorem tot_one {d : List (List Int)} (h : szOf d ≤ 1048576) : 1 + tot d ≤ 1048576 := by
  unfold szOf at h
  cases d with
  | nil => simp [tot]
  | cons r t => simp only [List.length_cons] at h; omega
end Go.Proofs.YtnbjcelfdppkcadGreat
namespace Go.Proofs.YtnbjcelfdppkcadGreat
open Go.RowKit

theorem tot_snoc (ll : List (List Int)) (l : List Int) : tot (ll ++ [l]) = tot ll + l.length := by unfold tot; simp
theorem partP_class {p : List (List Int)} {rows : Int} {i : Nat} (h : partP p rows = true) (hi : i < p.length) : (p.getD i []).length ≤ 40 := by
  obtain ⟨r0, r1⟩ := partP_rows h
  unfold partP at h
  rw [Bool.and_eq_true, List.all_eq_true] at h
  have hc := h.1 i (List.mem_range.mpr hi)
  unfold okC at hc
  rw [Bool.and_eq_true, List.all_eq_true] at hc
  have hR : IntKind.i64.wrap (rows - 1) = rows - 1 := by rw [IntKind.wrap_i64]; omega
  have hx : ∀ k, k < (p.getD i []).length → (k : Int) ≤ (p.getD i []).getD k 0 ∧ (p.getD i []).getD k 0 ≤ rows - 1 := by
    intro k
    induction k with
    | zero =>
      intro hk
      have h0 := hc.2 0 (List.mem_range.mpr hk)
      unfold okX at h0
      simp only [Bool.and_eq_true, decide_eq_true_eq] at h0
      rw [hR] at h0
      exact ⟨by have := h0.1.1.1; omega, h0.1.1.2⟩
    | succ k ih =>
      intro hk
      have h1 := ih (by omega)
      have h0 := hc.2 (k + 1) (List.mem_range.mpr hk)
      unfold okX at h0
      simp only [Bool.and_eq_true, Bool.not_eq_true', Bool.and_eq_false_iff, decide_eq_true_eq, decide_eq_false_iff_not] at h0
      rw [hR, show k + 1 - 1 = k by omega] at h0
      obtain ⟨⟨ha, hb⟩, -⟩ := h0
      rcases hb with hb | hb
      · omega
      · omega
  by_cases h0 : (p.getD i []).length = 0
  · omega
  · have := hx ((p.getD i []).length - 1) (by omega)
    omega
theorem clSt_tot (c : Nat) (ll : List (List Int)) (m s : Int) (h40 : ll.length ≤ 40) : ∀ i, i ≤ ll.length → tot (clSt c ll m s i).1 ≤ 40 * i
  | 0, _ => by simp [clSt, tot]
  | i + 1, hi => by
    have ih := clSt_tot c ll m s h40 i (by omega)
    have h := clsC_len c ll m s i (by omega)
    unfold clSt
    split
    · omega
    · split
      · simp only; rw [tot_snoc]; omega
      · omega
theorem prtS_bd (c : Int) (ll : List (List Int)) (m s : Int) : (prtS c ll m s).length ≤ 40 ∧ tot (prtS c ll m s) ≤ 1600 := by
  unfold prtS
  split
  · rename_i h
    have hT : isT c ll = true := by have := h.1; unfold fineT at this; simp at this; exact this.1
    have h40 := (isT_bd hT).2.2
    have h1 := (clSt_len c.toNat ll m s ll.length (Nat.le_refl _)).1
    have h2 := clSt_tot c.toNat ll m s h40 ll.length (Nat.le_refl _)
    omega
  · simp [tot]
theorem prSt_tot (p q : List (List Int)) (h : ∀ i, i < p.length → (p.getD i []).length ≤ 40) : ∀ i, (prSt p q i).1.length ≤ i ∧ tot (prSt p q i).1 ≤ 40 * i
  | 0 => by simp [prSt, tot]
  | i + 1 => by
    have ih := prSt_tot p q h i
    unfold prSt
    split
    · omega
    · rename_i hn
      have h2 := clsI_ge p (i : Int)
      have h1 := prTo_len p q (clsI p i).toNat (clsI q i).toNat (p.getD (clsI p i).toNat []).length
      rw [prTo_all] at h1
      have h3 := h (clsI p i).toNat (by omega)
      simp only
      split
      · rw [tot_snoc, List.length_append]; simp only [List.length_cons, List.length_nil]; omega
      · omega
theorem proS_bd (p q : List (List Int)) (rows : Int) : (proS p q rows).length ≤ 40 ∧ tot (proS p q rows) ≤ 1600 := by
  unfold proS
  split
  · rename_i h
    rw [Bool.and_eq_true] at h
    have hr := partP_rows h.1
    have := prSt_tot p q (fun i hi => partP_class h.1 hi) rows.toNat
    omega
  · simp [tot]
end Go.Proofs.YtnbjcelfdppkcadGreat
namespace Go.Proofs.YtnbjcelfdppkcadGreat
open Go.RowKit

theorem and_fin : ∀ (X s : Fin 32), (bits .and .i64 (X.val : Int) (s.val : Int) == (s.val : Int)) = (List.range 5).all (fun j => !(bitB s.val j) || bitB X.val j) := by decide +kernel
theorem add_fin : ∀ (n : Fin 5) (X : Fin 32) (j : Fin 5), X.val < 2 ^ n.val → bitB (X.val + 2 ^ n.val) j.val = (decide (j.val = n.val) || bitB X.val j.val) := by decide +kernel
theorem low_fin : ∀ (n : Fin 6) (X : Fin 32) (j : Fin 5), X.val < 2 ^ n.val → n.val ≤ j.val → bitB X.val j.val = false := by decide +kernel
theorem agrTo_bit (m : Int) (r s : List Int) : ∀ n, n ≤ 5 → ∃ X : Nat, agrTo m r s n = (X : Int) ∧ X < 2 ^ n ∧ X < 32 ∧ ∀ j, j < 5 → bitB X j = (decide (j < n) && eqC m (r.getD j 0) (s.getD j 0))
  | 0, _ => ⟨0, rfl, by decide, by decide, fun j hj => by
    have := low_fin ⟨0, by decide⟩ ⟨0, by decide⟩ ⟨j, hj⟩ (by decide) (Nat.zero_le _)
    simp only at this
    rw [this]; simp⟩
  | n + 1, hn => by
    obtain ⟨X, h1, h2, h3, h4⟩ := agrTo_bit m r s n (by omega)
    have h5 : X + 2 ^ n < 2 ^ (n + 1) := by rw [Nat.pow_succ]; omega
    have h6 : 2 ^ (n + 1) ≤ 32 := by
      rcases (show n = 0 ∨ n = 1 ∨ n = 2 ∨ n = 3 ∨ n = 4 by omega) with rfl | rfl | rfl | rfl | rfl <;> decide
    cases he : eqC m (r.getD n 0) (s.getD n 0) with
    | true =>
      refine ⟨X + 2 ^ n, by unfold agrTo; rw [h1, he]; simp, h5, by omega, fun j hj => ?_⟩
      have := add_fin ⟨n, by omega⟩ ⟨X, h3⟩ ⟨j, hj⟩ h2
      simp only at this
      rw [this, h4 j hj]
      by_cases hjn : j = n
      · subst hjn; rw [he, decide_eq_true (show j < j + 1 by omega)]; simp
      · rw [decide_eq_false hjn, Bool.false_or]
        congr 1
        rw [decide_eq_decide]; omega
    | false =>
      refine ⟨X, by unfold agrTo; rw [h1, he]; simp, by omega, h3, fun j hj => ?_⟩
      rw [h4 j hj]
      by_cases hjn : j = n
      · subst hjn; rw [he]; simp
      · congr 1
        rw [decide_eq_decide]; omega
/-- Two rows agree in a set if they are equal in each of its columns. -/
theorem agB_iff (c : Nat) (ll : List (List Int)) (m : Int) (S : Nat) (i k : Nat) (hc : c ≤ 5) (hS : S < 2 ^ c) :
    agB c ll m (S : Int) i k = true ↔ ∀ j, j < c → bitB S j = true → eqC m ((ll.getD i []).getD j 0) ((ll.getD k []).getD j 0) = true := by
  obtain ⟨X, h1, -, h3, h4⟩ := agrTo_bit m (ll.getD i []) (ll.getD k []) c hc
  have h32 : 2 ^ c ≤ 32 := by
    rcases (show c = 0 ∨ c = 1 ∨ c = 2 ∨ c = 3 ∨ c = 4 ∨ c = 5 by omega) with rfl | rfl | rfl | rfl | rfl | rfl <;> decide
  have hS32 : S < 32 := by omega
  unfold agB
  rw [h1]
  have h := and_fin ⟨X, h3⟩ ⟨S, hS32⟩
  simp only at h
  rw [h, List.all_eq_true]
  constructor
  · intro hall j hj hb
    have := hall j (List.mem_range.mpr (by omega))
    rw [hb, h4 j (by omega), decide_eq_true hj] at this
    simpa using this
  · intro hall j hj
    have hj5 := List.mem_range.mp hj
    by_cases hjc : j < c
    · rw [h4 j hj5, decide_eq_true hjc, Bool.true_and]
      cases hb : bitB S j with
      | false => rfl
      | true => rw [hall j hjc hb]; rfl
    · have := low_fin ⟨c, by omega⟩ ⟨S, hS32⟩ ⟨j, hj5⟩ hS (by show c ≤ j; omega)
      simp only at this
      rw [this]; rfl
theorem eqC_trans {m a b d : Int} (h1 : eqC m a b = true) (h2 : eqC m b d = true) : eqC m a d = true := by
  unfold eqC at *
  simp only [decide_eq_true_eq] at *
  obtain ⟨h3, rfl, h4⟩ := h1
  exact ⟨h3, h2.2.1, h4⟩
theorem agB_trans {c : Nat} {ll : List (List Int)} {m : Int} {S : Nat} {i k n : Nat} (hc : c ≤ 5) (hS : S < 2 ^ c) (h1 : agB c ll m (S : Int) i k = true) (h2 : agB c ll m (S : Int) k n = true) : agB c ll m (S : Int) i n = true := by
  rw [agB_iff c ll m S _ _ hc hS] at *
  exact fun j hj hb => eqC_trans (h1 j hj hb) (h2 j hj hb)
theorem agB_symm {c : Nat} {ll : List (List Int)} {m : Int} {S : Nat} {i k : Nat} (hc : c ≤ 5) (hS : S < 2 ^ c) (h1 : agB c ll m (S : Int) i k = true) : agB c ll m (S : Int) k i = true := by
  rw [agB_iff c ll m S _ _ hc hS] at *
  intro j hj hb
  have := h1 j hj hb
  unfold eqC at *
  simp only [decide_eq_true_eq] at *
  obtain ⟨h3, h4, h5⟩ := this
  exact ⟨h3, h4.symm, by rw [← h4]; exact h5⟩
theorem rowsC_mem (c : Nat) (ll : List (List Int)) (m s : Int) (i : Nat) (x : Int) : ∀ n, (x ∈ rowsC c ll m s i n ↔ x = (i : Int) ∨ ∃ k : Nat, i < k ∧ k ≤ i + n ∧ agB c ll m s i k = true ∧ x = (k : Int))
  | 0 => by
    simp [rowsC]
    intro k h1 h2; omega
  | n + 1 => by
    have ih := rowsC_mem c ll m s i x n
    unfold rowsC
    split
    · rename_i h
      rw [List.mem_append, ih, List.mem_singleton]
      constructor
      · rintro ((h' | ⟨k, h1, h2, h3, h4⟩) | h')
        · exact Or.inl h'
        · exact Or.inr ⟨k, h1, by omega, h3, h4⟩
        · exact Or.inr ⟨i + 1 + n, by omega, by omega, h, h'⟩
      · rintro (h' | ⟨k, h1, h2, h3, h4⟩)
        · exact Or.inl (Or.inl h')
        · by_cases e : k = i + 1 + n
          · subst e; exact Or.inr h4
          · exact Or.inl (Or.inr ⟨k, h1, by omega, h3, h4⟩)
    · rename_i h
      rw [ih]
      constructor
      · rintro (h' | ⟨k, h1, h2, h3, h4⟩)
        · exact Or.inl h'
        · exact Or.inr ⟨k, h1, by omega, h3, h4⟩
      · rintro (h' | ⟨k, h1, h2, h3, h4⟩)
        · exact Or.inl h'
        · by_cases e : k = i + 1 + n
          · subst e; exact (h h3).elim
          · exact Or.inr ⟨k, h1, by omega, h3, h4⟩
theorem clsC_mem (c : Nat) (ll : List (List Int)) (m s : Int) (i : Nat) (hi : i < ll.length) (x : Int) : x ∈ clsC c ll m s i ↔ x = (i : Int) ∨ ∃ k : Nat, i < k ∧ k < ll.length ∧ agB c ll m s i k = true ∧ x = (k : Int) := by
  unfold clsC
  rw [rowsC_mem]
  constructor
  · rintro (h | ⟨k, h1, h2, h3, h4⟩)
    · exact Or.inl h
    · exact Or.inr ⟨k, h1, by omega, h3, h4⟩
  · rintro (h | ⟨k, h1, h2, h3, h4⟩)
    · exact Or.inl h
    · exact Or.inr ⟨k, h1, by omega, h3, h4⟩
/-- No row before it agrees with it. -/
def repB (c : Nat) (ll : List (List Int)) (m s : Int) (a : Nat) : Bool := !(List.range a).any fun b => agB c ll m s b a
/-- The classes are those of the rows that have no equal one before them, in their order, but for those that are alone. -/
def prtL (c : Nat) (ll : List (List Int)) (m s : Int) (i : Nat) : List (List Int) := ((List.range i).filter fun a => repB c ll m s a && decide (1 < (clsC c ll m s a).length)).map (clsC c ll m s)
theorem rep_least {c : Nat} {ll : List (List Int)} {m : Int} {S : Nat} (hc : c ≤ 5) (hS : S < 2 ^ c) (i : Nat) : ∀ n b, b < n → b < i → agB c ll m (S : Int) b i = true → ∃ a, a < i ∧ repB c ll m (S : Int) a = true ∧ agB c ll m (S : Int) a i = true
  | 0, b, h, _, _ => absurd h (Nat.not_lt_zero _)
  | n + 1, b, hb, hbi, he => by
    cases hr : repB c ll m (S : Int) b with
    | true => exact ⟨b, hbi, hr, he⟩
    | false =>
      unfold repB at hr
      simp only [Bool.not_eq_false', List.any_eq_true] at hr
      obtain ⟨b', h1, h2⟩ := hr
      have h1' := List.mem_range.mp h1
      exact rep_least hc hS i n b' (by omega) (by omega) (agB_trans hc hS h2 he)
theorem clSt_eq {c : Nat} {ll : List (List Int)} {m : Int} {S : Nat} (hc : c ≤ 5) (hS : S < 2 ^ c) : ∀ i, i ≤ ll.length → (clSt c ll m (S : Int) i).1 = prtL c ll m (S : Int) i ∧ ∀ x, (x ∈ (clSt c ll m (S : Int) i).2 ↔ ∃ a, a < i ∧ repB c ll m (S : Int) a = true ∧ 1 < (clsC c ll m (S : Int) a).length ∧ x ∈ clsC c ll m (S : Int) a)
  | 0, _ => by simp [clSt, prtL]
  | i + 1, hi => by
    obtain ⟨ih1, ih2⟩ := clSt_eq (ll := ll) (m := m) hc hS i (by omega)
    have hL : prtL c ll m (S : Int) (i + 1) = prtL c ll m (S : Int) i ++ (if repB c ll m (S : Int) i = true ∧ 1 < (clsC c ll m (S : Int) i).length then [clsC c ll m (S : Int) i] else []) := by
      unfold prtL
      rw [List.range_succ, List.filter_append, List.map_append]
      congr 1
      by_cases h : repB c ll m (S : Int) i = true ∧ 1 < (clsC c ll m (S : Int) i).length
      · rw [if_pos h, List.filter_cons, if_pos (by rw [h.1, decide_eq_true h.2]; rfl)]; rfl
      · rw [if_neg h, List.filter_cons, if_neg (by rw [Bool.and_eq_true, decide_eq_true_eq]; exact h)]; rfl
    have hmem : (i : Int) ∈ (clSt c ll m (S : Int) i).2 ↔ repB c ll m (S : Int) i = false := by
      rw [ih2]
      constructor
      · rintro ⟨a, h1, h2, h3, h4⟩
        rw [clsC_mem c ll m _ a (by omega)] at h4
        rcases h4 with h4 | ⟨k, h5, h6, h7, h8⟩
        · omega
        · have : k = i := by omega
          subst this
          unfold repB
          simp only [Bool.not_eq_false', List.any_eq_true]
          exact ⟨a, List.mem_range.mpr h1, h7⟩
      · intro h
        unfold repB at h
        simp only [Bool.not_eq_false', List.any_eq_true] at h
        obtain ⟨b, h1, h2⟩ := h
        obtain ⟨a, h3, h4, h5⟩ := rep_least hc hS i (b + 1) b (by omega) (List.mem_range.mp h1) h2
        have h6 : (i : Int) ∈ clsC c ll m (S : Int) a := (clsC_mem c ll m _ a (by omega) _).mpr (Or.inr ⟨i, h3, by omega, h5, rfl⟩)
        have h7 : (a : Int) ∈ clsC c ll m (S : Int) a := (clsC_mem c ll m _ a (by omega) _).mpr (Or.inl rfl)
        refine ⟨a, h3, h4, ?_, h6⟩
        cases hq : clsC c ll m (S : Int) a with
        | nil => rw [hq] at h6; cases h6
        | cons x t =>
          cases t with
          | nil =>
            rw [hq, List.mem_singleton] at h6 h7
            omega
          | cons y t => simp
    rw [hL]
    unfold clSt
    by_cases hm : (i : Int) ∈ (clSt c ll m (S : Int) i).2
    · have hr := hmem.mp hm
      rw [if_pos hm, if_neg (by rw [hr]; simp), List.append_nil]
      refine ⟨ih1, fun x => ?_⟩
      rw [ih2]
      constructor
      · rintro ⟨a, h1, h2⟩; exact ⟨a, by omega, h2⟩
      · rintro ⟨a, h1, h2, h3⟩
        by_cases e : a = i
        · subst e; rw [hr] at h2; cases h2
        · exact ⟨a, by omega, h2, h3⟩
    · have hr : repB c ll m (S : Int) i = true := by
        cases h : repB c ll m (S : Int) i with
        | true => rfl
        | false => exact (hm (hmem.mpr h)).elim
      rw [if_neg hm]
      by_cases h1 : 1 < (clsC c ll m (S : Int) i).length
      · rw [if_pos h1, if_pos ⟨hr, h1⟩]
        refine ⟨by simp only; rw [ih1], fun x => ?_⟩
        simp only [List.mem_append]
        rw [ih2]
        constructor
        · rintro (⟨a, h2, h3⟩ | h2)
          · exact ⟨a, by omega, h3⟩
          · exact ⟨i, by omega, hr, h1, h2⟩
        · rintro ⟨a, h2, h3, h4, h5⟩
          by_cases e : a = i
          · subst e; exact Or.inr h5
          · exact Or.inl ⟨a, by omega, h3, h4, h5⟩
      · rw [if_neg h1, if_neg (fun h => h1 h.2), List.append_nil]
        refine ⟨ih1, fun x => ?_⟩
        rw [ih2]
        constructor
        · rintro ⟨a, h2, h3⟩; exact ⟨a, by omega, h3⟩
        · rintro ⟨a, h2, h3, h4, h5⟩
          by_cases e : a = i
          · subst e; exact (h1 h4).elim
          · exact ⟨a, by omega, h3, h4, h5⟩
/-- A valid set as a natural number. -/
theorem isA_nat {c : Nat} {s : Int} (h : isA (c : Int) s = true) : ∃ S : Nat, s = (S : Int) ∧ c ≤ 5 ∧ S < 2 ^ c := by
  unfold isA at h
  simp only [decide_eq_true_eq] at h
  obtain ⟨⟨h0, h1⟩, h2, h3⟩ := h
  refine ⟨s.toNat, by omega, by omega, ?_⟩
  have hp : (1 : Int) ≤ 2 ^ c := by
    rcases (show c = 0 ∨ c = 1 ∨ c = 2 ∨ c = 3 ∨ c = 4 ∨ c = 5 by omega) with rfl | rfl | rfl | rfl | rfl | rfl <;> decide
  have e : ((2 ^ c : Nat) : Int) = (2 : Int) ^ c := by simp
  rw [show ((c : Int)).toNat = c by omega] at h3
  omega
theorem prtS_eq (c : Int) (ll : List (List Int)) (m s : Int) (hf : fineT c ll m = true) (hs : isA c s = true) : prtS c ll m s = prtL c.toNat ll m s ll.length := by
  have hT : isT c ll = true := by unfold fineT at hf; simp at hf; exact hf.1
  obtain ⟨h1, h5, -⟩ := isT_bd hT
  obtain ⟨C, rfl⟩ : ∃ C : Nat, c = (C : Int) := ⟨c.toNat, by omega⟩
  obtain ⟨S, rfl, hC, hS⟩ := isA_nat hs
  unfold prtS
  rw [if_pos ⟨hf, hs⟩, show ((C : Int)).toNat = C by omega]
  exact (clSt_eq hC hS ll.length (Nat.le_refl _)).1
end Go.Proofs.YtnbjcelfdppkcadGreat
