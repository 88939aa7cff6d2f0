/- The model's RowsToRemove, by contract. Conditions: as stated. -/
import Derived.Test.YtnbjcelfdppkcadGreatXz8
import Derived.Test.YtnbjcelfdppkcadGreatXz7
import Derived.Deep.RegionHeld3
namespace Go.Proofs.YtnbjcelfdppkcadGreat
open Go.RowKit

/-- Two rows are equal on the right. -/
def eqR (c : Nat) (ll : List (List Int)) (m : Int) (R : Nat) (a b : Int) : Bool := bitB (agrTo m (ll.getD a.toNat []) (ll.getD b.toNat []) c).toNat R
/-- How many of the first n rows of a class are equal to its row k on the right, k itself counted at the start. -/
def sameTo (c : Nat) (ll : List (List Int)) (m : Int) (R : Nat) (p : List Int) (k : Nat) : Nat → Nat
  | 0 => 1
  | j + 1 => if j ≠ k ∧ eqR c ll m R (p.getD k 0) (p.getD j 0) = true then sameTo c ll m R p k j + 1 else sameTo c ll m R p k j
def mostTo (c : Nat) (ll : List (List Int)) (m : Int) (R : Nat) (p : List Int) : Nat → Nat
  | 0 => 0
  | k + 1 => max (mostTo c ll m R p k) (sameTo c ll m R p k p.length)
def remTo (c : Nat) (ll : List (List Int)) (m : Int) (R : Nat) (P : List (List Int)) : Nat → Int
  | 0 => 0
  | i + 1 => remTo c ll m R P i + (P.getD i []).length - mostTo c ll m R (P.getD i []) (P.getD i []).length
def remD (c : Int) (ll : List (List Int)) (m l r : Int) : Int := if okD c ll m l r = true then remTo c.toNat ll m r.toNat (clSt c.toNat ll m l ll.length).1 (clSt c.toNat ll m l ll.length).1.length else -1
theorem sameTo_le (c : Nat) (ll : List (List Int)) (m : Int) (R : Nat) (p : List Int) (k : Nat) : ∀ j, 1 ≤ sameTo c ll m R p k j ∧ sameTo c ll m R p k j ≤ j + 1
  | 0 => ⟨Nat.le_refl _, Nat.le_refl _⟩
  | j + 1 => by
    have := sameTo_le c ll m R p k j
    unfold sameTo
    split <;> omega
theorem mostTo_le (c : Nat) (ll : List (List Int)) (m : Int) (R : Nat) (p : List Int) : ∀ k, mostTo c ll m R p k ≤ p.length + 1
  | 0 => by unfold mostTo; omega
  | k + 1 => by
    have := mostTo_le c ll m R p k
    have := (sameTo_le c ll m R p k p.length).2
    unfold mostTo
    omega
theorem remTo_bd (c : Nat) (ll : List (List Int)) (m : Int) (R : Nat) (P : List (List Int)) : ∀ i, i ≤ P.length → -(i : Int) ≤ remTo c ll m R P i ∧ remTo c ll m R P i ≤ tot (P.take i)
  | 0, _ => by simp [remTo, tot]
  | i + 1, hi => by
    have h := remTo_bd c ll m R P i (by omega)
    have h2 := mostTo_le c ll m R (P.getD i []) (P.getD i []).length
    have h3 := tot_succ (ll := P) (k := i) (by omega)
    unfold remTo
    omega
theorem clSt_cls (c : Nat) (ll : List (List Int)) (m s : Int) : ∀ i, i ≤ ll.length → ∀ C ∈ (clSt c ll m s i).1, ∃ a, a < i ∧ C = clsC c ll m s a
  | 0, _ => by simp [clSt]
  | i + 1, hi => by
    have ih := clSt_cls c ll m s i (by omega)
    intro C hC
    unfold clSt at hC
    split at hC
    · obtain ⟨a, h1, h2⟩ := ih C hC; exact ⟨a, by omega, h2⟩
    · split at hC
      · rcases List.mem_append.1 hC with h | h
        · obtain ⟨a, h1, h2⟩ := ih C h; exact ⟨a, by omega, h2⟩
        · exact ⟨i, by omega, by simpa using h⟩
      · obtain ⟨a, h1, h2⟩ := ih C hC; exact ⟨a, by omega, h2⟩
/-- The rows of the classes are rows of the table. -/
theorem clSt_rows {c : Nat} {ll : List (List Int)} {m s : Int} {i k : Nat} (hi : i < (clSt c ll m s ll.length).1.length) (hk : k < ((clSt c ll m s ll.length).1.getD i []).length) : ∃ q : Nat, ((clSt c ll m s ll.length).1.getD i []).getD k 0 = (q : Int) ∧ q < ll.length := by
  obtain ⟨a, h1, h2⟩ := clSt_cls c ll m s ll.length (Nat.le_refl _) ((clSt c ll m s ll.length).1.getD i []) (by rw [List.getD_eq_getElem?_getD, List.getElem?_eq_getElem hi]; exact List.getElem_mem _)
  have hm : ((clSt c ll m s ll.length).1.getD i []).getD k 0 ∈ clsC c ll m s a := by rw [← h2, ← get_getD _ k hk]; exact List.getElem_mem _
  rcases (clsC_mem c ll m s a h1 _).1 hm with h | ⟨q, h3, h4, h5, h6⟩
  · exact ⟨a, h, h1⟩
  · exact ⟨q, h6, h4⟩
theorem bit_one (X k : Nat) : (bits BinOp.and IntKind.i64 ((X : Int) / 2 ^ k) 1 == 1) = bitB X k := bit_test X k
theorem cell_on {w w' : World} {p : Addr} {v : Value} (h : w.cell? p = some v) (b : Below w.heap.size w w') : w'.cell? p = some v := (b.cell (World.block_lt_of_cell? w _ h)).trans h
/-- What a region of a class's rows holds on to. -/
theorem keep6 {w3 w' w'' : World} {p0 p1 p2 p3 p4 p5 : Addr} {v0 v1 v2 v3 v4 v5 : Value} (h : (w'.cell? p0 = some v0 ∧ w'.cell? p1 = some v1) ∧ w'.cell? p2 = some v2 ∧ w'.cell? p3 = some v3 ∧ w'.cell? p4 = some v4 ∧ w'.cell? p5 = some v5 ∧ Below w3.heap.size w3 w') (b : Below w'.heap.size w' w'') :
    (w''.cell? p0 = some v0 ∧ w''.cell? p1 = some v1) ∧ w''.cell? p2 = some v2 ∧ w''.cell? p3 = some v3 ∧ w''.cell? p4 = some v4 ∧ w''.cell? p5 = some v5 ∧ Below w3.heap.size w3 w'' :=
  ⟨⟨cell_on h.1.1 b, cell_on h.1.2 b⟩, cell_on h.2.1 b, cell_on h.2.2.1 b, cell_on h.2.2.2.1 b, cell_on h.2.2.2.2.1 b, h.2.2.2.2.2.trans (b.mono h.2.2.2.2.2.size)⟩
theorem below6 {w3 w' : World} {p0 p1 p2 p3 p4 p5 : Addr} {v0 v1 v2 v3 v4 v5 : Value} (h : (w'.cell? p0 = some v0 ∧ w'.cell? p1 = some v1) ∧ w'.cell? p2 = some v2 ∧ w'.cell? p3 = some v3 ∧ w'.cell? p4 = some v4 ∧ w'.cell? p5 = some v5 ∧ Below w3.heap.size w3 w') : Below w3.heap.size w3 w' := h.2.2.2.2.2
section
set_option maxRecDepth 20000
set_option maxHeartbeats 3200000
end
end Go.Proofs.YtnbjcelfdppkcadGreat
