/- A row of pointers to records that the call owns. Conditions: as stated. -/
import Derived.Test.YtnelddlbpdpndaaPrjE
import Derived.Maps.AppendAt
namespace Go.Proofs.Ytnelddlbpdpndaa
open Go.RowKit

theorem infoRp : (Try.prog.info? 50).map (fun i => (i.zero, i.size, i.bytes)) = some (some (.pointer none), 1, 8) := by kernel_rfl
def ptrV (p : Nat × List Int) : Value := .pointer (some ⟨p.1, 0, none⟩)
theorem one_ptr (p : Nat × List Int) : ∀ u ∈ [ptrV p], u.oneCell' = true := by intro u hu; simp at hu; subst hu; rfl
structure OwnP (w : World) (B : Nat) (v : Value) (P : List (Nat × List Int)) : Prop where
  own : w.ownsRow B 50 1 v P.length (P.map ptrV)
  recs : ∀ p ∈ P, RecAt w p.1 p.2 ∧ B ≤ p.1 ∧ p.1 < w.heap.size ∧ v.ownBlock ≠ some p.1
  full : v ≠ .slice none 0 0
theorem OwnP.made {w : World} {B : Nat} {v : Value} (h : w.ownsRow B 50 1 v 0 []) (hv : v ≠ .slice none 0 0) : OwnP w B v [] := ⟨h, (fun _ h => by cases h), hv⟩
theorem OwnP.lt {w : World} {B : Nat} {v : Value} {P : List (Nat × List Int)} (h : OwnP w B v P) : ∀ k, v.ownBlock = some k → B ≤ k ∧ k < w.heap.size := World.ownsRow.lt h.own
theorem OwnP.kept {w w' : World} {B : Nat} {v : Value} {P : List (Nat × List Int)} (h : OwnP w B v P) (hb : Below w.heap.size w w') : OwnP w' B v P := by
  refine ⟨?_, fun p hp => ?_, h.full⟩
  · refine World.ownsRow.kept (row := none) h.own ⟨hb.os, hb.tape, hb.output, hb.size, fun k hk _ => hb.block k hk⟩ ?_
    cases hv : v.ownBlock with
    | none => exact .inl rfl
    | some g => exact .inr (by simp)
  · obtain ⟨h1, h2, h3, h4⟩ := h.recs p hp
    exact ⟨h1.kept hb h3, h2, Nat.lt_of_lt_of_le h3 hb.size, h4⟩
theorem RecAt.grown {w w' : World} {b : Nat} {r : List Int} {row : Option Nat} (h : RecAt w b r) (hg : w.grownBy w' row) (hb : b < w.heap.size) (hr : row ≠ some b) : RecAt w' b r := by
  intro j hj
  have hblk := hg.block b hb (Ne.symm hr)
  have := h j hj
  unfold World.cell? World.frozen? at *
  simp only [hblk]; exact this
theorem OwnP.snoc {w w2 w3 : World} {B : Nat} {v v' : Value} {P : List (Nat × List Int)} {p : Nat × List Int} (h : OwnP w B v P) (hb : Below w.heap.size w w2) (hBw : B ≤ w.heap.size) (hr : RecAt w2 p.1 p.2) (hp : w.heap.size ≤ p.1) (hp2 : p.1 < w2.heap.size)
    (ho : w3.ownsRow B 50 1 v' (P.length + 1) (P.map ptrV ++ [ptrV p])) (hg : w2.grownBy w3 v.ownBlock) (hn : v' = .slice none 0 0 ↔ v = .slice none 0 0 ∧ 1 = 0) (hat : v'.ownBlock = v.ownBlock ∨ v'.ownBlock = some w2.heap.size) : OwnP w3 B v' (P ++ [p]) := by
  have h2 := h.kept hb
  refine ⟨by rw [List.length_append, List.length_singleton, List.map_append]; exact ho, fun q hq => ?_, fun e => by have := (hn.1 e).2; omega⟩
  have hvp : v.ownBlock ≠ some p.1 := fun e => by have := (h.lt _ e).2; omega
  have key : RecAt w2 q.1 q.2 ∧ B ≤ q.1 ∧ q.1 < w2.heap.size ∧ v.ownBlock ≠ some q.1 := by
    rcases List.mem_append.1 hq with hq | hq
    · exact h2.recs q hq
    · rw [List.mem_singleton] at hq
      subst hq
      exact ⟨hr, by omega, hp2, hvp⟩
  obtain ⟨k1, k2, k3, k4⟩ := key
  refine ⟨k1.grown hg k3 k4, k2, Nat.lt_of_lt_of_le k3 hg.size, fun e => ?_⟩
  rcases hat with hat | hat
  · rw [hat] at e; exact k4 e
  · rw [hat] at e; simp at e; omega
theorem OwnP.shape {w : World} {B : Nat} {v : Value} {P : List (Nat × List Int)} (h : OwnP w B v P) : ∃ g cap, v = .slice (some ⟨g, 0, none⟩) P.length cap ∧ B ≤ g ∧ g < w.heap.size ∧ P.length ≤ cap ∧ Ptrs w g P := by
  rcases h.own.2 with ⟨hv, _⟩ | ⟨g, cap, cur, hv, hB, hgg, hnc, rest⟩
  · exact absurd hv h.full
  · subst hv
    have hg := (Array.getElem?_eq_some_iff.1 hgg).1
    refine ⟨g, cap, rfl, hB, hg, hnc, fun j hj => ⟨?_, World.ownsRow.frozenAt h.own j⟩, fun p hp => ?_⟩
    · rw [World.ownsRow.cellAt h.own j (by omega)]
      simp [hj, ptrV]
    · obtain ⟨h1, h2, h3, h4⟩ := h.recs p hp
      exact ⟨h1, fun e => h4 (by rw [e]; rfl), h3⟩
end Go.Proofs.Ytnelddlbpdpndaa
