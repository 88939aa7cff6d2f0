/- Texts of this claim, merged: SmC. Conditions: as stated. -/
import Derived.Test.YtjfllfancgmalaaGreatSmBm
import Derived.Test.YtjfllfancgmalaaGreatSc16
namespace Go.Proofs.YtjfllfancgmalaaGreat
open Go.RowKit

/-- A table's rows are kept when a row of dependencies grows. -/
theorem OwnSS.keptD {w w' : World} {B B' C : Nat} {v g : Value} {ll : List (List Int)} {F : List (Int × Int)} (h : OwnSS w B C v ll) (hd : OwnD w B' g F) (hg : w.grownBy w' g.ownBlock) : OwnSS w' B C v ll := by
  obtain ⟨V, h1, h2, h3, h4⟩ := h
  have hdt : ∀ q, g.ownBlock = some q → ∃ cur, w.heap[q]? = some (.cells cur 38 (0, 0)) := by
    intro q hq
    rcases hd.2 with ⟨rfl, _⟩ | ⟨g1, cap, cur, rfl, hB, hgg, rest⟩
    · cases hq
    · simp [Value.ownBlock] at hq
      subst hq
      exact ⟨cur, hgg⟩
  have hin : ∀ i, i < ll.length → ∀ q, (V i).ownBlock = some q → w'.heap[q]? = w.heap[q]? := fun i hi q hq => hg.block q ((h3 i hi).1.lt q hq).2 (fun e => dep_apart hd (h3 i hi).1 q e.symm hq)
  refine ⟨V, ⟨h1.1, ?_⟩, h2, fun i hi => ⟨(h3 i hi).1.same (hin i hi), (h3 i hi).2⟩, h4⟩
  rcases h1.2 with hn | ⟨q, cap, cur, rfl, hB, hgg, rest⟩
  · exact .inl hn
  · refine .inr ⟨q, cap, cur, rfl, hB, (hg.block q (Array.getElem?_eq_some_iff.1 hgg).1 (fun e => ?_)).trans hgg, rest⟩
    obtain ⟨cur2, h5⟩ := hdt q e.symm
    rw [hgg] at h5
    simp at h5
/-- What holds of the world while a copy of a search is carried on by the model. -/
structure Cm (w0 : World) (C : Nat) (m : Int) (x1 x4 : Value) (K n0 : Int) (u : Value) (ll : List (List Int)) (p k : Nat) (g : Value) (F : List (Int × Int)) (T : Int) (wr : World) : Prop where
  nx : SBI wr p (.int .i64 (C : Int)) u (.int .i64 m) (.int .i64 (k : Int)) g (.int .i64 T)
  sb : SBI wr w0.heap.size (.int .i64 (C : Int)) x1 (.int .i64 m) (.int .i64 K) x4 (.int .i64 n0)
  rb : SBI wr (w0.heap.size + 1) (.int .i64 0) (.slice none 0 0) (.int .i64 0) (.int .i64 0) (.slice none 0 0) (.int .i64 0)
  tab : OwnSS wr (w0.heap.size + 2) p u ll
  fnd : OwnD wr (w0.heap.size + 2) g F
  bel : Below w0.heap.size w0 wr
  sz : w0.heap.size + 1 < p ∧ p < wr.heap.size
section
variable {w0 wr w' : World} {C : Nat} {m : Int} {x1 x4 : Value} {K n0 : Int} {u : Value} {ll : List (List Int)} {p k : Nat} {g : Value} {F : List (Int × Int)} {T : Int}
theorem Cm.below (h : Cm w0 C m x1 x4 K n0 u ll p k g F T wr) (hb : Below wr.heap.size wr w') : Cm w0 C m x1 x4 K n0 u ll p k g F T w' :=
  ⟨h.nx.kept hb, h.sb.kept hb, h.rb.kept hb, h.tab.same (Below.keeps hb (by have := h.sz; omega)), h.fnd.below hb (fun q hq => (h.fnd.lt q hq).2), h.bel.trans (hb.mono h.bel.size), by have := h.sz; have := hb.size; omega⟩
theorem Cm.same (h : Cm w0 C m x1 x4 K n0 u ll p k g F T wr) {k' : Nat} {T' : Int} (hn : SBI w' p (.int .i64 (C : Int)) u (.int .i64 m) (.int .i64 (k' : Int)) g (.int .i64 T')) (hs : ∀ q, q ≠ p → w'.heap[q]? = wr.heap[q]?) (hb : Below p wr w') : Cm w0 C m x1 x4 K n0 u ll p k' g F T' w' := by
  obtain ⟨s3, s4⟩ := h.sz
  exact ⟨hn, h.sb.eqb (hs _ (by omega)), h.rb.eqb (hs _ (by omega)), h.tab.same (fun q _ hq => hs q (by omega)), h.fnd.same (fun q hq => hs q (sb_apart h.fnd h.nx q hq)), h.bel.trans (hb.mono (by omega)), by have := hb.size; omega⟩
theorem Cm.at_ (h : Cm w0 C m x1 x4 K n0 u ll p k g F T wr) : Cm w0 C m x1 x4 K n0 u ll p (k + 1) g F T (wr.setCell ⟨p, 3, none⟩ (.int .i64 ((k : Int) + 1))) :=
  h.same (k' := k + 1) (by have := h.nx.one3 (b3 := .int .i64 ((k : Int) + 1)); exact this) (fun q hq => Below.heap_setCell _ _ _ _ hq) ((Below.refl p wr).setCell (p := ⟨p, 3, none⟩) (Nat.le_refl _) _)
theorem Cm.tests (h : Cm w0 C m x1 x4 K n0 u ll p k g F T wr) (T' : Int) : Cm w0 C m x1 x4 K n0 u ll p k g F T' (wr.setCell ⟨p, 5, none⟩ (.int .i64 T')) :=
  h.same (by exact h.nx.one5) (fun q hq => Below.heap_setCell _ _ _ _ hq) ((Below.refl p wr).setCell (p := ⟨p, 5, none⟩) (Nat.le_refl _) _)
theorem Cm.nxg (h : Cm w0 C m x1 x4 K n0 u ll p k g F T wr) (hg : wr.grownBy w' g.ownBlock) : SBI w' p (.int .i64 (C : Int)) u (.int .i64 m) (.int .i64 (k : Int)) g (.int .i64 T) :=
  h.nx.eqb (hg.block p h.sz.2 (fun e => sb_apart h.fnd h.nx p e.symm rfl))
theorem Cm.found (h : Cm w0 C m x1 x4 K n0 u ll p k g F T wr) {g' : Value} {F' : List (Int × Int)} (ho : OwnD w' (w0.heap.size + 2) g' F') (hg : wr.grownBy w' g.ownBlock) :
    Cm w0 C m x1 x4 K n0 u ll p k g' F' T (w'.setCell ⟨p, 4, none⟩ g') := by
  obtain ⟨s3, s4⟩ := h.sz
  have hne : ∀ q, q < wr.heap.size → (∀ x, g.ownBlock = some x → x ≠ q) → w'.heap[q]? = wr.heap[q]? := fun q hq hx => hg.block q hq (fun e => hx q e.symm rfl)
  have hgc : ∀ x, g.ownBlock = some x → w0.heap.size + 2 ≤ x := fun x hx => (h.fnd.lt x hx).1
  have hnx := h.nxg hg
  have hsb : SBI w' w0.heap.size _ _ _ _ _ _ := h.sb.eqb (hne _ (by omega) (fun x hx => by have := hgc x hx; omega))
  have hrb : SBI w' (w0.heap.size + 1) _ _ _ _ _ _ := h.rb.eqb (hne _ (by omega) (fun x hx => by have := hgc x hx; omega))
  have hset : ∀ q, q ≠ p → (w'.setCell ⟨p, 4, none⟩ g').heap[q]? = w'.heap[q]? := fun q hq => Below.heap_setCell _ _ _ _ hq
  refine ⟨hnx.one4, hsb.eqb (hset _ (by omega)), hrb.eqb (hset _ (by omega)), (h.tab.keptD h.fnd hg).same (fun q _ hq => hset q (by omega)), ho.same (fun q hq => hset q (sb_apart ho hnx q hq)), ?_, by have := hg.size; simp; omega⟩
  exact (h.bel.grown hg (by have := h.bel.size; omega) (fun x hx => by have := hgc x hx; omega)).setCell (p := ⟨p, 4, none⟩) (by show w0.heap.size ≤ p; omega) _
theorem Cm.fin (h : Cm w0 C m x1 x4 K n0 u ll p k g F T wr) (b0 b1 b2 b3 b4 b5 : Value) :
    OwnSS ((((((wr.setCell ⟨w0.heap.size + 1, 0, none⟩ b0).setCell ⟨w0.heap.size + 1, 1, none⟩ b1).setCell ⟨w0.heap.size + 1, 2, none⟩ b2).setCell ⟨w0.heap.size + 1, 3, none⟩ b3).setCell ⟨w0.heap.size + 1, 4, none⟩ b4).setCell ⟨w0.heap.size + 1, 5, none⟩ b5) w0.heap.size ((((((wr.setCell ⟨w0.heap.size + 1, 0, none⟩ b0).setCell ⟨w0.heap.size + 1, 1, none⟩ b1).setCell ⟨w0.heap.size + 1, 2, none⟩ b2).setCell ⟨w0.heap.size + 1, 3, none⟩ b3).setCell ⟨w0.heap.size + 1, 4, none⟩ b4).setCell ⟨w0.heap.size + 1, 5, none⟩ b5).heap.size u ll ∧
    OwnD ((((((wr.setCell ⟨w0.heap.size + 1, 0, none⟩ b0).setCell ⟨w0.heap.size + 1, 1, none⟩ b1).setCell ⟨w0.heap.size + 1, 2, none⟩ b2).setCell ⟨w0.heap.size + 1, 3, none⟩ b3).setCell ⟨w0.heap.size + 1, 4, none⟩ b4).setCell ⟨w0.heap.size + 1, 5, none⟩ b5) w0.heap.size g F ∧
    Below w0.heap.size w0 ((((((wr.setCell ⟨w0.heap.size + 1, 0, none⟩ b0).setCell ⟨w0.heap.size + 1, 1, none⟩ b1).setCell ⟨w0.heap.size + 1, 2, none⟩ b2).setCell ⟨w0.heap.size + 1, 3, none⟩ b3).setCell ⟨w0.heap.size + 1, 4, none⟩ b4).setCell ⟨w0.heap.size + 1, 5, none⟩ b5) :=
  sea_fin2 h.tab h.fnd h.bel (Nat.le_of_lt h.sz.2) b0 b1 b2 b3 b4 b5
end
end Go.Proofs.YtjfllfancgmalaaGreat
