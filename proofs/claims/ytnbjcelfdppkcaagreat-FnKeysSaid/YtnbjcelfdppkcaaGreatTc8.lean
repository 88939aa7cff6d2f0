/- Texts of this claim, merged: TabDraw4, AgrDraw. Conditions: as stated. -/
import Derived.Test.YtnbjcelfdppkcaaGreatTabDraw3m
import Derived.Test.YtnbjcelfdppkcaaGreatTc2
import Derived.Deep.RegionLaw
import Derived.Test.YtnbjcelfdppkcaaGreatTc3
namespace Go.Proofs.YtnbjcelfdppkcaaGreat
open Go.RowKit

def DrawTab (w : World) (e : Ending) (w' : World) : Prop :=
  ∃ (cc : Int) (u : Value) (ll : List (List Int)), e = .returned (.agg #[.int .i64 cc, u]) ∧ ll.length ≤ 20 ∧ (∀ r ∈ ll, r.length ≤ 10) ∧ OwnSS w' w.heap.size w'.heap.size u ll ∧ Below w.heap.size w w'
def DrawTabInt (lo hi : Int) (w : World) (e : Ending) (w' : World) : Prop :=
  ∃ (cc : Int) (u : Value) (ll : List (List Int)) (q : Int), lo ≤ q ∧ q ≤ hi ∧ e = .returned (.tuple #[.agg #[.int .i64 cc, u], .int .i64 q]) ∧ ll.length ≤ 20 ∧ (∀ r ∈ ll, r.length ≤ 10) ∧ OwnSS w' w.heap.size w'.heap.size u ll ∧ Below w.heap.size w w'
/-- The result's own cell holds the table, which is new. -/
def FinT (w : World) (cc : Int) (u : Value) (ll : List (List Int)) (x : World) : Prop :=
  BoxIs x w.heap.size cc u ∧ OwnSS x w.heap.size x.heap.size u ll ∧ w.grownBy x none
theorem FinT.mk {w x : World} {C : Nat} {cc : Int} {u : Value} {ll : List (List Int)} (hz : BoxIs x w.heap.size 0 (.slice none 0 0)) (hs : OwnSS x (w.heap.size + 1) C u ll) (hC : C ≤ x.heap.size) (hg : w.grownBy x none) :
    FinT w cc u ll ((x.setCell ⟨w.heap.size, 0, none⟩ (.int .i64 cc)).setCell ⟨w.heap.size, 1, none⟩ u) :=
  ⟨(hz.set0 (cc' := cc)).set (rv' := u),
   (hs.same (((Same.refl _ _ _).setCell (p := ⟨w.heap.size, 0, none⟩) (.inl (by show w.heap.size < _; omega)) (.int .i64 cc)).setCell (p := ⟨w.heap.size, 1, none⟩) (.inl (by show w.heap.size < _; omega)) u)).base (by omega) (by simp; omega),
   grown_set (grown_set hg (p := ⟨w.heap.size, 0, none⟩) (Nat.le_refl _) _) (p := ⟨w.heap.size, 1, none⟩) (Nat.le_refl _) _⟩
theorem FinT.go {w x y : World} {B C c : Nat} {cc : Int} {u : Value} {ll : List (List Int)} (h : FinT w cc u ll x) (hg : x.grownBy y (some c)) (hs : OwnSS x B C u ll) (hB : w.heap.size ≤ B) (hcB : c < B) (hC : C ≤ x.heap.size) (hc : w.heap.size < c) : FinT w cc u ll y :=
  ⟨h.1.grown hg (by simp; omega), (hs.same (same_grown hg hC hcB)).base hB (Nat.le_trans hC hg.size), grown_above h.2.2 hg (fun g e => by simp at e; omega)⟩
end Go.Proofs.YtnbjcelfdppkcaaGreat
namespace Go.Proofs.YtnbjcelfdppkcaaGreat
open Go.RowKit

def CurList (most : Nat) (W : World) (v : Value) (n c : Nat) (w : World) (e : Ending) (w' : World) : Prop :=
  ∃ (u : Value) (l : List Int), e = .returned u ∧ l.length ≤ most ∧ (∀ x ∈ l, -1 ≤ x ∧ x ≤ 33) ∧ OwnI w' w.heap.size u l ∧ w.grownBy w' (some c) ∧ Cur W v n c w'
def DrawnList (w : World) (e : Ending) (w' : World) : Prop := ∃ (u : Value) (l : List Int), e = .returned u ∧ l.length ≤ 7 ∧ (∀ x ∈ l, -1 ≤ x ∧ x ≤ 33) ∧ OwnI w' w.heap.size u l ∧ Below w.heap.size w w'
end Go.Proofs.YtnbjcelfdppkcaaGreat
