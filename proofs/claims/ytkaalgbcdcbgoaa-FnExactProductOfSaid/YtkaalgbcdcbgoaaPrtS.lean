/- The sort of a row of slices that the call owns, by contract. Conditions: as stated. -/
import Derived.Test.YtkaalgbcdcbgoaaSrtV
namespace Go.Proofs.Ytkaalgbcdcbgoaa
open Go.RowKit Go.Sort Go.Shelf

set_option maxHeartbeats 800000 in
theorem sortOwn_any (B C : Nat) (v : Value) (P : List (Value × List Int)) (w : World) (hown : w.ownsRow C 46 1 v P.length (P.map (·.1))) (hP : ∀ p ∈ P, OwnI w B p.1 p.2 ∧ (∀ k, p.1.ownBlock = some k → k < C) ∧ p.2.length ≤ 1048576) (hl : P.length ≤ 1048576) :
    Calls Try.prog 60 #[v, .func (.func 61) #[] #[]] w fun e w' =>
      e = .returned (.tuple #[]) ∧ ∃ P', P'.Perm P ∧ OrdV P' ∧ w'.ownsRow C 46 1 v P'.length (P'.map (·.1)) ∧ (∀ p ∈ P', OwnI w' B p.1 p.2 ∧ (∀ k, p.1.ownBlock = some k → k < C)) ∧ Below C w w' := by
  rcases hown.2 with ⟨rfl, h0⟩ | ⟨g, cap, cur, rfl, hg, hcur, hc1, hc2, hc3, hc4⟩
  · obtain rfl : P = [] := List.eq_nil_of_length_eq_zero h0
    have hS := AnyF.slices_SortFunc_none (P := Try.prog) (ρ := sortL_ren) { sortL with } none 0 (.func (.func 61) #[] #[]) w
    change Calls Try.prog 60 _ _ _ at hS
    refine hS.mono ?_
    rintro e w' ⟨rfl, rfl⟩
    exact ⟨rfl, [], List.Perm.refl _, List.Pairwise.nil, hown, (fun p hp => by cases hp), Below.refl _ _⟩
  · have hgs : g < w.heap.size := (Array.getElem?_eq_some_iff.1 hcur).1
    have hapart : ∀ p ∈ P, p.1.ownBlock ≠ some g := fun p hp e => by have := (hP p hp).2.1 g e; omega
    rw [Nat.mul_one] at hc3 hc4
    have hR : Rws w B g P := by
      refine ⟨fun j hj => ⟨?_, ?_⟩, fun p hp => ⟨(hP p hp).1, hapart p hp, (hP p hp).2.2⟩⟩
      · rw [World.ownsRow.cellAt hown j (by omega), List.getElem?_map, List.getElem?_eq_getElem hj, getD_getV _ _ _ hj]; rfl
      · exact World.ownsRow.frozenAt hown j
    refine (sortRows_any B g cap P w hR hgs hl cur hcur (by omega)).mono ?_
    rintro e w' ⟨rfl, P', hp, ho, hR', hgr, cur', hcur', hcs, hct⟩
    have hlen := hp.length_eq
    refine ⟨rfl, P', hp, ho, ⟨by simp, .inr ⟨g, cap, cur', by rw [hlen], hg, hcur', by omega, hc2, by omega, by rw [Nat.mul_one, hlen]; exact hct⟩⟩, fun p hpm => ⟨(hR'.recs p hpm).1, (hP p (hp.mem_iff.1 hpm)).2.1⟩, ?_⟩
    exact (Below.refl _ _).grown hgr (by omega) (fun k hk => by cases hk; exact hg)
end Go.Proofs.Ytkaalgbcdcbgoaa
