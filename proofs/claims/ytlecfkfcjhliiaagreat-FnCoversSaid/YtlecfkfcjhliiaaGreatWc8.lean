/- Texts of this claim, merged: SpecQ3. Conditions: as stated. -/
import Derived.Test.YtlecfkfcjhliiaaGreatWc7
namespace Go.Proofs.YtlecfkfcjhliiaaGreat
open Go.RowKit

theorem box_grown {wr w8 : World} {T : Nat} {c : Int} {rv v : Value} {o : Obj} {E : TypeId} {n : Nat} {xs : List Value} (h : BoxIs wr T c rv) (hg : (wr.alloc o).grownBy w8 v.ownBlock) (ho : (wr.alloc o).ownsRow (T + 1) E 1 v n xs) : BoxIs w8 T c rv :=
  (hg.block T (by simp; have := h.lt; omega) (fun e => by have := (World.ownsRow.lt ho T e.symm).1; omega)).trans ((Below.heap_alloc _ _ _ h.lt).trans h)
theorem row_form {w : World} {B : Nat} {E : TypeId} {v : Value} {n : Nat} {xs : List Value} (h : w.ownsRow B E 1 v n xs) : ∃ a c, v = .slice a n c := by
  rcases ownsRow_shape h with ⟨rfl, hn⟩ | ⟨g, cap, rfl, -⟩
  · exact ⟨none, 0, by rw [hn]⟩
  · exact ⟨_, _, rfl⟩
def RetPT (s : ByteArray) (w : World) (e : Ending) (w' : World) : Prop :=
  ∃ v, e = .returned (.tuple #[.agg #[.int .i64 (parC s), v], .bool (parOk s)]) ∧ OwnSS w' w.heap.size w'.heap.size v (parR s) ∧ Below w.heap.size w w'
theorem tot_leQ (l : List (List Int)) (m : Nat) (h : ∀ r ∈ l, r.length ≤ m) : tot l ≤ l.length * m := by
  induction l with
  | nil => simp [tot]
  | cons r t ih =>
    have h1 := h r (by simp)
    have h2 := ih (fun x hx => h x (by simp [hx]))
    unfold tot at *
    rw [List.map_cons, List.sum_cons, List.length_cons, Nat.succ_mul]
    omega
theorem par_bd (s : ByteArray) : (parR s).length ≤ 1048576 ∧ tot (parR s) ≤ 1048576 := by
  rcases par_iff s with ⟨-, h, -⟩ | ⟨-, -, h, -⟩
  · have h1 := isT_bd h
    have h2 := tot_leQ (parR s) 5 (fun r hr => by
      obtain ⟨k, hk, rfl⟩ := List.getElem_of_mem hr
      have := (isT_row h hk).1
      rw [List.getD_eq_getElem?_getD, List.getElem?_eq_getElem hk] at this
      simp only [Option.getD_some] at this
      omega)
    exact ⟨by omega, by omega⟩
  · rw [h]; simp [tot]
def RetPD (rc : Int) (d : List (List Int)) (ok : Bool) (w : World) (e : Ending) (w' : World) : Prop :=
  ∃ v, e = .returned (.tuple #[.agg #[.int .i64 rc, v], .bool ok]) ∧ OwnSS w' w.heap.size w'.heap.size v d ∧ Below w.heap.size w w'
end Go.Proofs.YtlecfkfcjhliiaaGreat
