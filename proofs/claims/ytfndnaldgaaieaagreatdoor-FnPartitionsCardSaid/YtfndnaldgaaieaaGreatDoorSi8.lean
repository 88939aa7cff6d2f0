/- Texts of this claim, merged: SpecQ2, SpecQ3. Conditions: as stated. -/
import Derived.Test.YtfndnaldgaaieaaGreatDoorSi7
namespace Go.Proofs.YtfndnaldgaaieaaGreatDoor
open Go.RowKit

theorem value_of_PA {l : List UInt8} {n : Int} {ok : Bool} (h : PA l n ok) (hn : l ≠ [110, 117, 108, 108]) : valueM l = if ok = true ∧ 0 ≤ n then n else -100000 := by
  unfold valueM
  rw [if_neg hn]
  by_cases h1 : dk l ≤ 9
  · by_cases h2 : Lib.itoa (val l) = l
    · obtain ⟨rfl, rfl⟩ := h.unique (PA.good h1 h2)
      by_cases h3 : 0 ≤ val l
      · rw [if_pos ⟨h1, h2, h3⟩, if_pos ⟨rfl, h3⟩]
      · rw [if_neg (fun x => h3 x.2.2), if_neg (fun x => h3 x.2)]
    · obtain ⟨rfl, rfl⟩ := h.unique (PA.other h2)
      rw [if_neg (fun x => h2 x.2.1), if_neg (fun x => by cases x.1)]
  · obtain ⟨rfl, rfl⟩ := h.unique (PA.many (by omega))
    rw [if_neg (fun x => h1 x.1), if_neg (fun x => by cases x.1)]
theorem cutL_len2 (b : UInt8) (l : List UInt8) : ∀ p ∈ cutL b l, p.length + (cutL b l).length ≤ l.length + 1 := by
  induction l with
  | nil => intro p hp; simp [cutL] at hp; subst hp; simp [cutL]
  | cons x t ih =>
    have h1 := (cutL_len b t).1
    have hn : 0 < (cutL b t).length := List.length_pos_iff.2 (cutL_ne b t)
    have e : cutL b (x :: t) = if x = b then [] :: cutL b t else glue [x] (cutL b t) := rfl
    rw [e]
    split
    · intro p hp
      rw [List.mem_cons] at hp
      rw [List.length_cons, List.length_cons]
      rcases hp with rfl | hp
      · simp; omega
      · have := ih p hp; omega
    · cases h : cutL b t with
      | nil => exact absurd h (cutL_ne b t)
      | cons a r =>
        rw [h] at ih
        intro p hp
        simp only [glue, List.mem_cons] at hp
        simp only [glue, List.length_cons]
        rcases hp with rfl | hp
        · have := ih a (by simp); simp at this ⊢; omega
        · have := ih p (by simp [hp]); simp at this ⊢; omega
/-- The lines between the first one and what stands behind the last newline. -/
def midL (s : List UInt8) : List (List UInt8) := ((cutL 10 s).drop 1).dropLast
theorem midL_len (s : List UInt8) : (midL s).length = (cutL 10 s).length - 2 := by unfold midL; rw [List.length_dropLast, List.length_drop]; omega
theorem midL_get (s : List UInt8) (j : Nat) (h : j < (midL s).length) : (midL s).getD j [] = (cutL 10 s).getD (j + 1) [] := by
  rw [midL_len] at h
  unfold midL
  rw [List.getD_eq_getElem?_getD, List.getD_eq_getElem?_getD, List.getElem?_dropLast, if_pos (by rw [List.length_drop]; omega), List.getElem?_drop, Nat.add_comm 1 j]
theorem mid_bd (s : List UInt8) (j : Nat) (h : j < (midL s).length) : ((midL s).getD j []).length + 2 ≤ s.length := by
  have h2 := h
  rw [midL_len] at h2
  have hm : (midL s).getD j [] ∈ cutL 10 s := by
    rw [midL_get s j h, List.getD_eq_getElem?_getD, List.getElem?_eq_getElem (by omega)]
    exact List.getElem_mem _
  have := cutL_len2 10 s _ hm
  omega
theorem rowM_len (l : List UInt8) : (rowM l).length ≤ l.length + 1 := by unfold rowM; rw [List.length_map]; exact (cutL_len 32 l).1
/-- A table in a variable of its own. -/
def BoxIs (w : World) (T : Nat) (c : Int) (rv : Value) : Prop := w.heap[T]? = some (.cells #[.int .i64 c, rv] 26 (0, 0))
theorem BoxIs.cells {w : World} {T : Nat} {c : Int} {rv : Value} (h : BoxIs w T c rv) : (w.cell? ⟨T, 0, none⟩ = some (.int .i64 c) ∧ w.cell? ⟨T, 1, none⟩ = some rv) ∧ w.frozen? ⟨T, 0, none⟩ = false ∧ w.frozen? ⟨T, 1, none⟩ = false := by
  unfold BoxIs at h
  refine ⟨⟨?_, ?_⟩, ?_, ?_⟩
  · rw [cell_of_row w T 0 _ _ _ h]; rfl
  · rw [cell_of_row w T 1 _ _ _ h]; rfl
  · simp [World.frozen?, h]
  · simp [World.frozen?, h]
theorem BoxIs.kept {w w' : World} {T D : Nat} {c : Int} {rv : Value} (h : BoxIs w T c rv) (hb : Below D w w') (hT : T < D) : BoxIs w' T c rv := (hb.block T hT).trans h
theorem BoxIs.set {w : World} {T : Nat} {c : Int} {rv rv' : Value} (h : BoxIs w T c rv) : BoxIs (w.setCell ⟨T, 1, none⟩ rv') T c rv' := by
  unfold BoxIs at *
  simp only [World.setCell, Array.getElem?_modify]
  rw [if_pos trivial, h]
  rfl
theorem BoxIs.lt {w : World} {T : Nat} {c : Int} {rv : Value} (h : BoxIs w T c rv) : T < w.heap.size := (Array.getElem?_eq_some_iff.1 h).1
end Go.Proofs.YtfndnaldgaaieaaGreatDoor
namespace Go.Proofs.YtfndnaldgaaieaaGreatDoor
open Go.RowKit

theorem box_grown {wr w8 : World} {T : Nat} {c : Int} {rv v : Value} {o : Obj} {E : TypeId} {n : Nat} {xs : List Value} (h : BoxIs wr T c rv) (hg : (wr.alloc o).grownBy w8 v.ownBlock) (ho : (wr.alloc o).ownsRow (T + 1) E 1 v n xs) : BoxIs w8 T c rv :=
  (hg.block T (by simp; have := h.lt; omega) (fun e => by have := (World.ownsRow.lt ho T e.symm).1; omega)).trans ((Below.heap_alloc _ _ _ h.lt).trans h)
theorem row_form {w : World} {B : Nat} {E : TypeId} {v : Value} {n : Nat} {xs : List Value} (h : w.ownsRow B E 1 v n xs) : ∃ a c, v = .slice a n c := by
  rcases ownsRow_shape h with ⟨rfl, hn⟩ | ⟨g, cap, rfl, -⟩
  · exact ⟨none, 0, by rw [hn]⟩
  · exact ⟨_, _, rfl⟩
def RetPT (s : ByteArray) (w : World) (e : Ending) (w' : World) : Prop :=
  ∃ v, e = .returned (.tuple #[.agg #[.int .i64 (parC s), v], .bool (parOk s)]) ∧ OwnSS w' w.heap.size w'.heap.size v (parR s) ∧ Below w.heap.size w w'
theorem tot_leQ (l : List (List Int)) (m : Nat) (h : ∀ r ∈ l, r.length ≤ m) : tot l ≤ l.length * m := by
  induction l with
  | nil => simp [tot]
  | cons r t ih =>
    have h1 := h r (by simp)
    have h2 := ih (fun x hx => h x (by simp [hx]))
    unfold tot at *
    rw [List.map_cons, List.sum_cons, List.length_cons, Nat.succ_mul]
    omega
theorem par_bd (s : ByteArray) : (parR s).length ≤ 1048576 ∧ tot (parR s) ≤ 1048576 := by
  rcases par_iff s with ⟨-, h, -⟩ | ⟨-, -, h, -⟩
  · have h1 := isT_bd h
    have h2 := tot_leQ (parR s) 5 (fun r hr => by
      obtain ⟨k, hk, rfl⟩ := List.getElem_of_mem hr
      have := (isT_row h hk).1
      rw [List.getD_eq_getElem?_getD, List.getElem?_eq_getElem hk] at this
      simp only [Option.getD_some] at this
      omega)
    exact ⟨by omega, by omega⟩
  · rw [h]; simp [tot]
def RetPD (rc : Int) (d : List (List Int)) (ok : Bool) (w : World) (e : Ending) (w' : World) : Prop :=
  ∃ v, e = .returned (.tuple #[.agg #[.int .i64 rc, v], .bool ok]) ∧ OwnSS w' w.heap.size w'.heap.size v d ∧ Below w.heap.size w w'
end Go.Proofs.YtfndnaldgaaieaaGreatDoor
