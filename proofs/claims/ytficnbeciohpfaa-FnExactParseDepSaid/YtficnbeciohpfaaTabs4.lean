/- Tables in the laws: markTable, heldTable, by contract. Conditions: as stated. -/
import Derived.Test.YtficnbeciohpfaaTabs3
namespace Go.Proofs.Ytficnbeciohpfaa
open Go.RowKit

/-- What holds at row k of an owned slice of rows, and what becomes of the whole when that row alone is written. -/
theorem OwnSS.at {w : World} {B C : Nat} {v : Value} {ll : List (List Int)} (h : OwnSS w B C v ll) {k : Nat} (hk : k < ll.length) :
    ∃ g cap u, v = .slice (some ⟨g, 0, none⟩) ll.length cap ∧ w.cell? ⟨g, k, none⟩ = some u ∧ OwnI w B u (ll.getD k []) ∧ (∀ q, u.ownBlock = some q → q < C) ∧
      ∀ w' l', OwnI w' B u l' → w.grownBy w' u.ownBlock → OwnSS w' B C v (ll.set k l') := by
  obtain ⟨V, o1, o2, o3, o4⟩ := h
  rcases ownsRow_shape o1 with ⟨rfl, hn⟩ | ⟨g, cap, rfl, -, -, -⟩
  · omega
  · have hap : ∀ i, i < ll.length → (V i).ownBlock ≠ some g := fun i hi => row_apart o1 (o3 i hi).1 g rfl
    refine ⟨g, cap, V k, rfl, ?_, (o3 k hk).1, (o3 k hk).2, fun w' l' h1 h2 => ⟨V, ?_, o2, fun i hi => ?_, ?_⟩⟩
    · rw [World.ownsRow.cellAt o1 k (by omega)]; simp [hk]
    · rw [List.length_set]
      exact World.ownsRow.kept o1 h2 (.inr (fun e => hap k hk (by rw [← e]; rfl)))
    · rw [List.length_set] at hi
      rw [getD_set _ _ _ _ _ hk]
      by_cases hik : i = k
      · subst hik; rw [if_pos rfl]; exact ⟨h1, (o3 i hi).2⟩
      · rw [if_neg hik]
        refine ⟨(o3 i hi).1.keptBy h2 (fun q hq hq2 => ?_), (o3 i hi).2⟩
        rcases Nat.lt_or_gt_of_ne hik with hlt | hgt
        · exact o4 i k hlt hk q hq2 hq
        · exact o4 k i hgt hi q hq hq2
    · rw [List.length_set]; exact o4
/-- The rows ll, the first i of them written over with k, k + 1, and so on. -/
def mk (k : Int) (ll : List (List Int)) (i : Nat) : List (List Int) := (List.range ll.length).map fun j => if j < i then upFrom (k + (tot (ll.take j) : Int)) (ll.getD j []).length else ll.getD j []
theorem mk_len (k : Int) (ll : List (List Int)) (i : Nat) : (mk k ll i).length = ll.length := by simp [mk]
theorem mk_get (k : Int) (ll : List (List Int)) (i j : Nat) (hj : j < ll.length) : (mk k ll i).getD j [] = if j < i then upFrom (k + (tot (ll.take j) : Int)) (ll.getD j []).length else ll.getD j [] := by
  rw [List.getD_eq_getElem?_getD, List.getElem?_eq_getElem (by rw [mk_len]; exact hj)]; simp [mk]
theorem ext_getD {a b : List (List Int)} (hl : a.length = b.length) (h : ∀ j, j < a.length → a.getD j [] = b.getD j []) : a = b := by
  apply List.ext_getElem hl
  intro j h1 h2
  have := h j h1
  rwa [List.getD_eq_getElem?_getD, List.getD_eq_getElem?_getD, List.getElem?_eq_getElem h1, List.getElem?_eq_getElem h2] at this
theorem mk_zero (k : Int) (ll : List (List Int)) : mk k ll 0 = ll :=
  ext_getD (mk_len _ _ _) fun j hj => by rw [mk_len] at hj; rw [mk_get _ _ _ _ hj, if_neg (by omega)]
theorem mk_set (k : Int) (ll : List (List Int)) (i : Nat) (hi : i < ll.length) : (mk k ll i).set i (upFrom (k + (tot (ll.take i) : Int)) (ll.getD i []).length) = mk k ll (i + 1) := by
  refine ext_getD (by rw [List.length_set, mk_len, mk_len]) fun j hj => ?_
  rw [List.length_set, mk_len] at hj
  rw [getD_set _ _ _ _ _ (by rw [mk_len]; exact hi), mk_get _ _ _ _ hj, mk_get _ _ _ _ hj]
  by_cases h : j = i
  · subst h; rw [if_pos rfl, if_pos (by omega)]
  · rw [if_neg h]
    by_cases h2 : j < i
    · rw [if_pos h2, if_pos (by omega)]
    · rw [if_neg h2, if_neg (by omega)]
/-- The rows written over. -/
def upRows (k : Int) (ll : List (List Int)) : List (List Int) := mk k ll ll.length
theorem upRows_len (k : Int) (ll : List (List Int)) : (upRows k ll).length = ll.length := mk_len _ _ _
theorem upRows_get (k : Int) (ll : List (List Int)) (j : Nat) (hj : j < ll.length) : (upRows k ll).getD j [] = upFrom (k + (tot (ll.take j) : Int)) (ll.getD j []).length := by
  unfold upRows; rw [mk_get _ _ _ _ hj, if_pos hj]
def MarkSS (k : Int) (ll : List (List Int)) (B C : Nat) (v : Value) (w : World) (e : Ending) (w' : World) : Prop := e = .returned (.int .i64 (k + (tot ll : Int))) ∧ OwnSS w' B C v (upRows k ll) ∧ Mid B C w w'
def MarkT (k : Int) (ll : List (List Int)) (B C : Nat) (v : Value) (w : World) (e : Ending) (w' : World) : Prop := e = .returned (.int .i64 (k + (tot ll : Int))) ∧ OwnSS w' B C v (upRows k ll) ∧ Mid B C w w'
/-! ### Rows of ints with their bounds -/
def OwnIR (w : World) (B C : Nat) (v : Value) (l : List Int) : Prop := OwnI w B v l ∧ ∀ g, v.ownBlock = some g → g < C
theorem OwnI.range {w : World} {B : Nat} {v : Value} {l : List Int} (h : OwnI w B v l) : OwnIR w B w.heap.size v l := ⟨h, fun g hg => (h.lt g hg).2⟩
theorem OwnIR.same {w w' : World} {B C : Nat} {v : Value} {l : List Int} (h : OwnIR w B C v l) (hs : Same B C w w') : OwnIR w' B C v l := ⟨h.1.same fun g hg => hs g (h.1.lt g hg).1 (h.2 g hg), h.2⟩
theorem OwnIR.read {w : World} {B C : Nat} {v : Value} {l : List Int} (h : OwnIR w B C v l) : ReadI w v l := h.1.read
def MarkI (k : Int) (l : List Int) (B C : Nat) (v : Value) (w : World) (e : Ending) (w' : World) : Prop := e = .returned (.int .i64 (k + (l.length : Int))) ∧ OwnIR w' B C v (upFrom k l.length) ∧ Mid B C w w'
theorem eqIntR_any (v v' : Value) (l : List Int) (w : World) (hr : ReadI w v l) (hr' : ReadI w v' l) (hl : l.length ≤ 1000000000) :
    Calls Try.prog 68 #[v, v'] w fun e w' => e = .returned (.bool true) ∧ Below w.heap.size w w' :=
  (eqInt_any v v' l l w hr hr' hl).mono fun _ _ ⟨a, b⟩ => ⟨by rw [a]; unfold eqB; simp, b⟩
end Go.Proofs.Ytficnbeciohpfaa
