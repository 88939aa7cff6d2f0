/- A table's text, read from the front: plain facts. Conditions: as stated. -/
import Derived.Test.YtficnbeciohpfaaSpecQ3
namespace Go.Proofs.Ytficnbeciohpfaa
open Go.RowKit

/-- l is cut at its first byte b, if it has one. -/
def CutR (b : UInt8) (l p r : List UInt8) (e : Bool) : Prop := (e = true ∧ l = p ++ b :: r ∧ ∀ x ∈ p, x ≠ b) ∨ (e = false ∧ p = l ∧ r = [] ∧ ∀ x ∈ l, x ≠ b)
theorem CutR.parts {b : UInt8} {l p r : List UInt8} (h : CutR b l p r true) : l = p ++ b :: r ∧ cutL b l = p :: cutL b r := by
  rcases h with ⟨-, rfl, h2⟩ | ⟨h, -⟩
  · exact ⟨rfl, by rw [cutL_append, cutL_end b p h2]; rfl⟩
  · cases h
theorem CutR.whole {b : UInt8} {l p r : List UInt8} (h : CutR b l p r false) : cutL b l = [l] := by
  rcases h with ⟨h, -⟩ | ⟨-, -, -, h⟩
  · cases h
  · exact cutL_end b l h
def joinL (b : UInt8) : List (List UInt8) → List UInt8
  | [] => []
  | p :: q => if q = [] then p else p ++ b :: joinL b q
theorem joinL_cut (b : UInt8) (l : List UInt8) : joinL b (cutL b l) = l := by
  induction l with
  | nil => rfl
  | cons x t ih =>
    show joinL b (if x = b then [] :: cutL b t else glue [x] (cutL b t)) = x :: t
    by_cases hx : x = b
    · rw [if_pos hx]
      show (if cutL b t = [] then [] else [] ++ b :: joinL b (cutL b t)) = _
      rw [if_neg (cutL_ne b t), ih, hx]; rfl
    · rw [if_neg hx]
      cases h : cutL b t with
      | nil => exact absurd h (cutL_ne b t)
      | cons a q =>
        rw [h] at ih
        show (if q = [] then [x] ++ a else ([x] ++ a) ++ b :: joinL b q) = _
        have ih' : (if q = [] then a else a ++ b :: joinL b q) = t := ih
        split
        · next hq => rw [if_pos hq] at ih'; rw [ih']; rfl
        · next hq => rw [if_neg hq] at ih'; rw [List.append_assoc, ih']; rfl
theorem cutL_inj {b : UInt8} {l m : List UInt8} (h : cutL b l = cutL b m) : l = m := by rw [← joinL_cut b l, h, joinL_cut]
/-- A row's text. -/
def rowT (r : List Int) : List UInt8 := rowPre r r.length
/-- A row of c valid values. -/
def RowOK (c : Nat) (r : List Int) : Prop := r.length = c ∧ ∀ x ∈ r, -1 ≤ x ∧ x ≤ 40
theorem rowT_cut {c : Nat} {r : List Int} (h : RowOK c r) (hc : 1 ≤ c) : cutL 32 (rowT r) = r.map cellB := by
  obtain ⟨k, hk⟩ : ∃ k, r.length = k + 1 := ⟨r.length - 1, by have := h.1; omega⟩
  unfold rowT
  rw [hk, rowPre_cut h.2 k (by omega), List.take_of_length_le (by omega)]
theorem rowT_of {c : Nat} {r : List Int} {l : List UInt8} (h : RowOK c r) (hc : 1 ≤ c) (he : cutL 32 l = r.map cellB) : rowT r = l := cutL_inj (b := 32) (by rw [rowT_cut h hc, he])
theorem tab_cut {c : Int} {ll : List (List Int)} (h : isT c ll = true) : cutL 10 (fmtT c ll).data.toList = letC c :: (ll.map rowT ++ [[]]) := by
  rw [fmtT_ok h, cutL_append, tabT_cut h _ (Nat.le_refl _), List.take_length]; rfl
theorem getD_row (ll : List (List Int)) (j : Nat) (h : j < ll.length) : ll.getD j [] = ll[j] := by rw [List.getD_eq_getElem?_getD, List.getElem?_eq_getElem h]; rfl
theorem rowOK_of {c : Int} {ll : List (List Int)} (h : isT c ll = true) {C : Nat} (hC : c = (C : Int)) : ∀ r ∈ ll, RowOK C r := by
  intro r hr
  obtain ⟨j, hj, rfl⟩ := List.mem_iff_getElem.1 hr
  have := isT_row h hj
  rw [getD_row _ _ hj] at this
  exact ⟨by omega, this.2⟩
theorem isT_of {C : Nat} {ll : List (List Int)} (h1 : 1 ≤ C) (h5 : C ≤ 5) (hl : ll.length ≤ 40) (hr : ∀ r ∈ ll, RowOK C r) : isT (C : Int) ll = true := by
  unfold isT
  rw [Bool.and_eq_true, List.all_eq_true]
  refine ⟨fun r hrm => ?_, by simp; omega⟩
  obtain ⟨a, b⟩ := hr r hrm
  unfold rowOk
  rw [Bool.and_eq_true, List.all_eq_true, decide_eq_true_iff]
  exact ⟨fun x hx => by unfold cellOk; simpa using b x hx, by omega⟩
/-- So much of the text has been read: the first line and the rows L; t is left. -/
structure Pre (s : ByteArray) (C : Nat) (L : List (List Int)) (t : List UInt8) : Prop where
  c1 : 1 ≤ C
  c5 : C ≤ 5
  len : L.length ≤ 40
  rows : ∀ r ∈ L, RowOK C r
  text : s.data.toList = headB (C : Int) ++ rowsB L L.length ++ t
theorem Pre.ok {s : ByteArray} {C : Nat} {L : List (List Int)} {t : List UInt8} (h : Pre s C L t) : isT (C : Int) L = true := isT_of h.c1 h.c5 h.len h.rows
theorem Pre.cut {s : ByteArray} {C : Nat} {L : List (List Int)} {t : List UInt8} (h : Pre s C L t) : cutL 10 s.data.toList = letC (C : Int) :: (L.map rowT ++ cutL 10 t) := by
  rw [h.text, tabT_eq, List.append_assoc]
  show cutL 10 (tabT (C : Int) L L.length ++ 10 :: t) = _
  rw [cutL_append, tabT_cut h.ok _ (Nat.le_refl _), List.take_length]; rfl
theorem letC_len {C : Nat} (h1 : 1 ≤ C) (h5 : C ≤ 5) : (letC (C : Int)).length = C := (letC_facts ⟨C, by omega⟩ (by simp only; omega)).1
theorem rowT_inj {C : Nat} (hC : 1 ≤ C) {r r' : List Int} (h : RowOK C r) (h' : RowOK C r') (e : rowT r = rowT r') : r = r' := by
  have a := row_back h.2 (by have := h.1; omega)
  have b := row_back h'.2 (by have := h'.1; omega)
  unfold rowT at e
  rw [← a, ← b, e]
theorem map_inj_on {α β : Type} {f : α → β} : ∀ {l m : List α}, (∀ x ∈ l, ∀ y ∈ m, f x = f y → x = y) → l.map f = m.map f → l = m
  | [], [], _, _ => rfl
  | [], _ :: _, _, h => by simp at h
  | _ :: _, [], _, h => by simp at h
  | a :: l, b :: m, hi, h => by
    rw [List.map_cons, List.map_cons, List.cons.injEq] at h
    rw [hi a (by simp) b (by simp) h.1, map_inj_on (fun x hx y hy => hi x (by simp [hx]) y (by simp [hy])) h.2]
/-- If the whole is a table's text, what is left is its other rows. -/
theorem Pre.rest {s : ByteArray} {C : Nat} {L : List (List Int)} {t : List UInt8} (h : Pre s C L t) {c' : Int} {ll : List (List Int)} (ht : isT c' ll = true) (hs : fmtT c' ll = s) :
    c' = (C : Int) ∧ ∃ K, ll = L ++ K ∧ (∀ r ∈ K, RowOK C r) ∧ L.length + K.length ≤ 40 ∧ cutL 10 t = K.map rowT ++ [[]] := by
  obtain ⟨k1, k5, k40⟩ := isT_bd ht
  obtain ⟨C', rfl⟩ : ∃ C' : Nat, c' = (C' : Int) := ⟨c'.toNat, by omega⟩
  have e := tab_cut ht
  rw [hs, h.cut, List.cons.injEq] at e
  obtain ⟨e1, e2⟩ := e
  have hCC : C' = C := by
    have := congrArg List.length e1
    rw [letC_len h.c1 h.c5, letC_len (by omega) (by omega)] at this
    exact this.symm
  subst hCC
  have hrows := rowOK_of ht rfl
  have hle : L.length ≤ ll.length := by
    have := congrArg List.length e2
    simp only [List.length_append, List.length_map, List.length_singleton] at this
    have := List.length_pos_iff.2 (cutL_ne 10 t)
    omega
  have e3 : L.map rowT ++ cutL 10 t = (ll.take L.length).map rowT ++ ((ll.drop L.length).map rowT ++ [[]]) := by
    rw [e2, ← List.append_assoc, ← List.map_append, List.take_append_drop]
  obtain ⟨e4, e5⟩ := List.append_inj e3 (by simp; omega)
  have e6 : L = ll.take L.length := map_inj_on (fun x hx y hy hxy => rowT_inj h.c1 (h.rows x hx) (hrows y (List.mem_of_mem_take hy)) hxy) e4
  refine ⟨rfl, ll.drop L.length, ?_, fun r hr => hrows r (List.mem_of_mem_drop hr), by rw [List.length_drop]; omega, e5⟩
  conv => lhs; rw [← List.take_append_drop L.length ll]
  rw [← e6]
theorem rowsB_app (L : List (List Int)) (r : List Int) : ∀ i, i ≤ L.length → rowsB (L ++ [r]) i = rowsB L i := by
  intro i
  induction i with
  | zero => intro _; rfl
  | succ i ih =>
    intro h
    show rowsB (L ++ [r]) i ++ rowB ((L ++ [r]).getD i []) = rowsB L i ++ rowB (L.getD i [])
    rw [ih (by omega), getD_snoc _ _ _ _ (by omega), if_pos (by omega)]
theorem Pre.snoc {s : ByteArray} {C : Nat} {L : List (List Int)} {t p t' : List UInt8} {r : List Int} (h : Pre s C L t) (hc : CutR 10 t p t' true) (hl : L.length < 40) (hr : RowOK C r) (he : rowT r = p) : Pre s C (L ++ [r]) t' := by
  refine ⟨h.c1, h.c5, by rw [List.length_append, List.length_singleton]; omega, fun q hq => ?_, ?_⟩
  · rcases List.mem_append.1 hq with hq | hq
    · exact h.rows q hq
    · rw [List.mem_singleton] at hq; rw [hq]; exact hr
  · rw [h.text, hc.parts.1, List.length_append, List.length_singleton]
    show _ = headB (C : Int) ++ (rowsB (L ++ [r]) L.length ++ rowB ((L ++ [r]).getD L.length [])) ++ t'
    rw [rowsB_app L r _ (Nat.le_refl _), getD_snoc _ _ _ _ (by omega), if_neg (by omega), ← he]
    show _ = headB (C : Int) ++ (rowsB L L.length ++ (rowPre r r.length ++ [10])) ++ t'
    unfold rowT
    simp only [List.append_assoc, List.cons_append, List.nil_append]
theorem par_of {s : ByteArray} {c : Int} {ll : List (List Int)} (h : isT c ll = true) (hs : fmtT c ll = s) : parC s = c ∧ parR s = ll ∧ parOk s = true := by
  subst hs
  obtain ⟨e1, e2⟩ := tab_back h
  have hcond : (fmtT c ll).data.toList ≠ [] ∧ fmtT (tabC (fmtT c ll).data.toList) (tabR (fmtT c ll).data.toList) = fmtT c ll := ⟨fmtT_ne h, by rw [e1, e2]⟩
  unfold parC parR parOk
  rw [if_pos hcond, if_pos hcond, e1, e2]
  exact ⟨rfl, rfl, by simp [fmtT_ne h]⟩
theorem par_no {s : ByteArray} (h : ∀ c ll, isT c ll = true → fmtT c ll ≠ s) : parC s = 0 ∧ parR s = [] ∧ parOk s = false := by
  rcases par_iff s with ⟨-, h1, h2⟩ | ⟨-, h1, h2, h3⟩
  · exact absurd h2 (h _ _ h1)
  · exact ⟨h1, h2, h3⟩
theorem Pre.done {s : ByteArray} {C : Nat} {L : List (List Int)} (h : Pre s C L []) : parC s = (C : Int) ∧ parR s = L ∧ parOk s = true := by
  refine par_of h.ok (str_ext ?_)
  unfold fmtT
  rw [if_pos h.ok, h.text, List.append_nil]
/-- What is left has no line. -/
theorem Pre.noLine {s : ByteArray} {C : Nat} {L : List (List Int)} {t p r : List UInt8} (h : Pre s C L t) (hc : CutR 10 t p r false) (hne : t ≠ []) : parC s = 0 ∧ parR s = [] ∧ parOk s = false :=
  par_no fun c' ll ht hs => by
    obtain ⟨-, K, -, -, -, e⟩ := h.rest ht hs
    rw [hc.whole] at e
    cases K with
    | nil => simp at e; exact hne e
    | cons a K => simp at e
/-- There are too many lines. -/
theorem Pre.noRoom {s : ByteArray} {C : Nat} {L : List (List Int)} {t : List UInt8} (h : Pre s C L t) (hl : L.length = 40) (hne : t ≠ []) : parC s = 0 ∧ parR s = [] ∧ parOk s = false :=
  par_no fun c' ll ht hs => by
    obtain ⟨-, K, -, -, hk, e⟩ := h.rest ht hs
    obtain rfl : K = [] := List.eq_nil_of_length_eq_zero (by omega)
    exact hne (cutL_inj (b := 10) (by rw [e]; rfl))
/-- A line is no row. -/
theorem Pre.noRow {s : ByteArray} {C : Nat} {L : List (List Int)} {t p r : List UInt8} (h : Pre s C L t) (hc : CutR 10 t p r true) (hr : ∀ q, RowOK C q → rowT q ≠ p) : parC s = 0 ∧ parR s = [] ∧ parOk s = false :=
  par_no fun c' ll ht hs => by
    obtain ⟨-, K, -, hK, -, e⟩ := h.rest ht hs
    rw [hc.parts.2] at e
    cases K with
    | nil => simp at e; exact cutL_ne 10 r e.2
    | cons a K =>
      rw [List.map_cons, List.cons_append, List.cons.injEq] at e
      exact hr a (hK a (by simp)) e.1.symm
/-- The first line has no line's end, or is no first line. -/
theorem head_no {s : ByteArray} {p r : List UInt8} {e : Bool} (hc : CutR 10 s.data.toList p r e) (h : e = false ∨ ∀ C : Nat, 1 ≤ C → C ≤ 5 → letC (C : Int) ≠ p) : parC s = 0 ∧ parR s = [] ∧ parOk s = false :=
  par_no fun c ll ht hs => by
    obtain ⟨k1, k5, k40⟩ := isT_bd ht
    obtain ⟨C, rfl⟩ : ∃ C : Nat, c = (C : Int) := ⟨c.toNat, by omega⟩
    have e1 := tab_cut ht
    rw [hs] at e1
    cases e with
    | false => rw [hc.whole] at e1; simp at e1
    | true =>
      rw [hc.parts.2, List.cons.injEq] at e1
      rcases h with h | h
      · cases h
      · exact h C (by omega) (by omega) e1.1.symm
theorem head_ok {s : ByteArray} {p r : List UInt8} {C : Nat} (hc : CutR 10 s.data.toList p r true) (h1 : 1 ≤ C) (h5 : C ≤ 5) (h : letC (C : Int) = p) : Pre s C [] r :=
  ⟨h1, h5, by simp, by simp, by rw [hc.parts.1, ← h]; show letC (C : Int) ++ 10 :: r = (letC (C : Int) ++ [10]) ++ [] ++ r; simp⟩
end Go.Proofs.Ytficnbeciohpfaa
