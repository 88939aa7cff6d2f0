/- Texts of this claim, merged: Cut, SpecQ, SpecQ2, SpecQ3. Conditions: as stated. -/
import Derived.Test.YtnbjcelfdppkcaaGreatTc4
namespace Go.Proofs.YtnbjcelfdppkcaaGreat
open Go.RowKit

/-- p before the first part. -/
def glue (p : List UInt8) : List (List UInt8) → List (List UInt8)
  | [] => [p]
  | h :: r => (p ++ h) :: r
/-- The parts between the bytes b. -/
def cutL (b : UInt8) : List UInt8 → List (List UInt8)
  | [] => [[]]
  | x :: t => if x = b then [] :: cutL b t else glue [x] (cutL b t)
theorem cutL_ne (b : UInt8) (l : List UInt8) : cutL b l ≠ [] := by
  cases l with
  | nil => simp [cutL]
  | cons x t =>
    unfold cutL
    split
    · simp
    · cases h : cutL b t <;> simp [glue]
theorem glue_glue (p q : List UInt8) (l : List (List UInt8)) (h : l ≠ []) : glue p (glue q l) = glue (p ++ q) l := by
  cases l with
  | nil => exact absurd rfl h
  | cons a t => simp [glue]
theorem glue_nil (l : List (List UInt8)) (h : l ≠ []) : glue [] l = l := by
  cases l with
  | nil => exact absurd rfl h
  | cons a t => simp [glue]
theorem cutL_len (b : UInt8) (l : List UInt8) : (cutL b l).length ≤ l.length + 1 ∧ ∀ p ∈ cutL b l, p.length ≤ l.length := by
  induction l with
  | nil => simp [cutL]
  | cons x t ih =>
    unfold cutL
    split
    · refine ⟨by simp; exact ih.1, fun p hp => ?_⟩
      rw [List.mem_cons] at hp
      rcases hp with rfl | hp
      · simp
      · have := ih.2 p hp; simp; omega
    · cases h : cutL b t with
      | nil => exact absurd h (cutL_ne b t)
      | cons a r =>
        rw [h] at ih
        simp only [glue]
        refine ⟨by have := ih.1; simp at this ⊢; omega, fun p hp => ?_⟩
        rw [List.mem_cons] at hp
        rcases hp with rfl | hp
        · have := ih.2 a (by simp); simp; omega
        · have := ih.2 p (by simp [hp]); simp; omega
theorem cutL_append (b : UInt8) (l r : List UInt8) : cutL b (l ++ b :: r) = cutL b l ++ cutL b r := by
  induction l with
  | nil => simp [cutL]
  | cons x t ih =>
    show (if x = b then [] :: cutL b (t ++ b :: r) else glue [x] (cutL b (t ++ b :: r))) = (if x = b then [] :: cutL b t else glue [x] (cutL b t)) ++ cutL b r
    rw [ih]
    split
    · rfl
    · cases h : cutL b t with
      | nil => exact absurd h (cutL_ne b t)
      | cons a q => rfl
theorem cutL_end (b : UInt8) (l : List UInt8) (h : ∀ x ∈ l, x ≠ b) : cutL b l = [l] := by
  induction l with
  | nil => simp [cutL]
  | cons x t ih =>
    have hx := h x (by simp)
    show (if x = b then [] :: cutL b t else glue [x] (cutL b t)) = _
    rw [if_neg hx, ih (fun y hy => h y (by simp [hy]))]
    rfl
theorem cutL_at (b : UInt8) (l : List UInt8) (k : Nat) (h : k < l.length) : cutL b (l.drop k) = if l[k] = b then [] :: cutL b (l.drop (k + 1)) else glue [l[k]] (cutL b (l.drop (k + 1))) := by
  rw [List.drop_eq_getElem_cons h]; rfl
/-- The value that a part stands for. -/
def valueM (l : List UInt8) : Int := if l = [110, 117, 108, 108] then -1 else if dk l ≤ 9 ∧ Lib.itoa (val l) = l ∧ 0 ≤ val l then val l else -100000
def rowM (l : List UInt8) : List Int := (cutL 32 l).map valueM
/-- The table that a text is read as, before it is looked at. -/
def tabC (s : List UInt8) : Int := ((((cutL 10 s).getD 0 []).length : Nat) : Int)
def tabR (s : List UInt8) : List (List Int) := (((cutL 10 s).drop 1).dropLast).map rowM
/-- What a text is read as. -/
def parC (s : ByteArray) : Int := if s.data.toList ≠ [] ∧ fmtT (tabC s.data.toList) (tabR s.data.toList) = s then tabC s.data.toList else 0
def parR (s : ByteArray) : List (List Int) := if s.data.toList ≠ [] ∧ fmtT (tabC s.data.toList) (tabR s.data.toList) = s then tabR s.data.toList else []
def parOk (s : ByteArray) : Bool := decide (s.data.toList ≠ [] ∧ fmtT (tabC s.data.toList) (tabR s.data.toList) = s)

/-! ### A table's own text is read back -/
theorem itoa_small (i : Fin 41) : (Lib.itoa ((i.val : Nat) : Int) = if i.val < 10 then [UInt8.ofNat (48 + i.val)] else [UInt8.ofNat (48 + i.val / 10), UInt8.ofNat (48 + i.val % 10)]) := by
  have h := i.isLt
  have e : Lib.itoa ((i.val : Nat) : Int) = Lib.decDigits i.val := by
    unfold Lib.itoa; rw [if_neg (by omega)]; rfl
  rw [e]
  by_cases h1 : i.val < 10
  · rw [Lib.decDigits, dif_pos h1, if_pos h1]
  · rw [Lib.decDigits, dif_neg h1, Lib.decDigits, dif_pos (by omega), if_neg h1]
    rfl
theorem small_bytes : ∀ i : Fin 41, ∀ b ∈ (if i.val < 10 then [UInt8.ofNat (48 + i.val)] else [UInt8.ofNat (48 + i.val / 10), UInt8.ofNat (48 + i.val % 10)]), b ≠ 10 ∧ b ≠ 32 ∧ b ≠ 110 := by decide +kernel
theorem cellB_eq (x : Int) : cellB x = if x = -1 then [110, 117, 108, 108] else Lib.itoa x := by
  unfold cellB cellS itoaB
  split <;> rfl
theorem cellB_bytes {x : Int} (h0 : -1 ≤ x) (h1 : x ≤ 40) : ∀ b ∈ cellB x, b ≠ 10 ∧ b ≠ 32 := by
  intro b hb
  rw [cellB_eq] at hb
  by_cases hx : x = -1
  · rw [if_pos hx] at hb
    simp at hb
    rcases hb with rfl | rfl | rfl <;> decide
  · rw [if_neg hx] at hb
    obtain ⟨X, rfl⟩ : ∃ X : Nat, x = (X : Int) := ⟨x.toNat, by omega⟩
    rw [itoa_small ⟨X, by omega⟩] at hb
    have := small_bytes ⟨X, by omega⟩ b hb
    exact ⟨this.1, this.2.1⟩
theorem value_cell {x : Int} (h0 : -1 ≤ x) (h1 : x ≤ 40) : valueM (cellB x) = x := by
  rw [cellB_eq]
  unfold valueM
  by_cases hx : x = -1
  · rw [if_pos hx, if_pos rfl]; exact hx.symm
  · rw [if_neg hx]
    obtain ⟨X, rfl⟩ : ∃ X : Nat, x = (X : Int) := ⟨x.toNat, by omega⟩
    have hne : Lib.itoa (X : Int) ≠ [110, 117, 108, 108] := by
      intro e
      have hb := small_bytes ⟨X, by omega⟩
      rw [← itoa_small ⟨X, by omega⟩] at hb
      exact (hb 110 (by simp only; rw [e]; simp)).2.2 rfl
    have hp := itoa_parts (X : Int)
    have hl := itoa_len (m := (X : Int)) ⟨by omega, by omega⟩
    rw [if_neg hne, hp.2.2, if_pos ⟨hl.2.1, rfl, by omega⟩]
theorem cell_at {r : List Int} (h : ∀ x ∈ r, -1 ≤ x ∧ x ≤ 40) {k : Nat} (hk : k < r.length) : -1 ≤ r.getD k 0 ∧ r.getD k 0 ≤ 40 := h _ (by rw [← get_getD r k hk]; exact List.getElem_mem _)
theorem rowPre_cut {r : List Int} (h : ∀ x ∈ r, -1 ≤ x ∧ x ≤ 40) (k : Nat) (hk : k < r.length) : cutL 32 (rowPre r (k + 1)) = (r.take (k + 1)).map cellB := by
  have hend : ∀ k, k < r.length → cutL 32 (cellB (r.getD k 0)) = [cellB (r.getD k 0)] := fun k hk => cutL_end _ _ fun b hb => (cellB_bytes (cell_at h hk).1 (cell_at h hk).2 b hb).2
  induction k with
  | zero =>
    rw [take_succ_getD r 0 0 hk]
    show cutL 32 ([] ++ ((if 0 < 0 then [32] else []) ++ cellB (r.getD 0 0))) = _
    rw [if_neg (by omega), List.nil_append, List.nil_append, hend 0 hk]
    simp
  | succ k ih =>
    rw [take_succ_getD r 0 (k + 1) hk, List.map_append, ← ih (by omega)]
    show cutL 32 (rowPre r (k + 1) ++ ((if 0 < k + 1 then [32] else []) ++ cellB (r.getD (k + 1) 0))) = _
    rw [if_pos (by omega), List.singleton_append, cutL_append, hend (k + 1) hk]
    rfl
theorem row_back {r : List Int} (h : ∀ x ∈ r, -1 ≤ x ∧ x ≤ 40) (hl : 0 < r.length) : rowM (rowPre r r.length) = r := by
  obtain ⟨k, hk⟩ : ∃ k, r.length = k + 1 := ⟨r.length - 1, by omega⟩
  unfold rowM
  rw [hk, rowPre_cut h k (by omega), List.take_of_length_le (by omega), List.map_map]
  conv => rhs; rw [← List.map_id r]
  apply List.map_congr_left
  intro x hx
  exact value_cell (h x hx).1 (h x hx).2
theorem rowPre_bytes {r : List Int} (h : ∀ x ∈ r, -1 ≤ x ∧ x ≤ 40) (k : Nat) (hk : k ≤ r.length) : ∀ b ∈ rowPre r k, b ≠ 10 := by
  induction k with
  | zero => intro b hb; simp [rowPre] at hb
  | succ k ih =>
    intro b hb
    unfold rowPre at hb
    rw [List.mem_append, List.mem_append] at hb
    rcases hb with hb | hb | hb
    · exact ih (by omega) b hb
    · split at hb
      · simp at hb; subst hb; decide
      · simp at hb
    · exact (cellB_bytes (cell_at h (by omega)).1 (cell_at h (by omega)).2 b hb).1
/-- The first line's letters. -/
def letC (c : Int) : List UInt8 := (fmtA (2 ^ c.toNat - 1)).data.toList
theorem letC_facts : ∀ C : Fin 6, C.val ≠ 0 → ((letC ((C.val : Nat) : Int)).length = C.val ∧ ∀ b ∈ letC ((C.val : Nat) : Int), b ≠ 10) := by decide +kernel
def tabT (c : Int) (ll : List (List Int)) : Nat → List UInt8
  | 0 => letC c
  | i + 1 => tabT c ll i ++ 10 :: rowPre (ll.getD i []) (ll.getD i []).length
theorem tabT_eq (c : Int) (ll : List (List Int)) (i : Nat) : headB c ++ rowsB ll i = tabT c ll i ++ [10] := by
  induction i with
  | zero => show headB c ++ [] = letC c ++ [10]; rw [List.append_nil]; rfl
  | succ i ih =>
    show headB c ++ (rowsB ll i ++ (rowPre (ll.getD i []) (ll.getD i []).length ++ [10])) = (tabT c ll i ++ 10 :: rowPre (ll.getD i []) (ll.getD i []).length) ++ [10]
    rw [← List.append_assoc, ih]
    simp
theorem tabT_cut {c : Int} {ll : List (List Int)} (h : isT c ll = true) (i : Nat) (hi : i ≤ ll.length) : cutL 10 (tabT c ll i) = letC c :: (ll.take i).map (fun r => rowPre r r.length) := by
  obtain ⟨c1, c5, -⟩ := isT_bd h
  have hlet := letC_facts ⟨c.toNat, by omega⟩ (by simp only; omega)
  simp only [show ((c.toNat : Nat) : Int) = c by omega] at hlet
  induction i with
  | zero => show cutL 10 (letC c) = _; rw [cutL_end _ _ hlet.2]; simp
  | succ i ih =>
    have hr := (isT_row h (show i < ll.length by omega)).2
    show cutL 10 (tabT c ll i ++ 10 :: rowPre (ll.getD i []) (ll.getD i []).length) = _
    rw [cutL_append, ih (by omega), cutL_end _ _ (rowPre_bytes hr _ (Nat.le_refl _)), take_succ_getD ll [] i (by omega), List.map_append]
    rfl
theorem fmtT_ok {c : Int} {ll : List (List Int)} (h : isT c ll = true) : (fmtT c ll).data.toList = tabT c ll ll.length ++ [10] := by
  unfold fmtT
  rw [if_pos h]
  show headB c ++ rowsB ll ll.length = _
  exact tabT_eq c ll ll.length
theorem tab_back {c : Int} {ll : List (List Int)} (h : isT c ll = true) : tabC (fmtT c ll).data.toList = c ∧ tabR (fmtT c ll).data.toList = ll := by
  obtain ⟨c1, c5, -⟩ := isT_bd h
  have hlet := letC_facts ⟨c.toNat, by omega⟩ (by simp only; omega)
  simp only [show ((c.toNat : Nat) : Int) = c by omega] at hlet
  have hcut : cutL 10 (fmtT c ll).data.toList = letC c :: (ll.map (fun r => rowPre r r.length) ++ [[]]) := by
    rw [fmtT_ok h, cutL_append, tabT_cut h ll.length (Nat.le_refl _), List.take_length]
    rfl
  unfold tabC tabR
  rw [hcut]
  refine ⟨?_, ?_⟩
  · show (((letC c).length : Nat) : Int) = c
    rw [hlet.1]; omega
  · rw [List.drop_succ_cons, List.drop_zero, List.dropLast_concat, List.map_map]
    conv => rhs; rw [← List.map_id ll]
    apply List.map_congr_left
    intro r hr
    obtain ⟨k, hk, rfl⟩ := List.mem_iff_getElem.1 hr
    have h2 := isT_row h hk
    rw [List.getD_eq_getElem?_getD, List.getElem?_eq_getElem hk] at h2
    exact row_back h2.2 (by have := h2.1; simp at this; omega)
theorem fmtT_ne {c : Int} {ll : List (List Int)} (h : isT c ll = true) : (fmtT c ll).data.toList ≠ [] := by rw [fmtT_ok h]; simp
theorem par_iff (s : ByteArray) : (parOk s = true ∧ isT (parC s) (parR s) = true ∧ fmtT (parC s) (parR s) = s) ∨ ((∀ c ll, isT c ll = true → fmtT c ll ≠ s) ∧ parC s = 0 ∧ parR s = [] ∧ parOk s = false) := by
  by_cases h : s.data.toList ≠ [] ∧ fmtT (tabC s.data.toList) (tabR s.data.toList) = s
  · left
    unfold parOk parC parR
    rw [if_pos h, if_pos h, decide_eq_true h]
    refine ⟨rfl, ?_, h.2⟩
    cases hT : isT (tabC s.data.toList) (tabR s.data.toList) with
    | true => rfl
    | false =>
      exfalso
      apply h.1
      rw [← h.2]
      unfold fmtT
      rw [if_neg (by rw [hT]; simp)]
  · right
    unfold parOk parC parR
    rw [if_neg h, if_neg h, decide_eq_false h]
    refine ⟨fun c ll hv e => h ⟨by rw [← e]; exact fmtT_ne hv, ?_⟩, rfl, rfl, rfl⟩
    rw [← e, (tab_back hv).1, (tab_back hv).2]
end Go.Proofs.YtnbjcelfdppkcaaGreat
namespace Go.Proofs.YtnbjcelfdppkcaaGreat
open Go.RowKit

theorem infoZ : (Tryz.prog.info? 9).map (fun i => (i.zero, i.size, i.bytes)) = some (some (.string ⟨#[]⟩), 1, 16) := by kernel_rfl
def strV (l : List UInt8) : Value := .string ⟨l.toArray⟩
/-- The slice value v owns these strings. -/
def OwnZ (w : World) (B : Nat) (v : Value) (ls : List (List UInt8)) : Prop := w.ownsRow B 9 1 v ls.length (ls.map strV)
theorem OwnZ.snoc {w : World} {B : Nat} {v : Value} {ls : List (List UInt8)} {p : List UInt8} (h : w.ownsRow B 9 1 v (ls.length + 1) (ls.map strV ++ [strV p])) : OwnZ w B v (ls ++ [p]) := by
  unfold OwnZ; rw [List.length_append, List.map_append]; exact h
theorem one_str (p : List UInt8) : ∀ u ∈ [strV p], u.oneCell' = true := by intro u hu; simp at hu; subst hu; rfl
/-- The slice value v can be read: it holds these strings. -/
def ReadZ (w : World) (v : Value) (ls : List (List UInt8)) : Prop :=
  ∃ a cap, v = .slice a ls.length cap ∧ ∀ i, i < ls.length → ∃ x, a = some x ∧ w.cell? (x.add i) = some (strV (ls.getD i []))
theorem OwnZ.read {w : World} {B : Nat} {v : Value} {ls : List (List UInt8)} (h : OwnZ w B v ls) : ReadZ w v ls := by
  rcases ownsRow_shape h with ⟨rfl, hn⟩ | ⟨g, cap, rfl, -, -, -⟩
  · exact ⟨none, 0, by rw [hn], fun i hi => by omega⟩
  · refine ⟨_, cap, rfl, fun i hi => ⟨_, rfl, ?_⟩⟩
    rw [add_zero_off, World.ownsRow.cellAt h i (by omega)]
    simp [hi]
theorem ReadZ.kept {w w' : World} {v : Value} {ls : List (List UInt8)} (h : ReadZ w v ls) (hb : Below w.heap.size w w') : ReadZ w' v ls := by
  obtain ⟨a, cap, hv, hc⟩ := h
  refine ⟨a, cap, hv, fun i hi => ?_⟩
  obtain ⟨x, hx, hcell⟩ := hc i hi
  exact ⟨x, hx, (hb.cell (World.block_lt_of_cell? w _ hcell)).trans hcell⟩
def RetZ (ls : List (List UInt8)) (w : World) (e : Ending) (w' : World) : Prop := ∃ v, e = .returned v ∧ OwnZ w' w.heap.size v ls ∧ Below w.heap.size w w'
theorem sub_one (s : ByteArray) (i : Nat) (h : i < s.size) : (s.extract i (i + 1)).data.toList = [s[i]'h] := by
  rw [ByteArray.data_extract, Array.toList_extract, List.extract_eq_take_drop, show i + 1 - i = 1 by omega]
  have hl : i < s.data.toList.length := by simpa using h
  rw [List.drop_eq_getElem_cons hl]
  rfl
theorem strV_eq (s : ByteArray) : Value.string s = strV s.data.toList := rfl
end Go.Proofs.YtnbjcelfdppkcaaGreat
namespace Go.Proofs.YtnbjcelfdppkcaaGreat
open Go.RowKit

theorem value_of_PA {l : List UInt8} {n : Int} {ok : Bool} (h : PA l n ok) (hn : l ≠ [110, 117, 108, 108]) : valueM l = if ok = true ∧ 0 ≤ n then n else -100000 := by
  unfold valueM
  rw [if_neg hn]
  by_cases h1 : dk l ≤ 9
  · by_cases h2 : Lib.itoa (val l) = l
    · obtain ⟨rfl, rfl⟩ := h.unique (PA.good h1 h2)
      by_cases h3 : 0 ≤ val l
      · rw [if_pos ⟨h1, h2, h3⟩, if_pos ⟨rfl, h3⟩]
      · rw [if_neg (fun x => h3 x.2.2), if_neg (fun x => h3 x.2)]
    · obtain ⟨rfl, rfl⟩ := h.unique (PA.other h2)
      rw [if_neg (fun x => h2 x.2.1), if_neg (fun x => by cases x.1)]
  · obtain ⟨rfl, rfl⟩ := h.unique (PA.many (by omega))
    rw [if_neg (fun x => h1 x.1), if_neg (fun x => by cases x.1)]
theorem cutL_len2 (b : UInt8) (l : List UInt8) : ∀ p ∈ cutL b l, p.length + (cutL b l).length ≤ l.length + 1 := by
  induction l with
  | nil => intro p hp; simp [cutL] at hp; subst hp; simp [cutL]
  | cons x t ih =>
    have h1 := (cutL_len b t).1
    have hn : 0 < (cutL b t).length := List.length_pos_iff.2 (cutL_ne b t)
    have e : cutL b (x :: t) = if x = b then [] :: cutL b t else glue [x] (cutL b t) := rfl
    rw [e]
    split
    · intro p hp
      rw [List.mem_cons] at hp
      rw [List.length_cons, List.length_cons]
      rcases hp with rfl | hp
      · simp; omega
      · have := ih p hp; omega
    · cases h : cutL b t with
      | nil => exact absurd h (cutL_ne b t)
      | cons a r =>
        rw [h] at ih
        intro p hp
        simp only [glue, List.mem_cons] at hp
        simp only [glue, List.length_cons]
        rcases hp with rfl | hp
        · have := ih a (by simp); simp at this ⊢; omega
        · have := ih p (by simp [hp]); simp at this ⊢; omega
/-- The lines between the first one and what stands behind the last newline. -/
def midL (s : List UInt8) : List (List UInt8) := ((cutL 10 s).drop 1).dropLast
theorem midL_len (s : List UInt8) : (midL s).length = (cutL 10 s).length - 2 := by unfold midL; rw [List.length_dropLast, List.length_drop]; omega
theorem midL_get (s : List UInt8) (j : Nat) (h : j < (midL s).length) : (midL s).getD j [] = (cutL 10 s).getD (j + 1) [] := by
  rw [midL_len] at h
  unfold midL
  rw [List.getD_eq_getElem?_getD, List.getD_eq_getElem?_getD, List.getElem?_dropLast, if_pos (by rw [List.length_drop]; omega), List.getElem?_drop, Nat.add_comm 1 j]
theorem mid_bd (s : List UInt8) (j : Nat) (h : j < (midL s).length) : ((midL s).getD j []).length + 2 ≤ s.length := by
  have h2 := h
  rw [midL_len] at h2
  have hm : (midL s).getD j [] ∈ cutL 10 s := by
    rw [midL_get s j h, List.getD_eq_getElem?_getD, List.getElem?_eq_getElem (by omega)]
    exact List.getElem_mem _
  have := cutL_len2 10 s _ hm
  omega
theorem rowM_len (l : List UInt8) : (rowM l).length ≤ l.length + 1 := by unfold rowM; rw [List.length_map]; exact (cutL_len 32 l).1
/-- A table in a variable of its own. -/
def BoxIs (w : World) (T : Nat) (c : Int) (rv : Value) : Prop := w.heap[T]? = some (.cells #[.int .i64 c, rv] 26 (0, 0))
theorem BoxIs.cells {w : World} {T : Nat} {c : Int} {rv : Value} (h : BoxIs w T c rv) : (w.cell? ⟨T, 0, none⟩ = some (.int .i64 c) ∧ w.cell? ⟨T, 1, none⟩ = some rv) ∧ w.frozen? ⟨T, 0, none⟩ = false ∧ w.frozen? ⟨T, 1, none⟩ = false := by
  unfold BoxIs at h
  refine ⟨⟨?_, ?_⟩, ?_, ?_⟩
  · rw [cell_of_row w T 0 _ _ _ h]; rfl
  · rw [cell_of_row w T 1 _ _ _ h]; rfl
  · simp [World.frozen?, h]
  · simp [World.frozen?, h]
theorem BoxIs.kept {w w' : World} {T D : Nat} {c : Int} {rv : Value} (h : BoxIs w T c rv) (hb : Below D w w') (hT : T < D) : BoxIs w' T c rv := (hb.block T hT).trans h
theorem BoxIs.set {w : World} {T : Nat} {c : Int} {rv rv' : Value} (h : BoxIs w T c rv) : BoxIs (w.setCell ⟨T, 1, none⟩ rv') T c rv' := by
  unfold BoxIs at *
  simp only [World.setCell, Array.getElem?_modify]
  rw [if_pos trivial, h]
  rfl
theorem BoxIs.lt {w : World} {T : Nat} {c : Int} {rv : Value} (h : BoxIs w T c rv) : T < w.heap.size := (Array.getElem?_eq_some_iff.1 h).1
end Go.Proofs.YtnbjcelfdppkcaaGreat
namespace Go.Proofs.YtnbjcelfdppkcaaGreat
open Go.RowKit

theorem box_grown {wr w8 : World} {T : Nat} {c : Int} {rv v : Value} {o : Obj} {E : TypeId} {n : Nat} {xs : List Value} (h : BoxIs wr T c rv) (hg : (wr.alloc o).grownBy w8 v.ownBlock) (ho : (wr.alloc o).ownsRow (T + 1) E 1 v n xs) : BoxIs w8 T c rv :=
  (hg.block T (by simp; have := h.lt; omega) (fun e => by have := (World.ownsRow.lt ho T e.symm).1; omega)).trans ((Below.heap_alloc _ _ _ h.lt).trans h)
theorem row_form {w : World} {B : Nat} {E : TypeId} {v : Value} {n : Nat} {xs : List Value} (h : w.ownsRow B E 1 v n xs) : ∃ a c, v = .slice a n c := by
  rcases ownsRow_shape h with ⟨rfl, hn⟩ | ⟨g, cap, rfl, -⟩
  · exact ⟨none, 0, by rw [hn]⟩
  · exact ⟨_, _, rfl⟩
def RetPT (s : ByteArray) (w : World) (e : Ending) (w' : World) : Prop :=
  ∃ v, e = .returned (.tuple #[.agg #[.int .i64 (parC s), v], .bool (parOk s)]) ∧ OwnSS w' w.heap.size w'.heap.size v (parR s) ∧ Below w.heap.size w w'
theorem tot_leQ (l : List (List Int)) (m : Nat) (h : ∀ r ∈ l, r.length ≤ m) : tot l ≤ l.length * m := by
  induction l with
  | nil => simp [tot]
  | cons r t ih =>
    have h1 := h r (by simp)
    have h2 := ih (fun x hx => h x (by simp [hx]))
    unfold tot at *
    rw [List.map_cons, List.sum_cons, List.length_cons, Nat.succ_mul]
    omega
theorem par_bd (s : ByteArray) : (parR s).length ≤ 1048576 ∧ tot (parR s) ≤ 1048576 := by
  rcases par_iff s with ⟨-, h, -⟩ | ⟨-, -, h, -⟩
  · have h1 := isT_bd h
    have h2 := tot_leQ (parR s) 5 (fun r hr => by
      obtain ⟨k, hk, rfl⟩ := List.getElem_of_mem hr
      have := (isT_row h hk).1
      rw [List.getD_eq_getElem?_getD, List.getElem?_eq_getElem hk] at this
      simp only [Option.getD_some] at this
      omega)
    exact ⟨by omega, by omega⟩
  · rw [h]; simp [tot]
def RetPD (rc : Int) (d : List (List Int)) (ok : Bool) (w : World) (e : Ending) (w' : World) : Prop :=
  ∃ v, e = .returned (.tuple #[.agg #[.int .i64 rc, v], .bool ok]) ∧ OwnSS w' w.heap.size w'.heap.size v d ∧ Below w.heap.size w w'
end Go.Proofs.YtnbjcelfdppkcaaGreat
