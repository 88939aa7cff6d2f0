/- Texts of this claim, merged: ImD, PrsA, PrsB. Conditions: as stated. -/
import Derived.Test.YtfndnaldgaaieaaSh25
import Derived.Test.YtfndnaldgaaieaaSh8
import Derived.Test.YtfndnaldgaaieaaShelf
import Derived.Lib.IndexLaws
namespace Go.Proofs.Ytfndnaldgaaieaa
open Go.RowKit

/-! ### The set that letters stand for -/
def letB (c : UInt8) : Bool := decide (65 ≤ c.toNat ∧ c.toNat ≤ 69)
def orL (l : List UInt8) : Nat := l.foldl (fun a c => a ||| 2 ^ (c.toNat - 65)) 0
theorem orL_snoc (l : List UInt8) (c : UInt8) : orL (l ++ [c]) = orL l ||| 2 ^ (c.toNat - 65) := by simp [orL]
theorem orL_lt (l : List UInt8) (h : l.all letB = true) : orL l < 32 := by
  unfold orL
  suffices ∀ a, a < 32 → l.foldl (fun a c => a ||| 2 ^ (c.toNat - 65)) a < 32 from this 0 (by omega)
  induction l with
  | nil => intro a ha; exact ha
  | cons c l ih =>
    intro a ha
    simp [List.all_cons] at h
    rw [List.foldl_cons]
    refine ih (by simpa using h.2) _ ?_
    have h1 := h.1
    unfold letB at h1
    simp at h1
    have h2 : 2 ^ (c.toNat - 65) < 2 ^ 5 := Nat.pow_lt_pow_right (by omega) (by omega)
    exact Nat.or_lt_two_pow (n := 5) ha h2
theorem texts_let : ∀ j : Fin 32, j.val ≠ 0 → ((fmtA ((j.val : Nat) : Int)).data.toList.all letB = true ∧ orL (fmtA ((j.val : Nat) : Int)).data.toList = j.val) := by decide +kernel
theorem text_zero : (fmtA 0).data.toList = [110, 111, 110, 101] := by decide +kernel
theorem take_all {l : List UInt8} {k : Nat} {p : UInt8 → Bool} (h : l.all p = true) : (l.take k).all p = true := by
  rw [List.all_eq_true] at *
  intro x hx; exact h x (List.mem_of_mem_take hx)
/-- A text that is not 'none' and has a byte that is no letter is no text of a set. -/
theorem PaA.bad {s : ByteArray} {k : Nat} (hn : s.data.toList ≠ [110, 111, 110, 101]) (hk : k < s.size) (hb : letB (s[k]'hk) = false) : PaA s 0 false := by
  refine .inr ⟨fun j hj => ?_, rfl, rfl⟩
  rw [isTx_eq]
  rw [beq_eq_false_iff_ne]
  intro e
  by_cases h0 : j = 0
  · subst h0; apply hn; rw [← e]; exact text_zero
  · have h := (texts_let ⟨j, hj⟩ h0).1
    simp only [e] at h
    rw [List.all_eq_true] at h
    have := h (s[k]'hk) (by rw [show s[k] = s.data.toList[k]'(by simpa using hk) from rfl]; exact List.getElem_mem _)
    rw [hb] at this; cases this
theorem PaA.good {s : ByteArray} {X : Nat} (hX : X < 32) (he : (fmtA (X : Int)).data.toList = s.data.toList) : PaA s (X : Int) true := by
  refine .inl ⟨X, hX, rfl, by rw [isTx_eq]; simp [he], fun j hj => ?_, rfl⟩
  rw [isTx_eq, ← he]
  have := texts_apart ⟨X, hX⟩ ⟨j, by omega⟩
  simp only at this
  rw [this]; simp; omega
theorem PaA.other {s : ByteArray} (hn : s.data.toList ≠ [110, 111, 110, 101]) (he : (fmtA (orL s.data.toList : Int)).data.toList ≠ s.data.toList) : PaA s 0 false := by
  refine .inr ⟨fun j hj => ?_, rfl, rfl⟩
  rw [isTx_eq, beq_eq_false_iff_ne]
  intro e
  by_cases h0 : j = 0
  · subst h0; apply hn; rw [← e]; exact text_zero
  · have h := (texts_let ⟨j, hj⟩ h0).2
    simp only [e] at h
    apply he
    rw [h, e]
theorem PaA.none {s : ByteArray} (h : s.data.toList = [110, 111, 110, 101]) : PaA s 0 true :=
  PaA.good (X := 0) (by omega) (by rw [h]; exact text_zero)
theorem take_snocB (s : ByteArray) (k : Nat) (h : k < s.size) : s.data.toList.take (k + 1) = s.data.toList.take k ++ [s[k]] := by
  rw [List.take_succ_eq_append_getElem (by simpa using h)]; rfl
theorem iter_pos {w : World} {k : Nat} {s : ByteArray} {p : Nat} (h : w.heap[k]? = some (.stringIter s p)) : w.iterPos k = p := by simp [World.iterPos, h]
/-- What ParseAttributes returns. -/
def RetP (s : ByteArray) (w : World) (e : Ending) (w' : World) : Prop := ∃ x ok, PaA s x ok ∧ e = .returned (.tuple #[.int .i64 x, .bool ok]) ∧ Below w.heap.size w w'
set_option maxHeartbeats 1600000 in
theorem implParseA_any (s : ByteArray) (w : World) :
    Calls Try.prog 37 #[.string s] w (RetP s w) := by
  by_cases hnone : s.data.toList = [110, 111, 110, 101]
  · have hs : s = ⟨#[110, 111, 110, 101]⟩ := str_ext hnone
    subst hs
    go_enter Try.func37, Try.ntmps37
    go_wp2_with fail
    go_ret2
    exact ⟨_, _, PaA.none rfl, rfl, Below.refl _ _⟩
  · have hne : (s.toList == [110, 111, 110, 101]) = false := by rw [ByteArray.toList_eq]; simpa using hnone
    have HN := Lib.hid hnone
    clear hnone
    go_enter Try.func37, Try.ntmps37
    go_wp2_with fail
    go_loopw [4] (fun av wr => ∃ pos : Nat, pos ≤ s.size ∧ wr.heap[w.heap.size]? = some (.stringIter s pos) ∧ av = .int .i64 (orL (s.data.toList.take pos) : Int) ∧ Hid ((s.data.toList.take pos).all letB = true) ∧ Below w.heap.size w wr) (fun _ wr => s.size - wr.iterPos w.heap.size)
    case atStart =>
      exact ⟨0, by omega, by have := World.iter_heap w s 0; simpa using this, rfl, Lib.hid rfl, (Below.refl _ _).alloc (Nat.le_refl _) _⟩
    case round =>
      obtain ⟨pos, hps, hit, rfl, hall, hb⟩ := hrel
      by_cases hp : pos < s.size
      · by_cases ha : (s[pos]'hp).toNat < 128
        · have hnx : ∀ ty, (Instr.next (.pointer (some ⟨w.heap.size, 0, none⟩)) true ty).run Try.prog wr = _ := fun ty => Lib.run_next_ascii_at wr w.heap.size s pos ty hit hp ha
          have hit2 := Lib.iterAt_heap wr w.heap.size s pos (pos + 1) hit
          have hb2 := Lib.below_iterAt hb (k := w.heap.size) (by omega) s (pos + 1)
          by_cases hc : letB (s[pos]'hp) = true
          · have hA : Hid ((s.data.toList.take (pos + 1)).all letB = true) := Lib.hid (by rw [take_snocB s pos hp, List.all_append, hall.out]; simp [hc])
            have hO : Hid (orL (s.data.toList.take (pos + 1)) = orL (s.data.toList.take pos) ||| 2 ^ ((s[pos]'hp).toNat - 65)) := Lib.hid (by rw [take_snocB s pos hp, orL_snoc])
            have hlt := orL_lt _ hall.out
            have hc2 : 65 ≤ (s[pos]'hp).toNat ∧ (s[pos]'hp).toNat ≤ 69 := by unfold letB at hc; simpa using hc
            obtain ⟨c, hcc⟩ : ∃ c : Nat, (s[pos]'hp).toNat = c := ⟨_, rfl⟩
            rw [hcc] at hnx hO hc2
            obtain ⟨a, haa⟩ : ∃ a : Nat, orL (s.data.toList.take pos) = a := ⟨_, rfl⟩
            rw [haa] at hO hlt
            simp only [haa]
            clear hcc haa ha hc
            rcases (show c = 65 ∨ c = 66 ∨ c = 67 ∨ c = 68 ∨ c = 69 by omega) with rfl | rfl | rfl | rfl | rfl
            · have hor : bits .or .i64 (a : Int) 1 = ((a ||| 1 : Nat) : Int) := i64_or_nat a 1 (by omega) (by omega)
              go_wp2_with fail
              go_roundw
              case rel => exact ⟨pos + 1, by omega, hit2, by rw [hO.out], hA, hb2⟩
              case measure => rw [iter_pos hit2, iter_pos hit]; omega
            · have hor : bits .or .i64 (a : Int) 2 = ((a ||| 2 : Nat) : Int) := i64_or_nat a 2 (by omega) (by omega)
              go_wp2_with fail
              go_roundw
              case rel => exact ⟨pos + 1, by omega, hit2, by rw [hO.out], hA, hb2⟩
              case measure => rw [iter_pos hit2, iter_pos hit]; omega
            · have hor : bits .or .i64 (a : Int) 4 = ((a ||| 4 : Nat) : Int) := i64_or_nat a 4 (by omega) (by omega)
              go_wp2_with fail
              go_roundw
              case rel => exact ⟨pos + 1, by omega, hit2, by rw [hO.out], hA, hb2⟩
              case measure => rw [iter_pos hit2, iter_pos hit]; omega
            · have hor : bits .or .i64 (a : Int) 8 = ((a ||| 8 : Nat) : Int) := i64_or_nat a 8 (by omega) (by omega)
              go_wp2_with fail
              go_roundw
              case rel => exact ⟨pos + 1, by omega, hit2, by rw [hO.out], hA, hb2⟩
              case measure => rw [iter_pos hit2, iter_pos hit]; omega
            · have hor : bits .or .i64 (a : Int) 16 = ((a ||| 16 : Nat) : Int) := i64_or_nat a 16 (by omega) (by omega)
              go_wp2_with fail
              go_roundw
              case rel => exact ⟨pos + 1, by omega, hit2, by rw [hO.out], hA, hb2⟩
              case measure => rw [iter_pos hit2, iter_pos hit]; omega
          · have HB := Lib.hid (PaA.bad HN.out hp (by simpa using hc))
            have hc2 : (s[pos]'hp).toNat < 65 ∨ 69 < (s[pos]'hp).toNat := by unfold letB at hc; simp at hc; omega
            obtain ⟨c, hcc⟩ : ∃ c : Nat, (s[pos]'hp).toNat = c := ⟨_, rfl⟩
            rw [hcc] at hnx hc2 ha
            clear hcc hc
            rcases hc2 with hc2 | hc2
            · go_wp2_with fail
              go_ret2
              exact ⟨_, _, HB.out, rfl, hb2⟩
            · go_wp2_with fail
              go_ret2
              exact ⟨_, _, HB.out, rfl, hb2⟩
        · have hnx : ∀ ty, (Instr.next (.pointer (some ⟨w.heap.size, 0, none⟩)) true ty).run Try.prog wr = _ := fun ty => Lib.run_next_any_at wr w.heap.size s pos ty hit hp
          have hb2 := Lib.below_iterAt hb (k := w.heap.size) (by omega) s (pos + (Utf8.decode s pos).2)
          have hhi := (decode_high s pos hp (by omega)).1
          have hle := decode_le s pos
          have HB := Lib.hid (PaA.bad HN.out hp (by unfold letB; simp; omega))
          go_wp2_with fail
          go_ret2
          exact ⟨_, _, HB.out, rfl, hb2⟩
      · have hnx : ∀ ty, (Instr.next (.pointer (some ⟨w.heap.size, 0, none⟩)) true ty).run Try.prog wr = _ := fun ty => Lib.run_next_end_at wr w.heap.size s pos ty hit hp
        have hlt := orL_lt _ hall.out
        have hfull : s.data.toList.take pos = s.data.toList := List.take_of_length_le (by rw [← str_size]; omega)
        rw [hfull] at hlt
        simp only [hfull]
        clear hfull
        have HT := Lib.hid (textI_any _ hlt)
        by_cases he : (fmtA (orL s.data.toList : Int)).data.toList = s.data.toList
        · have HG := Lib.hid (PaA.good hlt he)
          obtain ⟨a, haa⟩ : ∃ a : Nat, orL s.data.toList = a := ⟨_, rfl⟩
          have he2 : ((fmtA (a : Int)).toList != s.toList) = false := by rw [ByteArray.toList_eq, ByteArray.toList_eq, ← haa, he]; simp
          have he3 : ((fmtA (a : Int)).toList == s.toList) = true := by rw [ByteArray.toList_eq, ByteArray.toList_eq, ← haa, he]; simp
          rw [haa] at HT HG hlt
          simp only [haa]
          clear he haa
          go_wp2_with fail
          refine (HT.out _).mono ?_
          rintro e w' ⟨rfl, hb3⟩
          go_wp2_with fail
          go_ret2
          exact ⟨_, _, HG.out, rfl, hb.trans (hb3.mono hb.size)⟩
        · have HG := Lib.hid (PaA.other HN.out he)
          obtain ⟨a, haa⟩ : ∃ a : Nat, orL s.data.toList = a := ⟨_, rfl⟩
          have he2 : ((fmtA (a : Int)).toList != s.toList) = true := by rw [ByteArray.toList_eq, ByteArray.toList_eq, ← haa]; simpa using he
          have he3 : ((fmtA (a : Int)).toList == s.toList) = false := by rw [ByteArray.toList_eq, ByteArray.toList_eq, ← haa]; simpa using he
          rw [haa] at HT hlt
          simp only [haa]
          clear he haa
          go_wp2_with fail
          refine (HT.out _).mono ?_
          rintro e w' ⟨rfl, hb3⟩
          go_wp2_with fail
          go_ret2
          exact ⟨_, _, HG.out, rfl, hb.trans (hb3.mono hb.size)⟩
end Go.Proofs.Ytfndnaldgaaieaa
namespace Go.Proofs.Ytfndnaldgaaieaa
open Go.RowKit

/-- l is cut at its first byte b, if it has one. -/
def CutR (b : UInt8) (l p r : List UInt8) (e : Bool) : Prop := (e = true ∧ l = p ++ b :: r ∧ ∀ x ∈ p, x ≠ b) ∨ (e = false ∧ p = l ∧ r = [] ∧ ∀ x ∈ l, x ≠ b)
theorem CutR.parts {b : UInt8} {l p r : List UInt8} (h : CutR b l p r true) : l = p ++ b :: r ∧ cutL b l = p :: cutL b r := by
  rcases h with ⟨-, rfl, h2⟩ | ⟨h, -⟩
  · exact ⟨rfl, by rw [cutL_append, cutL_end b p h2]; rfl⟩
  · cases h
theorem CutR.whole {b : UInt8} {l p r : List UInt8} (h : CutR b l p r false) : cutL b l = [l] := by
  rcases h with ⟨h, -⟩ | ⟨-, -, -, h⟩
  · cases h
  · exact cutL_end b l h
def joinL (b : UInt8) : List (List UInt8) → List UInt8
  | [] => []
  | p :: q => if q = [] then p else p ++ b :: joinL b q
theorem joinL_cut (b : UInt8) (l : List UInt8) : joinL b (cutL b l) = l := by
  induction l with
  | nil => rfl
  | cons x t ih =>
    show joinL b (if x = b then [] :: cutL b t else glue [x] (cutL b t)) = x :: t
    by_cases hx : x = b
    · rw [if_pos hx]
      show (if cutL b t = [] then [] else [] ++ b :: joinL b (cutL b t)) = _
      rw [if_neg (cutL_ne b t), ih, hx]; rfl
    · rw [if_neg hx]
      cases h : cutL b t with
      | nil => exact absurd h (cutL_ne b t)
      | cons a q =>
        rw [h] at ih
        show (if q = [] then [x] ++ a else ([x] ++ a) ++ b :: joinL b q) = _
        have ih' : (if q = [] then a else a ++ b :: joinL b q) = t := ih
        split
        · next hq => rw [if_pos hq] at ih'; rw [ih']; rfl
        · next hq => rw [if_neg hq] at ih'; rw [List.append_assoc, ih']; rfl
theorem cutL_inj {b : UInt8} {l m : List UInt8} (h : cutL b l = cutL b m) : l = m := by rw [← joinL_cut b l, h, joinL_cut]
/-- A row's text. -/
def rowT (r : List Int) : List UInt8 := rowPre r r.length
/-- A row of c valid values. -/
def RowOK (c : Nat) (r : List Int) : Prop := r.length = c ∧ ∀ x ∈ r, -1 ≤ x ∧ x ≤ 40
theorem rowT_cut {c : Nat} {r : List Int} (h : RowOK c r) (hc : 1 ≤ c) : cutL 32 (rowT r) = r.map cellB := by
  obtain ⟨k, hk⟩ : ∃ k, r.length = k + 1 := ⟨r.length - 1, by have := h.1; omega⟩
  unfold rowT
  rw [hk, rowPre_cut h.2 k (by omega), List.take_of_length_le (by omega)]
theorem rowT_of {c : Nat} {r : List Int} {l : List UInt8} (h : RowOK c r) (hc : 1 ≤ c) (he : cutL 32 l = r.map cellB) : rowT r = l := cutL_inj (b := 32) (by rw [rowT_cut h hc, he])
theorem tab_cut {c : Int} {ll : List (List Int)} (h : isT c ll = true) : cutL 10 (fmtT c ll).data.toList = letC c :: (ll.map rowT ++ [[]]) := by
  rw [fmtT_ok h, cutL_append, tabT_cut h _ (Nat.le_refl _), List.take_length]; rfl
theorem getD_row (ll : List (List Int)) (j : Nat) (h : j < ll.length) : ll.getD j [] = ll[j] := by rw [List.getD_eq_getElem?_getD, List.getElem?_eq_getElem h]; rfl
theorem rowOK_of {c : Int} {ll : List (List Int)} (h : isT c ll = true) {C : Nat} (hC : c = (C : Int)) : ∀ r ∈ ll, RowOK C r := by
  intro r hr
  obtain ⟨j, hj, rfl⟩ := List.mem_iff_getElem.1 hr
  have := isT_row h hj
  rw [getD_row _ _ hj] at this
  exact ⟨by omega, this.2⟩
theorem isT_of {C : Nat} {ll : List (List Int)} (h1 : 1 ≤ C) (h5 : C ≤ 5) (hl : ll.length ≤ 40) (hr : ∀ r ∈ ll, RowOK C r) : isT (C : Int) ll = true := by
  unfold isT
  rw [Bool.and_eq_true, List.all_eq_true]
  refine ⟨fun r hrm => ?_, by simp; omega⟩
  obtain ⟨a, b⟩ := hr r hrm
  unfold rowOk
  rw [Bool.and_eq_true, List.all_eq_true, decide_eq_true_iff]
  exact ⟨fun x hx => by unfold cellOk; simpa using b x hx, by omega⟩
/-- So much of the text has been read: the first line and the rows L; t is left. -/
structure Pre (s : ByteArray) (C : Nat) (L : List (List Int)) (t : List UInt8) : Prop where
  c1 : 1 ≤ C
  c5 : C ≤ 5
  len : L.length ≤ 40
  rows : ∀ r ∈ L, RowOK C r
  text : s.data.toList = headB (C : Int) ++ rowsB L L.length ++ t
theorem Pre.ok {s : ByteArray} {C : Nat} {L : List (List Int)} {t : List UInt8} (h : Pre s C L t) : isT (C : Int) L = true := isT_of h.c1 h.c5 h.len h.rows
theorem Pre.cut {s : ByteArray} {C : Nat} {L : List (List Int)} {t : List UInt8} (h : Pre s C L t) : cutL 10 s.data.toList = letC (C : Int) :: (L.map rowT ++ cutL 10 t) := by
  rw [h.text, tabT_eq, List.append_assoc]
  show cutL 10 (tabT (C : Int) L L.length ++ 10 :: t) = _
  rw [cutL_append, tabT_cut h.ok _ (Nat.le_refl _), List.take_length]; rfl
theorem letC_len {C : Nat} (h1 : 1 ≤ C) (h5 : C ≤ 5) : (letC (C : Int)).length = C := (letC_facts ⟨C, by omega⟩ (by simp only; omega)).1
theorem rowT_inj {C : Nat} (hC : 1 ≤ C) {r r' : List Int} (h : RowOK C r) (h' : RowOK C r') (e : rowT r = rowT r') : r = r' := by
  have a := row_back h.2 (by have := h.1; omega)
  have b := row_back h'.2 (by have := h'.1; omega)
  unfold rowT at e
  rw [← a, ← b, e]
theorem map_inj_on {α β : Type} {f : α → β} : ∀ {l m : List α}, (∀ x ∈ l, ∀ y ∈ m, f x = f y → x = y) → l.map f = m.map f → l = m
  | [], [], _, _ => rfl
  | [], _ :: _, _, h => by simp at h
  | _ :: _, [], _, h => by simp at h
  | a :: l, b :: m, hi, h => by
    rw [List.map_cons, List.map_cons, List.cons.injEq] at h
    rw [hi a (by simp) b (by simp) h.1, map_inj_on (fun x hx y hy => hi x (by simp [hx]) y (by simp [hy])) h.2]
/-- If the whole is a table's text, what is left is its other rows. -/
theorem Pre.rest {s : ByteArray} {C : Nat} {L : List (List Int)} {t : List UInt8} (h : Pre s C L t) {c' : Int} {ll : List (List Int)} (ht : isT c' ll = true) (hs : fmtT c' ll = s) :
    c' = (C : Int) ∧ ∃ K, ll = L ++ K ∧ (∀ r ∈ K, RowOK C r) ∧ L.length + K.length ≤ 40 ∧ cutL 10 t = K.map rowT ++ [[]] := by
  obtain ⟨k1, k5, k40⟩ := isT_bd ht
  obtain ⟨C', rfl⟩ : ∃ C' : Nat, c' = (C' : Int) := ⟨c'.toNat, by omega⟩
  have e := tab_cut ht
  rw [hs, h.cut, List.cons.injEq] at e
  obtain ⟨e1, e2⟩ := e
  have hCC : C' = C := by
    have := congrArg List.length e1
    rw [letC_len h.c1 h.c5, letC_len (by omega) (by omega)] at this
    exact this.symm
  subst hCC
  have hrows := rowOK_of ht rfl
  have hle : L.length ≤ ll.length := by
    have := congrArg List.length e2
    simp only [List.length_append, List.length_map, List.length_singleton] at this
    have := List.length_pos_iff.2 (cutL_ne 10 t)
    omega
  have e3 : L.map rowT ++ cutL 10 t = (ll.take L.length).map rowT ++ ((ll.drop L.length).map rowT ++ [[]]) := by
    rw [e2, ← List.append_assoc, ← List.map_append, List.take_append_drop]
  obtain ⟨e4, e5⟩ := List.append_inj e3 (by simp; omega)
  have e6 : L = ll.take L.length := map_inj_on (fun x hx y hy hxy => rowT_inj h.c1 (h.rows x hx) (hrows y (List.mem_of_mem_take hy)) hxy) e4
  refine ⟨rfl, ll.drop L.length, ?_, fun r hr => hrows r (List.mem_of_mem_drop hr), by rw [List.length_drop]; omega, e5⟩
  conv => lhs; rw [← List.take_append_drop L.length ll]
  rw [← e6]
theorem rowsB_app (L : List (List Int)) (r : List Int) : ∀ i, i ≤ L.length → rowsB (L ++ [r]) i = rowsB L i := by
  intro i
  induction i with
  | zero => intro _; rfl
  | succ i ih =>
    intro h
    show rowsB (L ++ [r]) i ++ rowB ((L ++ [r]).getD i []) = rowsB L i ++ rowB (L.getD i [])
    rw [ih (by omega), getD_snoc _ _ _ _ (by omega), if_pos (by omega)]
theorem Pre.snoc {s : ByteArray} {C : Nat} {L : List (List Int)} {t p t' : List UInt8} {r : List Int} (h : Pre s C L t) (hc : CutR 10 t p t' true) (hl : L.length < 40) (hr : RowOK C r) (he : rowT r = p) : Pre s C (L ++ [r]) t' := by
  refine ⟨h.c1, h.c5, by rw [List.length_append, List.length_singleton]; omega, fun q hq => ?_, ?_⟩
  · rcases List.mem_append.1 hq with hq | hq
    · exact h.rows q hq
    · rw [List.mem_singleton] at hq; rw [hq]; exact hr
  · rw [h.text, hc.parts.1, List.length_append, List.length_singleton]
    show _ = headB (C : Int) ++ (rowsB (L ++ [r]) L.length ++ rowB ((L ++ [r]).getD L.length [])) ++ t'
    rw [rowsB_app L r _ (Nat.le_refl _), getD_snoc _ _ _ _ (by omega), if_neg (by omega), ← he]
    show _ = headB (C : Int) ++ (rowsB L L.length ++ (rowPre r r.length ++ [10])) ++ t'
    unfold rowT
    simp only [List.append_assoc, List.cons_append, List.nil_append]
theorem par_of {s : ByteArray} {c : Int} {ll : List (List Int)} (h : isT c ll = true) (hs : fmtT c ll = s) : parC s = c ∧ parR s = ll ∧ parOk s = true := by
  subst hs
  obtain ⟨e1, e2⟩ := tab_back h
  have hcond : (fmtT c ll).data.toList ≠ [] ∧ fmtT (tabC (fmtT c ll).data.toList) (tabR (fmtT c ll).data.toList) = fmtT c ll := ⟨fmtT_ne h, by rw [e1, e2]⟩
  unfold parC parR parOk
  rw [if_pos hcond, if_pos hcond, e1, e2]
  exact ⟨rfl, rfl, by simp [fmtT_ne h]⟩
theorem par_no {s : ByteArray} (h : ∀ c ll, isT c ll = true → fmtT c ll ≠ s) : parC s = 0 ∧ parR s = [] ∧ parOk s = false := by
  rcases par_iff s with ⟨-, h1, h2⟩ | ⟨-, h1, h2, h3⟩
  · exact absurd h2 (h _ _ h1)
  · exact ⟨h1, h2, h3⟩
theorem Pre.done {s : ByteArray} {C : Nat} {L : List (List Int)} (h : Pre s C L []) : parC s = (C : Int) ∧ parR s = L ∧ parOk s = true := by
  refine par_of h.ok (str_ext ?_)
  unfold fmtT
  rw [if_pos h.ok, h.text, List.append_nil]
/-- What is left has no line. -/
theorem Pre.noLine {s : ByteArray} {C : Nat} {L : List (List Int)} {t p r : List UInt8} (h : Pre s C L t) (hc : CutR 10 t p r false) (hne : t ≠ []) : parC s = 0 ∧ parR s = [] ∧ parOk s = false :=
  par_no fun c' ll ht hs => by
    obtain ⟨-, K, -, -, -, e⟩ := h.rest ht hs
    rw [hc.whole] at e
    cases K with
    | nil => simp at e; exact hne e
    | cons a K => simp at e
/-- There are too many lines. -/
theorem Pre.noRoom {s : ByteArray} {C : Nat} {L : List (List Int)} {t : List UInt8} (h : Pre s C L t) (hl : L.length = 40) (hne : t ≠ []) : parC s = 0 ∧ parR s = [] ∧ parOk s = false :=
  par_no fun c' ll ht hs => by
    obtain ⟨-, K, -, -, hk, e⟩ := h.rest ht hs
    obtain rfl : K = [] := List.eq_nil_of_length_eq_zero (by omega)
    exact hne (cutL_inj (b := 10) (by rw [e]; rfl))
/-- A line is no row. -/
theorem Pre.noRow {s : ByteArray} {C : Nat} {L : List (List Int)} {t p r : List UInt8} (h : Pre s C L t) (hc : CutR 10 t p r true) (hr : ∀ q, RowOK C q → rowT q ≠ p) : parC s = 0 ∧ parR s = [] ∧ parOk s = false :=
  par_no fun c' ll ht hs => by
    obtain ⟨-, K, -, hK, -, e⟩ := h.rest ht hs
    rw [hc.parts.2] at e
    cases K with
    | nil => simp at e; exact cutL_ne 10 r e.2
    | cons a K =>
      rw [List.map_cons, List.cons_append, List.cons.injEq] at e
      exact hr a (hK a (by simp)) e.1.symm
/-- The first line has no line's end, or is no first line. -/
theorem head_no {s : ByteArray} {p r : List UInt8} {e : Bool} (hc : CutR 10 s.data.toList p r e) (h : e = false ∨ ∀ C : Nat, 1 ≤ C → C ≤ 5 → letC (C : Int) ≠ p) : parC s = 0 ∧ parR s = [] ∧ parOk s = false :=
  par_no fun c ll ht hs => by
    obtain ⟨k1, k5, k40⟩ := isT_bd ht
    obtain ⟨C, rfl⟩ : ∃ C : Nat, c = (C : Int) := ⟨c.toNat, by omega⟩
    have e1 := tab_cut ht
    rw [hs] at e1
    cases e with
    | false => rw [hc.whole] at e1; simp at e1
    | true =>
      rw [hc.parts.2, List.cons.injEq] at e1
      rcases h with h | h
      · cases h
      · exact h C (by omega) (by omega) e1.1.symm
theorem head_ok {s : ByteArray} {p r : List UInt8} {C : Nat} (hc : CutR 10 s.data.toList p r true) (h1 : 1 ≤ C) (h5 : C ≤ 5) (h : letC (C : Int) = p) : Pre s C [] r :=
  ⟨h1, h5, by simp, by simp, by rw [hc.parts.1, ← h]; show letC (C : Int) ++ 10 :: r = (letC (C : Int) ++ [10]) ++ [] ++ r; simp⟩
end Go.Proofs.Ytfndnaldgaaieaa
namespace Go.Proofs.Ytfndnaldgaaieaa
open Go.RowKit

theorem size_list (s : ByteArray) : s.data.toList.length = s.size := Array.length_toList
theorem ext_take (s : ByteArray) (i : Nat) : (s.extract 0 i).data.toList = s.data.toList.take i := by
  simp
theorem ext_drop (s : ByteArray) (i : Nat) : (s.extract i s.size).data.toList = s.data.toList.drop i := by
  have h := List.take_of_length_le (l := s.data.toList.drop i) (i := s.size - i) (by rw [List.length_drop, size_list]; omega)
  simpa using h
theorem not_of {l : List UInt8} {c : UInt8} (h : ∀ k : Nat, l[k]? ≠ some c) : ∀ x ∈ l, x ≠ c := by
  intro x hx e
  obtain ⟨k, hk, rfl⟩ := List.mem_iff_getElem.1 hx
  exact h k (by rw [List.getElem?_eq_getElem hk, e])
theorem cut_at {l : List UInt8} {c : UInt8} {o : Nat} (h : Lib.indexByte l c = (o : Int)) : o < l.length ∧ CutR c l (l.take o) (l.drop (o + 1)) true := by
  obtain ⟨h1, h2⟩ := Lib.indexByte_some h
  obtain ⟨ho, he⟩ := List.getElem?_eq_some_iff.1 h1
  refine ⟨ho, .inl ⟨rfl, ?_, not_of fun k hk => ?_⟩⟩
  · rw [← he, ← List.drop_eq_getElem_cons ho, List.take_append_drop]
  · rw [List.getElem?_take] at hk
    split at hk
    · next hlt => exact h2 k hlt hk
    · cases hk
theorem cut_none {l : List UInt8} {c : UInt8} (h : Lib.indexByte l c = -1) : CutR c l l [] false := .inr ⟨rfl, rfl, rfl, not_of (Lib.indexByte_none h)⟩
theorem index_cases (l : List UInt8) (c : UInt8) : Lib.indexByte l c = -1 ∨ ∃ o : Nat, Lib.indexByte l c = (o : Int) := by
  have := Lib.indexByte_ge l c
  by_cases h : Lib.indexByte l c = -1
  · exact .inl h
  · exact .inr ⟨(Lib.indexByte l c).toNat, by omega⟩
def RetCut (b : UInt8) (l : List UInt8) (w : World) (e : Ending) (w' : World) : Prop := ∃ p r ended, e = .returned (.tuple #[strV p, strV r, .bool ended]) ∧ CutR b l p r ended ∧ Below w.heap.size w w'
set_option maxHeartbeats 800000 in
theorem cutL_any (s : ByteArray) (b : UInt8) (w : World) (hs : s.size ≤ 1048576) : Calls Try.prog 64 #[.string s, .string ⟨#[b]⟩] w (RetCut b s.data.toList w) := by
  have HIX := Lib.hid (Try.stringslite_Index_one s b w)
  have h1 : (⟨#[b]⟩ : ByteArray).size = 1 := rfl
  rcases index_cases s.data.toList b with h | ⟨o, h⟩
  · have HC := Lib.hid (cut_none h)
    rw [h] at HIX
    clear h
    go_enter Try.func64, Try.ntmps64
    go_wp2_with fail
    refine HIX.out.mono ?_
    rintro e w' ⟨rfl, rfl⟩
    go_wp2_with fail
    go_ret3
    exact ⟨_, [], false, rfl, HC.out, Below.refl _ _⟩
  · obtain ⟨ho, hc⟩ := cut_at h
    rw [size_list] at ho
    have HC := Lib.hid hc
    have ht := ext_take s o
    have hd := ext_drop s (o + 1)
    have HT : Hid (Value.string (s.extract 0 o) = strV (s.data.toList.take o)) := Lib.hid (by rw [strV_eq, ht])
    have HD : Hid (Value.string (s.extract (o + 1) s.size) = strV (s.data.toList.drop (o + 1))) := Lib.hid (by rw [strV_eq, hd])
    rw [h] at HIX
    have z0 : (0 : Int) ≤ (o : Int) := by omega
    have z1 : (o : Int) ≤ (s.size : Int) := by omega
    have z2 : IntKind.i64.wrap ((o : Int) + 1) = (o : Int) + 1 := IntWalk.i64_in _ (by omega)
    have z3 : (o : Int) + 1 ≤ (s.size : Int) := by omega
    clear h hc ht hd
    go_enter Try.func64, Try.ntmps64
    go_wp2_with fail
    refine HIX.out.mono ?_
    rintro e w' ⟨rfl, rfl⟩
    go_wp2_with fail
    go_quiet (fail)
    go_wp2_with fail
    go_ret3
    exact ⟨_, _, true, by rw [← HT.out, ← HD.out]; rfl, HC.out, below_drewN (Below.refl _ _) _⟩
theorem cut_any (s : ByteArray) (b : UInt8) (w : World) (hs : s.size ≤ 1048576) : Calls Try.prog 36 #[.string s, .string ⟨#[b]⟩] w (RetCut b s.data.toList w) := by
  have HC := Lib.hid (cutL_any s b w hs)
  go_enter Try.func36, Try.ntmps36
  go_wp2_with fail
  refine HC.out.mono ?_
  rintro e w' ⟨p, r, ended, rfl, hc, hb⟩
  have HP := Lib.hid hc
  clear hc
  go_wp2_with fail
  go_ret3
  exact ⟨p, r, ended, rfl, HP.out, hb⟩
/-- What a text is split into at the byte b, into n parts at the most. -/
def Spl (b : UInt8) (l : List UInt8) (n : Nat) (W : List (List UInt8)) : Prop := W = cutL b l ∨ (W.length = n ∧ n ≤ (cutL b l).length)
theorem Spl.exact {b : UInt8} {l : List UInt8} {c : Nat} {W : List (List UInt8)} (h : Spl b l (c + 1) W) : (W.length = c → W = cutL b l) ∧ ((cutL b l).length = c → W.length = c) := by
  rcases h with rfl | ⟨h1, h2⟩
  · exact ⟨fun _ => rfl, id⟩
  · exact ⟨fun h => by omega, fun h => by omega⟩
theorem infoStr : (Try.prog.info? 9).map (fun i => (i.zero, i.size, i.bytes)) = some (some (.string ⟨#[]⟩), 1, 16) := by kernel_rfl
/-- A row of strings that is being filled: its first ones are W. -/
structure Fil (w : World) (g n : Nat) (W : List (List UInt8)) : Prop where
  head : ∀ j, j < W.length → w.cell? ⟨g, j, none⟩ = some (strV (W.getD j []))
  there : ∀ j, j < n → (w.cell? ⟨g, j, none⟩).isSome = true
  fz : ∀ j, j < n → w.frozen? ⟨g, j, none⟩ = false
theorem Fil.store {w : World} {g n : Nat} {W : List (List UInt8)} (h : Fil w g n W) (hn : W.length < n) (p : List UInt8) : Fil (w.setCell ⟨g, W.length, none⟩ (strV p)) g n (W ++ [p]) := by
  obtain ⟨u, hu⟩ := Option.isSome_iff_exists.1 (h.there _ hn)
  refine ⟨fun j hj => ?_, fun j hj => ?_, fun j hj => by rw [World.frozen?_setCell]; exact h.fz j hj⟩
  · rw [List.length_append, List.length_singleton] at hj
    rw [getD_snoc _ _ _ _ hj]
    by_cases hjl : j < W.length
    · rw [if_pos hjl]
      exact (World.cell?_setCell_other _ _ _ _ (by intro e; simp only [Addr.mk.injEq] at e; omega)).trans (h.head j hjl)
    · rw [if_neg hjl]
      obtain rfl : j = W.length := by omega
      exact World.cell?_setCell_same _ _ _ hu
  · by_cases hjl : j = W.length
    · subst hjl; rw [World.cell?_setCell_same _ _ _ hu]; rfl
    · rw [World.cell?_setCell_other _ _ _ _ (by intro e; simp only [Addr.mk.injEq] at e; omega)]; exact h.there j hj
theorem Fil.made {w : World} {B g n : Nat} {xs : List Value} (h : w.ownsRow B 9 1 (.slice (some ⟨g, 0, none⟩) n n) n xs) : Fil w g n [] := by
  refine ⟨fun j hj => absurd hj (Nat.not_lt_zero _), fun j hj => ?_, fun j _ => World.ownsRow.frozenAt h j⟩
  rw [World.ownsRow.cellAt h j (by omega)]
  have := h.1
  rw [List.getElem?_eq_getElem (by omega)]; rfl
/-- A slice of strings that can be read. -/
def RetW (b : UInt8) (l : List UInt8) (n : Nat) (w : World) (e : Ending) (w' : World) : Prop := ∃ v W, e = .returned v ∧ ReadZ w' v W ∧ Spl b l n W ∧ Below w.heap.size w w'
end Go.Proofs.Ytfndnaldgaaieaa
