/- Texts of this claim, merged: Parse2, PrsA, PrsB, PrsC. Conditions: as stated. -/
import Derived.Test.YtpkcffbfgocndaaGreatDoorMm
import Derived.Test.YtpkcffbfgocndaaGreatDoorMf
import Derived.Test.YtpkcffbfgocndaaGreatDoorMg
import Derived.Test.YtpkcffbfgocndaaGreatDoorShelf
import Derived.Lib.IndexLaws
namespace Go.Proofs.YtpkcffbfgocndaaGreatDoor
open Go.RowKit

theorem PA.notD {l : List UInt8} {t : ByteArray} (hb : body l = t.data.toList) {k : Nat} (hk : k < t.size) (h : ¬ isD (t[k]'hk)) : PA l 0 false :=
  .inr ⟨fun m _ e => by
    subst e
    have e1 := (itoa_parts m).1
    have e2 : t.data.toList = Lib.decDigits m.natAbs := hb.symm.trans e1
    have hm : (t[k]'hk) ∈ t.data.toList := List.getElem_mem (l := t.data.toList) (n := k) (by rw [← str_size]; exact hk)
    rw [e2] at hm
    exact h ((dec_facts m.natAbs).2.2.1 _ hm), rfl, rfl⟩
theorem body_dk_le (l : List UInt8) (h : (body l).length ≤ 9) : dk l ≤ 9 := by
  have := (dv_lt (body l)).2
  rw [(dv_body l).2] at this; omega
theorem cutMinus (s : ByteArray) (w : World) : Calls Tryz.prog 92 #[.string s, .string ⟨#[45]⟩] w fun e w' => e = .returned (.tuple #[.string ⟨(body s.data.toList).toArray⟩, .bool (minus s.data.toList)]) ∧ w = w' :=
  (Tryz.strings_CutPrefix s ⟨#[45]⟩ w).mono fun _ _ ⟨he, hw⟩ => ⟨he, hw.symm⟩
theorem iter_pos' {w : World} {k : Nat} {s : ByteArray} {p : Nat} (h : w.heap[k]? = some (.stringIter s p)) : w.iterPos k = p := by simp [World.iterPos, h]

set_option maxHeartbeats 800000 in
theorem implPI (s : ByteArray) (w : World) (hT : Tab w.heap.size w) :
    Calls Tryz.prog 76 #[.string s] w (IntOk (PA s.data.toList) w) := by
  have HT := Lib.hid hT
  clear hT
  obtain ⟨t, ht⟩ : ∃ t : ByteArray, t = ⟨(body s.data.toList).toArray⟩ := ⟨_, rfl⟩
  obtain ⟨b, hb⟩ : ∃ b : Bool, b = minus s.data.toList := ⟨_, rfl⟩
  have hcut : ∀ w, Calls Tryz.prog 92 #[.string s, .string ⟨#[45]⟩] w fun e w' => e = .returned (.tuple #[.string t, .bool b]) ∧ w = w' := fun w => by rw [ht, hb]; exact cutMinus s w
  have HC := Lib.hid hcut
  have HB : Hid (body s.data.toList = t.data.toList) := Lib.hid (by rw [ht])
  have HM : Hid (minus s.data.toList = b) := Lib.hid hb.symm
  clear hcut ht hb
  by_cases hlen : 9 < t.size
  · go_enter Tryz.func76, Tryz.ntmps76
    go_wp2_with fail
    refine (HC.out _).mono ?_
    rintro e w' ⟨rfl, rfl⟩
    go_wp2_with fail
    go_ret2
    exact ⟨_, _, PA.longBody (by rw [HB.out, ← str_size]; exact hlen), rfl, Below.refl _ _⟩
  · go_enter Tryz.func76, Tryz.ntmps76
    go_wp2_with fail
    refine (HC.out _).mono ?_
    rintro e w' ⟨rfl, rfl⟩
    go_wp2_with fail
    go_loopw [6] (fun n wr => ∃ (pos m : Nat), pos ≤ t.size ∧ n = .int .i64 (m : Int) ∧ Hid (m = dv (t.data.toList.take pos)) ∧ wr.heap[w.heap.size]? = some (.stringIter t pos) ∧ Below w.heap.size w wr) (fun _ wr => t.size - wr.iterPos w.heap.size)
    case atStart =>
      refine ⟨0, 0, by omega, rfl, Lib.hid rfl, ?_, (Below.refl _ _).alloc (Nat.le_refl _) _⟩
      have := World.iter_heap w t 0
      simpa using this
    case round =>
      obtain ⟨pos, m, hps, rfl, hm, hit, hb⟩ := hrel
      have hm9 : (m : Int) ≤ 999999999 := by
        have h1 := (dv_lt (t.data.toList.take pos)).1
        have h2 := (dv_lt (t.data.toList.take pos)).2
        have h3 : (t.data.toList.take pos).length ≤ 9 := by simp; omega
        have h4 : 10 ^ dk (t.data.toList.take pos) ≤ 10 ^ 9 := Nat.pow_le_pow_right (by omega) (by omega)
        rw [hm.out]; omega
      by_cases hp : pos < t.size
      · by_cases ha : (t[pos]'hp).toNat < 128
        · have hnx : ∀ ty, (Instr.next (.pointer (some ⟨w.heap.size, 0, none⟩)) true ty).run Tryz.prog wr = _ := fun ty => Lib.run_next_ascii_at wr w.heap.size t pos ty hit hp ha
          have hit2 := Lib.iterAt_heap wr w.heap.size t pos (pos + 1) hit
          have hb2 := Lib.below_iterAt hb (k := w.heap.size) (Nat.le_refl _) t (pos + 1)
          by_cases hd : isD (t[pos]'hp)
          · have hd1 : 48 ≤ ((t[pos]'hp).toNat : Int) := by unfold isD at hd; omega
            have hd2 : ((t[pos]'hp).toNat : Int) ≤ 57 := by unfold isD at hd; omega
            have HD := Lib.hid hd
            clear hd ha
            go_wp2_with fail
            go_roundw
            case rel => exact ⟨pos + 1, dv (t.data.toList.take pos) * 10 + ((t[pos]'hp).toNat - 48), by omega, by have := hm.out; go_num, Lib.hid (by rw [(dv_take t pos hp HD.out).1]), hit2, hb2⟩
            case measure => rw [iter_pos' hit2, iter_pos' hit]; omega
          · have HD : Hid (¬ isD (t[pos]'hp)) := Lib.hid hd
            by_cases hlo : ((t[pos]'hp).toNat : Int) < 48
            · clear hd ha
              go_wp2_with fail
              go_ret2
              exact ⟨_, _, PA.notD HB.out hp HD.out, rfl, hb2⟩
            · have hhi : 57 < ((t[pos]'hp).toNat : Int) := by unfold isD at hd; omega
              clear hd ha
              go_wp2_with fail
              go_ret2
              exact ⟨_, _, PA.notD HB.out hp HD.out, rfl, hb2⟩
        · have hnx : ∀ ty, (Instr.next (.pointer (some ⟨w.heap.size, 0, none⟩)) true ty).run Tryz.prog wr = _ := fun ty => Lib.run_next_any_at wr w.heap.size t pos ty hit hp
          have hb2 := Lib.below_iterAt hb (k := w.heap.size) (Nat.le_refl _) t (pos + (Utf8.decode t pos).2)
          have hhi := (decode_high t pos hp (by omega)).1
          have hhi2 : 57 < ((Utf8.decode t pos).1 : Int) := by omega
          have HD : Hid (¬ isD (t[pos]'hp)) := Lib.hid (by unfold isD; omega)
          clear hhi ha
          go_wp2_with fail
          go_ret2
          exact ⟨_, _, PA.notD HB.out hp HD.out, rfl, hb2⟩
      · have hnx : ∀ ty, (Instr.next (.pointer (some ⟨w.heap.size, 0, none⟩)) true ty).run Tryz.prog wr = _ := fun ty => Lib.run_next_end_at wr w.heap.size t pos ty hit hp
        have hfull : t.data.toList.take pos = t.data.toList := List.take_of_length_le (by rw [← str_size]; omega)
        have HV : Hid (val s.data.toList = if b = true then -(m : Int) else (m : Int)) := Lib.hid (by unfold val; rw [HM.out, HB.out, hm.out, hfull])
        have HK : Hid (dk s.data.toList ≤ 9) := Lib.hid (body_dk_le _ (by rw [HB.out, ← str_size]; omega))
        clear hfull
        cases b with
        | true =>
          have HV' : Hid (val s.data.toList = -(m : Int)) := Lib.hid (by rw [HV.out, if_pos rfl])
          go_wp2_with fail
          refine (implFI (-(m : Int)) (by omega) (by omega) _ _ (HT.out.on hb)).mono ?_
          rintro e w' ⟨rfl, hb3⟩
          go_wp2_with fail
          all_goals go_ret2
          · have hh : (!((itoaB (-(m : Int))).toList == s.toList)) = true := by assumption
            have ht : ((itoaB (-(m : Int))).toList == s.toList) = false := not_true hh
            have h3 := itoa_eq_false ht
            rw [← HV'.out] at h3
            exact ⟨_, _, PA.other h3, rfl, hb.trans (hb3.mono hb.size)⟩
          · have hh : (!((itoaB (-(m : Int))).toList == s.toList)) = false := by assumption
            have ht : ((itoaB (-(m : Int))).toList == s.toList) = true := not_false' hh
            have h3 := itoa_eq_true ht
            rw [← HV'.out] at h3
            exact ⟨_, _, by have := PA.good HK.out h3; rwa [HV'.out] at this, rfl, hb.trans (hb3.mono hb.size)⟩
        | false =>
          have HV' : Hid (val s.data.toList = (m : Int)) := Lib.hid (by rw [HV.out, if_neg (by simp)])
          go_wp2_with fail
          refine (implFI (m : Int) (by omega) (by omega) _ _ (HT.out.on hb)).mono ?_
          rintro e w' ⟨rfl, hb3⟩
          go_wp2_with fail
          all_goals go_ret2
          · have hh : (!((itoaB ((m : Int))).toList == s.toList)) = true := by assumption
            have ht : ((itoaB ((m : Int))).toList == s.toList) = false := not_true hh
            have h3 := itoa_eq_false ht
            rw [← HV'.out] at h3
            exact ⟨_, _, PA.other h3, rfl, hb.trans (hb3.mono hb.size)⟩
          · have hh : (!((itoaB ((m : Int))).toList == s.toList)) = false := by assumption
            have ht : ((itoaB ((m : Int))).toList == s.toList) = true := not_false' hh
            have h3 := itoa_eq_true ht
            rw [← HV'.out] at h3
            exact ⟨_, _, by have := PA.good HK.out h3; rwa [HV'.out] at this, rfl, hb.trans (hb3.mono hb.size)⟩
end Go.Proofs.YtpkcffbfgocndaaGreatDoor
namespace Go.Proofs.YtpkcffbfgocndaaGreatDoor
open Go.RowKit

/-- l is cut at its first byte b, if it has one. -/
def CutR (b : UInt8) (l p r : List UInt8) (e : Bool) : Prop := (e = true ∧ l = p ++ b :: r ∧ ∀ x ∈ p, x ≠ b) ∨ (e = false ∧ p = l ∧ r = [] ∧ ∀ x ∈ l, x ≠ b)
theorem CutR.parts {b : UInt8} {l p r : List UInt8} (h : CutR b l p r true) : l = p ++ b :: r ∧ cutL b l = p :: cutL b r := by
  rcases h with ⟨-, rfl, h2⟩ | ⟨h, -⟩
  · exact ⟨rfl, by rw [cutL_append, cutL_end b p h2]; rfl⟩
  · cases h
theorem CutR.whole {b : UInt8} {l p r : List UInt8} (h : CutR b l p r false) : cutL b l = [l] := by
  rcases h with ⟨h, -⟩ | ⟨-, -, -, h⟩
  · cases h
  · exact cutL_end b l h
def joinL (b : UInt8) : List (List UInt8) → List UInt8
  | [] => []
  | p :: q => if q = [] then p else p ++ b :: joinL b q
theorem joinL_cut (b : UInt8) (l : List UInt8) : joinL b (cutL b l) = l := by
  induction l with
  | nil => rfl
  | cons x t ih =>
    show joinL b (if x = b then [] :: cutL b t else glue [x] (cutL b t)) = x :: t
    by_cases hx : x = b
    · rw [if_pos hx]
      show (if cutL b t = [] then [] else [] ++ b :: joinL b (cutL b t)) = _
      rw [if_neg (cutL_ne b t), ih, hx]; rfl
    · rw [if_neg hx]
      cases h : cutL b t with
      | nil => exact absurd h (cutL_ne b t)
      | cons a q =>
        rw [h] at ih
        show (if q = [] then [x] ++ a else ([x] ++ a) ++ b :: joinL b q) = _
        have ih' : (if q = [] then a else a ++ b :: joinL b q) = t := ih
        split
        · next hq => rw [if_pos hq] at ih'; rw [ih']; rfl
        · next hq => rw [if_neg hq] at ih'; rw [List.append_assoc, ih']; rfl
theorem cutL_inj {b : UInt8} {l m : List UInt8} (h : cutL b l = cutL b m) : l = m := by rw [← joinL_cut b l, h, joinL_cut]
/-- A row's text. -/
def rowT (r : List Int) : List UInt8 := rowPre r r.length
/-- A row of c valid values. -/
def RowOK (c : Nat) (r : List Int) : Prop := r.length = c ∧ ∀ x ∈ r, -1 ≤ x ∧ x ≤ 40
theorem rowT_cut {c : Nat} {r : List Int} (h : RowOK c r) (hc : 1 ≤ c) : cutL 32 (rowT r) = r.map cellB := by
  obtain ⟨k, hk⟩ : ∃ k, r.length = k + 1 := ⟨r.length - 1, by have := h.1; omega⟩
  unfold rowT
  rw [hk, rowPre_cut h.2 k (by omega), List.take_of_length_le (by omega)]
theorem rowT_of {c : Nat} {r : List Int} {l : List UInt8} (h : RowOK c r) (hc : 1 ≤ c) (he : cutL 32 l = r.map cellB) : rowT r = l := cutL_inj (b := 32) (by rw [rowT_cut h hc, he])
theorem tab_cut {c : Int} {ll : List (List Int)} (h : isT c ll = true) : cutL 10 (fmtT c ll).data.toList = letC c :: (ll.map rowT ++ [[]]) := by
  rw [fmtT_ok h, cutL_append, tabT_cut h _ (Nat.le_refl _), List.take_length]; rfl
theorem getD_row (ll : List (List Int)) (j : Nat) (h : j < ll.length) : ll.getD j [] = ll[j] := by rw [List.getD_eq_getElem?_getD, List.getElem?_eq_getElem h]; rfl
theorem rowOK_of {c : Int} {ll : List (List Int)} (h : isT c ll = true) {C : Nat} (hC : c = (C : Int)) : ∀ r ∈ ll, RowOK C r := by
  intro r hr
  obtain ⟨j, hj, rfl⟩ := List.mem_iff_getElem.1 hr
  have := isT_row h hj
  rw [getD_row _ _ hj] at this
  exact ⟨by omega, this.2⟩
theorem isT_of {C : Nat} {ll : List (List Int)} (h1 : 1 ≤ C) (h5 : C ≤ 5) (hl : ll.length ≤ 40) (hr : ∀ r ∈ ll, RowOK C r) : isT (C : Int) ll = true := by
  unfold isT
  rw [Bool.and_eq_true, List.all_eq_true]
  refine ⟨fun r hrm => ?_, by simp; omega⟩
  obtain ⟨a, b⟩ := hr r hrm
  unfold rowOk
  rw [Bool.and_eq_true, List.all_eq_true, decide_eq_true_iff]
  exact ⟨fun x hx => by unfold cellOk; simpa using b x hx, by omega⟩
/-- So much of the text has been read: the first line and the rows L; t is left. -/
structure Pre (s : ByteArray) (C : Nat) (L : List (List Int)) (t : List UInt8) : Prop where
  c1 : 1 ≤ C
  c5 : C ≤ 5
  len : L.length ≤ 40
  rows : ∀ r ∈ L, RowOK C r
  text : s.data.toList = headB (C : Int) ++ rowsB L L.length ++ t
theorem Pre.ok {s : ByteArray} {C : Nat} {L : List (List Int)} {t : List UInt8} (h : Pre s C L t) : isT (C : Int) L = true := isT_of h.c1 h.c5 h.len h.rows
theorem Pre.cut {s : ByteArray} {C : Nat} {L : List (List Int)} {t : List UInt8} (h : Pre s C L t) : cutL 10 s.data.toList = letC (C : Int) :: (L.map rowT ++ cutL 10 t) := by
  rw [h.text, tabT_eq, List.append_assoc]
  show cutL 10 (tabT (C : Int) L L.length ++ 10 :: t) = _
  rw [cutL_append, tabT_cut h.ok _ (Nat.le_refl _), List.take_length]; rfl
theorem letC_len {C : Nat} (h1 : 1 ≤ C) (h5 : C ≤ 5) : (letC (C : Int)).length = C := (letC_facts ⟨C, by omega⟩ (by simp only; omega)).1
theorem rowT_inj {C : Nat} (hC : 1 ≤ C) {r r' : List Int} (h : RowOK C r) (h' : RowOK C r') (e : rowT r = rowT r') : r = r' := by
  have a := row_back h.2 (by have := h.1; omega)
  have b := row_back h'.2 (by have := h'.1; omega)
  unfold rowT at e
  rw [← a, ← b, e]
theorem map_inj_on {α β : Type} {f : α → β} : ∀ {l m : List α}, (∀ x ∈ l, ∀ y ∈ m, f x = f y → x = y) → l.map f = m.map f → l = m
  | [], [], _, _ => rfl
  | [], _ :: _, _, h => by simp at h
  | _ :: _, [], _, h => by simp at h
  | a :: l, b :: m, hi, h => by
    rw [List.map_cons, List.map_cons, List.cons.injEq] at h
    rw [hi a (by simp) b (by simp) h.1, map_inj_on (fun x hx y hy => hi x (by simp [hx]) y (by simp [hy])) h.2]
/-- If the whole is a table's text, what is left is its other rows. -/
theorem Pre.rest {s : ByteArray} {C : Nat} {L : List (List Int)} {t : List UInt8} (h : Pre s C L t) {c' : Int} {ll : List (List Int)} (ht : isT c' ll = true) (hs : fmtT c' ll = s) :
    c' = (C : Int) ∧ ∃ K, ll = L ++ K ∧ (∀ r ∈ K, RowOK C r) ∧ L.length + K.length ≤ 40 ∧ cutL 10 t = K.map rowT ++ [[]] := by
  obtain ⟨k1, k5, k40⟩ := isT_bd ht
  obtain ⟨C', rfl⟩ : ∃ C' : Nat, c' = (C' : Int) := ⟨c'.toNat, by omega⟩
  have e := tab_cut ht
  rw [hs, h.cut, List.cons.injEq] at e
  obtain ⟨e1, e2⟩ := e
  have hCC : C' = C := by
    have := congrArg List.length e1
    rw [letC_len h.c1 h.c5, letC_len (by omega) (by omega)] at this
    exact this.symm
  subst hCC
  have hrows := rowOK_of ht rfl
  have hle : L.length ≤ ll.length := by
    have := congrArg List.length e2
    simp only [List.length_append, List.length_map, List.length_singleton] at this
    have := List.length_pos_iff.2 (cutL_ne 10 t)
    omega
  have e3 : L.map rowT ++ cutL 10 t = (ll.take L.length).map rowT ++ ((ll.drop L.length).map rowT ++ [[]]) := by
    rw [e2, ← List.append_assoc, ← List.map_append, List.take_append_drop]
  obtain ⟨e4, e5⟩ := List.append_inj e3 (by simp; omega)
  have e6 : L = ll.take L.length := map_inj_on (fun x hx y hy hxy => rowT_inj h.c1 (h.rows x hx) (hrows y (List.mem_of_mem_take hy)) hxy) e4
  refine ⟨rfl, ll.drop L.length, ?_, fun r hr => hrows r (List.mem_of_mem_drop hr), by rw [List.length_drop]; omega, e5⟩
  conv => lhs; rw [← List.take_append_drop L.length ll]
  rw [← e6]
theorem rowsB_app (L : List (List Int)) (r : List Int) : ∀ i, i ≤ L.length → rowsB (L ++ [r]) i = rowsB L i := by
  intro i
  induction i with
  | zero => intro _; rfl
  | succ i ih =>
    intro h
    show rowsB (L ++ [r]) i ++ rowB ((L ++ [r]).getD i []) = rowsB L i ++ rowB (L.getD i [])
    rw [ih (by omega), getD_snoc _ _ _ _ (by omega), if_pos (by omega)]
theorem Pre.snoc {s : ByteArray} {C : Nat} {L : List (List Int)} {t p t' : List UInt8} {r : List Int} (h : Pre s C L t) (hc : CutR 10 t p t' true) (hl : L.length < 40) (hr : RowOK C r) (he : rowT r = p) : Pre s C (L ++ [r]) t' := by
  refine ⟨h.c1, h.c5, by rw [List.length_append, List.length_singleton]; omega, fun q hq => ?_, ?_⟩
  · rcases List.mem_append.1 hq with hq | hq
    · exact h.rows q hq
    · rw [List.mem_singleton] at hq; rw [hq]; exact hr
  · rw [h.text, hc.parts.1, List.length_append, List.length_singleton]
    show _ = headB (C : Int) ++ (rowsB (L ++ [r]) L.length ++ rowB ((L ++ [r]).getD L.length [])) ++ t'
    rw [rowsB_app L r _ (Nat.le_refl _), getD_snoc _ _ _ _ (by omega), if_neg (by omega), ← he]
    show _ = headB (C : Int) ++ (rowsB L L.length ++ (rowPre r r.length ++ [10])) ++ t'
    unfold rowT
    simp only [List.append_assoc, List.cons_append, List.nil_append]
theorem par_of {s : ByteArray} {c : Int} {ll : List (List Int)} (h : isT c ll = true) (hs : fmtT c ll = s) : parC s = c ∧ parR s = ll ∧ parOk s = true := by
  subst hs
  obtain ⟨e1, e2⟩ := tab_back h
  have hcond : (fmtT c ll).data.toList ≠ [] ∧ fmtT (tabC (fmtT c ll).data.toList) (tabR (fmtT c ll).data.toList) = fmtT c ll := ⟨fmtT_ne h, by rw [e1, e2]⟩
  unfold parC parR parOk
  rw [if_pos hcond, if_pos hcond, e1, e2]
  exact ⟨rfl, rfl, by simp [fmtT_ne h]⟩
theorem par_no {s : ByteArray} (h : ∀ c ll, isT c ll = true → fmtT c ll ≠ s) : parC s = 0 ∧ parR s = [] ∧ parOk s = false := by
  rcases par_iff s with ⟨-, h1, h2⟩ | ⟨-, h1, h2, h3⟩
  · exact absurd h2 (h _ _ h1)
  · exact ⟨h1, h2, h3⟩
theorem Pre.done {s : ByteArray} {C : Nat} {L : List (List Int)} (h : Pre s C L []) : parC s = (C : Int) ∧ parR s = L ∧ parOk s = true := by
  refine par_of h.ok (str_ext ?_)
  unfold fmtT
  rw [if_pos h.ok, h.text, List.append_nil]
/-- What is left has no line. -/
theorem Pre.noLine {s : ByteArray} {C : Nat} {L : List (List Int)} {t p r : List UInt8} (h : Pre s C L t) (hc : CutR 10 t p r false) (hne : t ≠ []) : parC s = 0 ∧ parR s = [] ∧ parOk s = false :=
  par_no fun c' ll ht hs => by
    obtain ⟨-, K, -, -, -, e⟩ := h.rest ht hs
    rw [hc.whole] at e
    cases K with
    | nil => simp at e; exact hne e
    | cons a K => simp at e
/-- There are too many lines. -/
theorem Pre.noRoom {s : ByteArray} {C : Nat} {L : List (List Int)} {t : List UInt8} (h : Pre s C L t) (hl : L.length = 40) (hne : t ≠ []) : parC s = 0 ∧ parR s = [] ∧ parOk s = false :=
  par_no fun c' ll ht hs => by
    obtain ⟨-, K, -, -, hk, e⟩ := h.rest ht hs
    obtain rfl : K = [] := List.eq_nil_of_length_eq_zero (by omega)
    exact hne (cutL_inj (b := 10) (by rw [e]; rfl))
/-- A line is no row. -/
theorem Pre.noRow {s : ByteArray} {C : Nat} {L : List (List Int)} {t p r : List UInt8} (h : Pre s C L t) (hc : CutR 10 t p r true) (hr : ∀ q, RowOK C q → rowT q ≠ p) : parC s = 0 ∧ parR s = [] ∧ parOk s = false :=
  par_no fun c' ll ht hs => by
    obtain ⟨-, K, -, hK, -, e⟩ := h.rest ht hs
    rw [hc.parts.2] at e
    cases K with
    | nil => simp at e; exact cutL_ne 10 r e.2
    | cons a K =>
      rw [List.map_cons, List.cons_append, List.cons.injEq] at e
      exact hr a (hK a (by simp)) e.1.symm
/-- The first line has no line's end, or is no first line. -/
theorem head_no {s : ByteArray} {p r : List UInt8} {e : Bool} (hc : CutR 10 s.data.toList p r e) (h : e = false ∨ ∀ C : Nat, 1 ≤ C → C ≤ 5 → letC (C : Int) ≠ p) : parC s = 0 ∧ parR s = [] ∧ parOk s = false :=
  par_no fun c ll ht hs => by
    obtain ⟨k1, k5, k40⟩ := isT_bd ht
    obtain ⟨C, rfl⟩ : ∃ C : Nat, c = (C : Int) := ⟨c.toNat, by omega⟩
    have e1 := tab_cut ht
    rw [hs] at e1
    cases e with
    | false => rw [hc.whole] at e1; simp at e1
    | true =>
      rw [hc.parts.2, List.cons.injEq] at e1
      rcases h with h | h
      · cases h
      · exact h C (by omega) (by omega) e1.1.symm
theorem head_ok {s : ByteArray} {p r : List UInt8} {C : Nat} (hc : CutR 10 s.data.toList p r true) (h1 : 1 ≤ C) (h5 : C ≤ 5) (h : letC (C : Int) = p) : Pre s C [] r :=
  ⟨h1, h5, by simp, by simp, by rw [hc.parts.1, ← h]; show letC (C : Int) ++ 10 :: r = (letC (C : Int) ++ [10]) ++ [] ++ r; simp⟩
end Go.Proofs.YtpkcffbfgocndaaGreatDoor
namespace Go.Proofs.YtpkcffbfgocndaaGreatDoor
open Go.RowKit

theorem size_list (s : ByteArray) : s.data.toList.length = s.size := Array.length_toList
theorem ext_take (s : ByteArray) (i : Nat) : (s.extract 0 i).data.toList = s.data.toList.take i := by
  simp
theorem ext_drop (s : ByteArray) (i : Nat) : (s.extract i s.size).data.toList = s.data.toList.drop i := by
  have h := List.take_of_length_le (l := s.data.toList.drop i) (i := s.size - i) (by rw [List.length_drop, size_list]; omega)
  simpa using h
theorem not_of {l : List UInt8} {c : UInt8} (h : ∀ k : Nat, l[k]? ≠ some c) : ∀ x ∈ l, x ≠ c := by
  intro x hx e
  obtain ⟨k, hk, rfl⟩ := List.mem_iff_getElem.1 hx
  exact h k (by rw [List.getElem?_eq_getElem hk, e])
theorem cut_at {l : List UInt8} {c : UInt8} {o : Nat} (h : Lib.indexByte l c = (o : Int)) : o < l.length ∧ CutR c l (l.take o) (l.drop (o + 1)) true := by
  obtain ⟨h1, h2⟩ := Lib.indexByte_some h
  obtain ⟨ho, he⟩ := List.getElem?_eq_some_iff.1 h1
  refine ⟨ho, .inl ⟨rfl, ?_, not_of fun k hk => ?_⟩⟩
  · rw [← he, ← List.drop_eq_getElem_cons ho, List.take_append_drop]
  · rw [List.getElem?_take] at hk
    split at hk
    · next hlt => exact h2 k hlt hk
    · cases hk
theorem cut_none {l : List UInt8} {c : UInt8} (h : Lib.indexByte l c = -1) : CutR c l l [] false := .inr ⟨rfl, rfl, rfl, not_of (Lib.indexByte_none h)⟩
theorem index_cases (l : List UInt8) (c : UInt8) : Lib.indexByte l c = -1 ∨ ∃ o : Nat, Lib.indexByte l c = (o : Int) := by
  have := Lib.indexByte_ge l c
  by_cases h : Lib.indexByte l c = -1
  · exact .inl h
  · exact .inr ⟨(Lib.indexByte l c).toNat, by omega⟩
def RetCut (b : UInt8) (l : List UInt8) (w : World) (e : Ending) (w' : World) : Prop := ∃ p r ended, e = .returned (.tuple #[strV p, strV r, .bool ended]) ∧ CutR b l p r ended ∧ Below w.heap.size w w'
set_option maxHeartbeats 800000 in
theorem cutL_any (s : ByteArray) (b : UInt8) (w : World) (hs : s.size ≤ 1048576) : Calls Tryz.prog 56 #[.string s, .string ⟨#[b]⟩] w (RetCut b s.data.toList w) := by
  have HIX := Lib.hid (Tryz.stringslite_Index_one s b w)
  have h1 : (⟨#[b]⟩ : ByteArray).size = 1 := rfl
  rcases index_cases s.data.toList b with h | ⟨o, h⟩
  · have HC := Lib.hid (cut_none h)
    rw [h] at HIX
    clear h
    go_enter Tryz.func56, Tryz.ntmps56
    go_wp2_with fail
    refine HIX.out.mono ?_
    rintro e w' ⟨rfl, rfl⟩
    go_wp2_with fail
    go_ret3
    exact ⟨_, [], false, rfl, HC.out, Below.refl _ _⟩
  · obtain ⟨ho, hc⟩ := cut_at h
    rw [size_list] at ho
    have HC := Lib.hid hc
    have ht := ext_take s o
    have hd := ext_drop s (o + 1)
    have HT : Hid (Value.string (s.extract 0 o) = strV (s.data.toList.take o)) := Lib.hid (by rw [strV_eq, ht])
    have HD : Hid (Value.string (s.extract (o + 1) s.size) = strV (s.data.toList.drop (o + 1))) := Lib.hid (by rw [strV_eq, hd])
    rw [h] at HIX
    have z0 : (0 : Int) ≤ (o : Int) := by omega
    have z1 : (o : Int) ≤ (s.size : Int) := by omega
    have z2 : IntKind.i64.wrap ((o : Int) + 1) = (o : Int) + 1 := IntWalk.i64_in _ (by omega)
    have z3 : (o : Int) + 1 ≤ (s.size : Int) := by omega
    clear h hc ht hd
    go_enter Tryz.func56, Tryz.ntmps56
    go_wp2_with fail
    refine HIX.out.mono ?_
    rintro e w' ⟨rfl, rfl⟩
    go_wp2_with fail
    go_quiet (fail)
    go_wp2_with fail
    go_ret3
    exact ⟨_, _, true, by rw [← HT.out, ← HD.out]; rfl, HC.out, below_drewN (Below.refl _ _) _⟩
theorem cut_any (s : ByteArray) (b : UInt8) (w : World) (hs : s.size ≤ 1048576) : Calls Tryz.prog 27 #[.string s, .string ⟨#[b]⟩] w (RetCut b s.data.toList w) := by
  have HC := Lib.hid (cutL_any s b w hs)
  go_enter Tryz.func27, Tryz.ntmps27
  go_wp2_with fail
  refine HC.out.mono ?_
  rintro e w' ⟨p, r, ended, rfl, hc, hb⟩
  have HP := Lib.hid hc
  clear hc
  go_wp2_with fail
  go_ret3
  exact ⟨p, r, ended, rfl, HP.out, hb⟩
/-- What a text is split into at the byte b, into n parts at the most. -/
def Spl (b : UInt8) (l : List UInt8) (n : Nat) (W : List (List UInt8)) : Prop := W = cutL b l ∨ (W.length = n ∧ n ≤ (cutL b l).length)
theorem Spl.exact {b : UInt8} {l : List UInt8} {c : Nat} {W : List (List UInt8)} (h : Spl b l (c + 1) W) : (W.length = c → W = cutL b l) ∧ ((cutL b l).length = c → W.length = c) := by
  rcases h with rfl | ⟨h1, h2⟩
  · exact ⟨fun _ => rfl, id⟩
  · exact ⟨fun h => by omega, fun h => by omega⟩
theorem infoStr : (Tryz.prog.info? 9).map (fun i => (i.zero, i.size, i.bytes)) = some (some (.string ⟨#[]⟩), 1, 16) := by kernel_rfl
/-- A row of strings that is being filled: its first ones are W. -/
structure Fil (w : World) (g n : Nat) (W : List (List UInt8)) : Prop where
  head : ∀ j, j < W.length → w.cell? ⟨g, j, none⟩ = some (strV (W.getD j []))
  there : ∀ j, j < n → (w.cell? ⟨g, j, none⟩).isSome = true
  fz : ∀ j, j < n → w.frozen? ⟨g, j, none⟩ = false
theorem Fil.store {w : World} {g n : Nat} {W : List (List UInt8)} (h : Fil w g n W) (hn : W.length < n) (p : List UInt8) : Fil (w.setCell ⟨g, W.length, none⟩ (strV p)) g n (W ++ [p]) := by
  obtain ⟨u, hu⟩ := Option.isSome_iff_exists.1 (h.there _ hn)
  refine ⟨fun j hj => ?_, fun j hj => ?_, fun j hj => by rw [World.frozen?_setCell]; exact h.fz j hj⟩
  · rw [List.length_append, List.length_singleton] at hj
    rw [getD_snoc _ _ _ _ hj]
    by_cases hjl : j < W.length
    · rw [if_pos hjl]
      exact (World.cell?_setCell_other _ _ _ _ (by intro e; simp only [Addr.mk.injEq] at e; omega)).trans (h.head j hjl)
    · rw [if_neg hjl]
      obtain rfl : j = W.length := by omega
      exact World.cell?_setCell_same _ _ _ hu
  · by_cases hjl : j = W.length
    · subst hjl; rw [World.cell?_setCell_same _ _ _ hu]; rfl
    · rw [World.cell?_setCell_other _ _ _ _ (by intro e; simp only [Addr.mk.injEq] at e; omega)]; exact h.there j hj
theorem Fil.made {w : World} {B g n : Nat} {xs : List Value} (h : w.ownsRow B 9 1 (.slice (some ⟨g, 0, none⟩) n n) n xs) : Fil w g n [] := by
  refine ⟨fun j hj => absurd hj (Nat.not_lt_zero _), fun j hj => ?_, fun j _ => World.ownsRow.frozenAt h j⟩
  rw [World.ownsRow.cellAt h j (by omega)]
  have := h.1
  rw [List.getElem?_eq_getElem (by omega)]; rfl
/-- A slice of strings that can be read. -/
def RetW (b : UInt8) (l : List UInt8) (n : Nat) (w : World) (e : Ending) (w' : World) : Prop := ∃ v W, e = .returned v ∧ ReadZ w' v W ∧ Spl b l n W ∧ Below w.heap.size w w'
end Go.Proofs.YtpkcffbfgocndaaGreatDoor
namespace Go.Proofs.YtpkcffbfgocndaaGreatDoor
open Go.RowKit

theorem Fil.read {w : World} {g n m : Nat} {W : List (List UInt8)} (h : Fil w g n W) (hm : m = W.length) (cap : Nat) : ReadZ w (.slice (some ⟨g, 0, none⟩) m cap) W := by
  subst hm
  exact ⟨_, cap, rfl, fun j hj => ⟨_, rfl, by rw [add_zero_off]; exact h.head j hj⟩⟩
theorem Fil.kept {w w' : World} {g n C : Nat} {W : List (List UInt8)} (h : Fil w g n W) (hb : Below C w w') (hg : g < C) : Fil w' g n W :=
  ⟨fun j hj => (hb.cell hg).trans (h.head j hj), fun j hj => by rw [hb.cell hg]; exact h.there j hj, fun j hj => by rw [hb.frozen hg]; exact h.fz j hj⟩
set_option maxRecDepth 20000 in
set_option maxHeartbeats 3200000 in
theorem genSplit_any (s : ByteArray) (b : UInt8) (c : Nat) (w : World) (hs : s.size ≤ 1048576) (hc : c ≤ 5) :
    Calls Tryz.prog 75 #[.string s, .string ⟨#[b]⟩, .int .i64 0, .int .i64 ((c : Int) + 1)] w (RetW b s.data.toList (c + 1) w) := by
  obtain ⟨i0, hi, hz0, hz1, hz2⟩ := info_parts infoStr
  have HI : Hid (_ ∧ _ ∧ _ ∧ _) := Lib.hid ⟨hi, hz0, hz1, hz2⟩
  clear hi hz0 hz1 hz2
  have hb1 : (⟨#[b]⟩ : ByteArray).size = 1 := rfl
  have hne : ((⟨#[b]⟩ : ByteArray).toList == (⟨#[]⟩ : ByteArray).toList) = false := by rw [ByteArray.toList_eq, ByteArray.toList_eq]; rfl
  obtain ⟨K, hK⟩ : ∃ K : Nat, min (c : Int) (s.size : Int) = (K : Int) := ⟨min c s.size, by omega⟩
  have hKc : K ≤ c := by omega
  have hKm : K = c ∨ K = s.size := by omega
  have e1 : ((c : Int) + 1 == 0) = false := by rw [beq_eq_false_iff_ne]; omega
  have e2 : ¬ (c : Int) + 1 < 0 := by omega
  have HK := Lib.hid hK
  have HIX := Lib.hid (fun t w' => Tryz.strings_Index_one t b w')
  go_enter Tryz.func75, Tryz.ntmps75
  go_wp2_with (at_make; refine wpList_make_full _ rfl _ _ 80 rfl w.heap.size 9 i0 (.string ⟨#[]⟩) 1 Tryz.underlying80 HI.out.1 HI.out.2.1 HI.out.2.2.1 .i64 .i64 _ _ (K + 1) rfl rfl (by omega) (by omega) (by rw [HI.out.2.2.2]; omega) (by unfold maxLen; omega) (Nat.le_refl _) ?_; intro w0 hown0 hgrow0; have hb0 := (Below.refl w.heap.size w).grown hgrow0 (Nat.le_refl _) (by simp); have HF0 := Lib.hid (Fil.made hown0); have hg0 : w.heap.size < w0.heap.size := (by rcases ownsRow_shape hown0 with ⟨h, -⟩ | ⟨g, cap, h, -, -, h2⟩; cases h; simp at h; omega); clear hown0 hgrow0)
  clear hK
  go_loopw [0, 10] (fun sv iv wr => ∃ (i : Nat) (t : ByteArray) (W : List (List UInt8)), i ≤ K ∧ sv = .string t ∧ iv = .int .i64 (i : Int) ∧ Hid (cutL b s.data.toList = W ++ cutL b t.data.toList) ∧ Hid (W.length = i) ∧ t.size + i ≤ s.size ∧ Hid (Fil wr w.heap.size (K + 1) W) ∧ Below w.heap.size w wr ∧ w.heap.size < wr.heap.size) (fun _ iv _ => K - (intOf iv).toNat)
  case atStart => exact ⟨0, s, [], by omega, rfl, rfl, Lib.hid rfl, Lib.hid rfl, by omega, HF0, hb0, hg0⟩
  case round =>
    clear hb0 hg0
    obtain ⟨i, t, W, hi, rfl, rfl, hcut, hW, hti, HF, hb, hg⟩ := hrel
    have HST := Lib.hid (fun p => HF.out.store (by rw [hW.out]; omega) p)
    have hi1 : (i : Int) < ((K + 1 : Nat) : Int) := by omega
    have hi0 : (0 : Int) ≤ (i : Int) := by omega
    obtain ⟨u, hu⟩ := Option.isSome_iff_exists.1 (HF.out.there i (by omega))
    have hfz := HF.out.fz i (by omega)
    by_cases hlt : i < K
    · have HQ := Lib.hid (HIX.out t wr)
      rcases index_cases t.data.toList b with h | ⟨o, h⟩
      · have HNO := Lib.hid (cut_none h)
        rw [h] at HQ
        clear h
        go_wp2_with fail
        refine HQ.out.mono ?_
        rintro e w' ⟨rfl, rfl⟩
        go_wp2_with fail
        go_ret
        have hf := HST.out t.data.toList
        rw [hW.out] at hf
        refine ⟨_, W ++ [t.data.toList], rfl, ?_, .inl (by rw [hcut.out, HNO.out.whole]), hb.setCell (Nat.le_refl _) _⟩
        exact hf.read (by rw [List.length_append, List.length_singleton, hW.out]) _
      · obtain ⟨ho, hc'⟩ := cut_at h
        rw [size_list] at ho
        have HYES := Lib.hid hc'
        rw [h] at HQ
        have HT : Hid (Value.string (t.extract 0 o) = strV (t.data.toList.take o)) := Lib.hid (by rw [strV_eq, ext_take])
        have HD : Hid ((t.extract (o + 1) t.size).data.toList = t.data.toList.drop (o + 1)) := Lib.hid (ext_drop t (o + 1))
        have HDS : Hid ((t.extract (o + 1) t.size).size = t.size - (o + 1)) := Lib.hid (by rw [← size_list, ext_drop, List.length_drop, size_list])
        have z0 : (0 : Int) ≤ (o : Int) := by omega
        have z1 : (o : Int) ≤ (t.size : Int) := by omega
        have z2 : IntKind.i64.wrap ((o : Int) + 1) = (o : Int) + 1 := IntWalk.i64_in _ (by omega)
        have z3 : (o : Int) + 1 ≤ (t.size : Int) := by omega
        clear h hc'
        go_wp2_with fail
        refine HQ.out.mono ?_
        rintro e w' ⟨rfl, rfl⟩
        go_wp2_with fail
        go_roundw
        case rel =>
          have hf := HST.out (t.data.toList.take o)
          rw [hW.out, ← HT.out] at hf
          exact ⟨i + 1, t.extract (o + 1) t.size, W ++ [t.data.toList.take o], by omega, rfl, by go_num, Lib.hid (by rw [hcut.out, HYES.out.parts.2, HD.out, List.append_assoc]; rfl), Lib.hid (by rw [List.length_append, List.length_singleton, hW.out]), by rw [HDS.out]; omega, Lib.hid hf, hb.setCell (Nat.le_refl _) _, by simpa using hg⟩
        case measure => simp [intOf]; omega
    · obtain rfl : i = K := by omega
      go_wp2_with fail
      go_ret
      have hf := HST.out t.data.toList
      rw [hW.out] at hf
      refine ⟨_, W ++ [t.data.toList], rfl, hf.read (by rw [List.length_append, List.length_singleton, hW.out]) _, ?_, hb.setCell (Nat.le_refl _) _⟩
      rcases hKm with rfl | hKs
      · exact .inr ⟨by rw [List.length_append, List.length_singleton, hW.out], by rw [hcut.out, List.length_append, hW.out]; have := List.length_pos_iff.2 (cutL_ne b t.data.toList); omega⟩
      · have ht0 : t.data.toList = [] := List.eq_nil_of_length_eq_zero (by rw [size_list]; omega)
        exact .inl (by rw [hcut.out, ht0]; rfl)
theorem splitN_any (s : ByteArray) (b : UInt8) (c : Nat) (w : World) (hs : s.size ≤ 1048576) (hc : c ≤ 5) :
    Calls Tryz.prog 59 #[.string s, .string ⟨#[b]⟩, .int .i64 ((c : Int) + 1)] w (RetW b s.data.toList (c + 1) w) := by
  have HC := Lib.hid (genSplit_any s b c w hs hc)
  go_enter Tryz.func59, Tryz.ntmps59
  go_wp2_with fail
  refine HC.out.mono ?_
  rintro e w' ⟨v, W, rfl, hr, hsp, hb⟩
  have HR := Lib.hid hr
  have HS := Lib.hid hsp
  clear hr hsp
  go_wp2_with fail
  go_ret
  exact ⟨_, W, rfl, HR.out, HS.out, hb⟩
end Go.Proofs.YtpkcffbfgocndaaGreatDoor
