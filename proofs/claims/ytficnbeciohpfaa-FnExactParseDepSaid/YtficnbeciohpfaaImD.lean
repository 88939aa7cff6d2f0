/- The program's FormatAttributes and ParseAttributes, by contract. Conditions: as stated. -/
import Derived.Test.YtficnbeciohpfaaImC
namespace Go.Proofs.Ytficnbeciohpfaa
open Go.RowKit

/-! ### The set that letters stand for -/
def letB (c : UInt8) : Bool := decide (65 ≤ c.toNat ∧ c.toNat ≤ 69)
def orL (l : List UInt8) : Nat := l.foldl (fun a c => a ||| 2 ^ (c.toNat - 65)) 0
theorem orL_snoc (l : List UInt8) (c : UInt8) : orL (l ++ [c]) = orL l ||| 2 ^ (c.toNat - 65) := by simp [orL]
theorem orL_lt (l : List UInt8) (h : l.all letB = true) : orL l < 32 := by
  unfold orL
  suffices ∀ a, a < 32 → l.foldl (fun a c => a ||| 2 ^ (c.toNat - 65)) a < 32 from this 0 (by omega)
  induction l with
  | nil => intro a ha; exact ha
  | cons c l ih =>
    intro a ha
    simp [List.all_cons] at h
    rw [List.foldl_cons]
    refine ih (by simpa using h.2) _ ?_
    have h1 := h.1
    unfold letB at h1
    simp at h1
    have h2 : 2 ^ (c.toNat - 65) < 2 ^ 5 := Nat.pow_lt_pow_right (by omega) (by omega)
    exact Nat.or_lt_two_pow (n := 5) ha h2
theorem texts_let : ∀ j : Fin 32, j.val ≠ 0 → ((fmtA ((j.val : Nat) : Int)).data.toList.all letB = true ∧ orL (fmtA ((j.val : Nat) : Int)).data.toList = j.val) := by decide +kernel
theorem text_zero : (fmtA 0).data.toList = [110, 111, 110, 101] := by decide +kernel
theorem take_all {l : List UInt8} {k : Nat} {p : UInt8 → Bool} (h : l.all p = true) : (l.take k).all p = true := by
  rw [List.all_eq_true] at *
  intro x hx; exact h x (List.mem_of_mem_take hx)
/-- A text that is not 'none' and has a byte that is no letter is no text of a set. -/
theorem PaA.bad {s : ByteArray} {k : Nat} (hn : s.data.toList ≠ [110, 111, 110, 101]) (hk : k < s.size) (hb : letB (s[k]'hk) = false) : PaA s 0 false := by
  refine .inr ⟨fun j hj => ?_, rfl, rfl⟩
  rw [isTx_eq]
  rw [beq_eq_false_iff_ne]
  intro e
  by_cases h0 : j = 0
  · subst h0; apply hn; rw [← e]; exact text_zero
  · have h := (texts_let ⟨j, hj⟩ h0).1
    simp only [e] at h
    rw [List.all_eq_true] at h
    have := h (s[k]'hk) (by rw [show s[k] = s.data.toList[k]'(by simpa using hk) from rfl]; exact List.getElem_mem _)
    rw [hb] at this; cases this
theorem PaA.good {s : ByteArray} {X : Nat} (hX : X < 32) (he : (fmtA (X : Int)).data.toList = s.data.toList) : PaA s (X : Int) true := by
  refine .inl ⟨X, hX, rfl, by rw [isTx_eq]; simp [he], fun j hj => ?_, rfl⟩
  rw [isTx_eq, ← he]
  have := texts_apart ⟨X, hX⟩ ⟨j, by omega⟩
  simp only at this
  rw [this]; simp; omega
theorem PaA.other {s : ByteArray} (hn : s.data.toList ≠ [110, 111, 110, 101]) (he : (fmtA (orL s.data.toList : Int)).data.toList ≠ s.data.toList) : PaA s 0 false := by
  refine .inr ⟨fun j hj => ?_, rfl, rfl⟩
  rw [isTx_eq, beq_eq_false_iff_ne]
  intro e
  by_cases h0 : j = 0
  · subst h0; apply hn; rw [← e]; exact text_zero
  · have h := (texts_let ⟨j, hj⟩ h0).2
    simp only [e] at h
    apply he
    rw [h, e]
theorem PaA.none {s : ByteArray} (h : s.data.toList = [110, 111, 110, 101]) : PaA s 0 true :=
  PaA.good (X := 0) (by omega) (by rw [h]; exact text_zero)
theorem take_snocB (s : ByteArray) (k : Nat) (h : k < s.size) : s.data.toList.take (k + 1) = s.data.toList.take k ++ [s[k]] := by
  rw [List.take_succ_eq_append_getElem (by simpa using h)]; rfl
theorem iter_pos {w : World} {k : Nat} {s : ByteArray} {p : Nat} (h : w.heap[k]? = some (.stringIter s p)) : w.iterPos k = p := by simp [World.iterPos, h]
/-- What ParseAttributes returns. -/
def RetP (s : ByteArray) (w : World) (e : Ending) (w' : World) : Prop := ∃ x ok, PaA s x ok ∧ e = .returned (.tuple #[.int .i64 x, .bool ok]) ∧ Below w.heap.size w w'
set_option maxHeartbeats 1600000 in
theorem implParseA_any (s : ByteArray) (w : World) :
    Calls Try.prog 51 #[.string s] w (RetP s w) := by
  by_cases hnone : s.data.toList = [110, 111, 110, 101]
  · have hs : s = ⟨#[110, 111, 110, 101]⟩ := str_ext hnone
    subst hs
    go_enter Try.func51, Try.ntmps51
    go_wp2_with fail
    go_ret2
    exact ⟨_, _, PaA.none rfl, rfl, Below.refl _ _⟩
  · have hne : (s.toList == [110, 111, 110, 101]) = false := by rw [ByteArray.toList_eq]; simpa using hnone
    have HN := Lib.hid hnone
    clear hnone
    go_enter Try.func51, Try.ntmps51
    go_wp2_with fail
    go_loopw [4] (fun av wr => ∃ pos : Nat, pos ≤ s.size ∧ wr.heap[w.heap.size]? = some (.stringIter s pos) ∧ av = .int .i64 (orL (s.data.toList.take pos) : Int) ∧ Hid ((s.data.toList.take pos).all letB = true) ∧ Below w.heap.size w wr) (fun _ wr => s.size - wr.iterPos w.heap.size)
    case atStart =>
      exact ⟨0, by omega, by have := World.iter_heap w s 0; simpa using this, rfl, Lib.hid rfl, (Below.refl _ _).alloc (Nat.le_refl _) _⟩
    case round =>
      obtain ⟨pos, hps, hit, rfl, hall, hb⟩ := hrel
      by_cases hp : pos < s.size
      · by_cases ha : (s[pos]'hp).toNat < 128
        · have hnx : ∀ ty, (Instr.next (.pointer (some ⟨w.heap.size, 0, none⟩)) true ty).run Try.prog wr = _ := fun ty => Lib.run_next_ascii_at wr w.heap.size s pos ty hit hp ha
          have hit2 := Lib.iterAt_heap wr w.heap.size s pos (pos + 1) hit
          have hb2 := Lib.below_iterAt hb (k := w.heap.size) (by omega) s (pos + 1)
          by_cases hc : letB (s[pos]'hp) = true
          · have hA : Hid ((s.data.toList.take (pos + 1)).all letB = true) := Lib.hid (by rw [take_snocB s pos hp, List.all_append, hall.out]; simp [hc])
            have hO : Hid (orL (s.data.toList.take (pos + 1)) = orL (s.data.toList.take pos) ||| 2 ^ ((s[pos]'hp).toNat - 65)) := Lib.hid (by rw [take_snocB s pos hp, orL_snoc])
            have hlt := orL_lt _ hall.out
            have hc2 : 65 ≤ (s[pos]'hp).toNat ∧ (s[pos]'hp).toNat ≤ 69 := by unfold letB at hc; simpa using hc
            obtain ⟨c, hcc⟩ : ∃ c : Nat, (s[pos]'hp).toNat = c := ⟨_, rfl⟩
            rw [hcc] at hnx hO hc2
            obtain ⟨a, haa⟩ : ∃ a : Nat, orL (s.data.toList.take pos) = a := ⟨_, rfl⟩
            rw [haa] at hO hlt
            simp only [haa]
            clear hcc haa ha hc
            rcases (show c = 65 ∨ c = 66 ∨ c = 67 ∨ c = 68 ∨ c = 69 by omega) with rfl | rfl | rfl | rfl | rfl
            · have hor : bits .or .i64 (a : Int) 1 = ((a ||| 1 : Nat) : Int) := i64_or_nat a 1 (by omega) (by omega)
              go_wp2_with fail
              go_roundw
              case rel => exact ⟨pos + 1, by omega, hit2, by rw [hO.out], hA, hb2⟩
              case measure => rw [iter_pos hit2, iter_pos hit]; omega
            · have hor : bits .or .i64 (a : Int) 2 = ((a ||| 2 : Nat) : Int) := i64_or_nat a 2 (by omega) (by omega)
              go_wp2_with fail
              go_roundw
              case rel => exact ⟨pos + 1, by omega, hit2, by rw [hO.out], hA, hb2⟩
              case measure => rw [iter_pos hit2, iter_pos hit]; omega
            · have hor : bits .or .i64 (a : Int) 4 = ((a ||| 4 : Nat) : Int) := i64_or_nat a 4 (by omega) (by omega)
              go_wp2_with fail
              go_roundw
              case rel => exact ⟨pos + 1, by omega, hit2, by rw [hO.out], hA, hb2⟩
              case measure => rw [iter_pos hit2, iter_pos hit]; omega
            · have hor : bits .or .i64 (a : Int) 8 = ((a ||| 8 : Nat) : Int) := i64_or_nat a 8 (by omega) (by omega)
              go_wp2_with fail
              go_roundw
              case rel => exact ⟨pos + 1, by omega, hit2, by rw [hO.out], hA, hb2⟩
              case measure => rw [iter_pos hit2, iter_pos hit]; omega
            · have hor : bits .or .i64 (a : Int) 16 = ((a ||| 16 : Nat) : Int) := i64_or_nat a 16 (by omega) (by omega)
              go_wp2_with fail
              go_roundw
              case rel => exact ⟨pos + 1, by omega, hit2, by rw [hO.out], hA, hb2⟩
              case measure => rw [iter_pos hit2, iter_pos hit]; omega
          · have HB := Lib.hid (PaA.bad HN.out hp (by simpa using hc))
            have hc2 : (s[pos]'hp).toNat < 65 ∨ 69 < (s[pos]'hp).toNat := by unfold letB at hc; simp at hc; omega
            obtain ⟨c, hcc⟩ : ∃ c : Nat, (s[pos]'hp).toNat = c := ⟨_, rfl⟩
            rw [hcc] at hnx hc2 ha
            clear hcc hc
            rcases hc2 with hc2 | hc2
            · go_wp2_with fail
              go_ret2
              exact ⟨_, _, HB.out, rfl, hb2⟩
            · go_wp2_with fail
              go_ret2
              exact ⟨_, _, HB.out, rfl, hb2⟩
        · have hnx : ∀ ty, (Instr.next (.pointer (some ⟨w.heap.size, 0, none⟩)) true ty).run Try.prog wr = _ := fun ty => Lib.run_next_any_at wr w.heap.size s pos ty hit hp
          have hb2 := Lib.below_iterAt hb (k := w.heap.size) (by omega) s (pos + (Utf8.decode s pos).2)
          have hhi := (decode_high s pos hp (by omega)).1
          have hle := decode_le s pos
          have HB := Lib.hid (PaA.bad HN.out hp (by unfold letB; simp; omega))
          go_wp2_with fail
          go_ret2
          exact ⟨_, _, HB.out, rfl, hb2⟩
      · have hnx : ∀ ty, (Instr.next (.pointer (some ⟨w.heap.size, 0, none⟩)) true ty).run Try.prog wr = _ := fun ty => Lib.run_next_end_at wr w.heap.size s pos ty hit hp
        have hlt := orL_lt _ hall.out
        have hfull : s.data.toList.take pos = s.data.toList := List.take_of_length_le (by rw [← str_size]; omega)
        rw [hfull] at hlt
        simp only [hfull]
        clear hfull
        have HT := Lib.hid (text_any _ hlt)
        by_cases he : (fmtA (orL s.data.toList : Int)).data.toList = s.data.toList
        · have HG := Lib.hid (PaA.good hlt he)
          obtain ⟨a, haa⟩ : ∃ a : Nat, orL s.data.toList = a := ⟨_, rfl⟩
          have he2 : ((fmtA (a : Int)).toList != s.toList) = false := by rw [ByteArray.toList_eq, ByteArray.toList_eq, ← haa, he]; simp
          have he3 : ((fmtA (a : Int)).toList == s.toList) = true := by rw [ByteArray.toList_eq, ByteArray.toList_eq, ← haa, he]; simp
          rw [haa] at HT HG hlt
          simp only [haa]
          clear he haa
          go_wp2_with fail
          refine (HT.out _).mono ?_
          rintro e w' ⟨rfl, hb3⟩
          go_wp2_with fail
          go_ret2
          exact ⟨_, _, HG.out, rfl, hb.trans (hb3.mono hb.size)⟩
        · have HG := Lib.hid (PaA.other HN.out he)
          obtain ⟨a, haa⟩ : ∃ a : Nat, orL s.data.toList = a := ⟨_, rfl⟩
          have he2 : ((fmtA (a : Int)).toList != s.toList) = true := by rw [ByteArray.toList_eq, ByteArray.toList_eq, ← haa]; simpa using he
          have he3 : ((fmtA (a : Int)).toList == s.toList) = false := by rw [ByteArray.toList_eq, ByteArray.toList_eq, ← haa]; simpa using he
          rw [haa] at HT hlt
          simp only [haa]
          clear he haa
          go_wp2_with fail
          refine (HT.out _).mono ?_
          rintro e w' ⟨rfl, hb3⟩
          go_wp2_with fail
          go_ret2
          exact ⟨_, _, HG.out, rfl, hb.trans (hb3.mono hb.size)⟩
end Go.Proofs.Ytficnbeciohpfaa
