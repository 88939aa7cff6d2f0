/- strings.Cut and strings.SplitN at a separator of one byte, by contract. Conditions: as stated. -/
import Derived.Test.YtficnbeciohpfaaPrsA
import Derived.Test.YtficnbeciohpfaaShelf
import Derived.Lib.IndexLaws
namespace Go.Proofs.Ytficnbeciohpfaa
open Go.RowKit

theorem size_list (s : ByteArray) : s.data.toList.length = s.size := Array.length_toList
theorem ext_take (s : ByteArray) (i : Nat) : (s.extract 0 i).data.toList = s.data.toList.take i := by
  simp
theorem ext_drop (s : ByteArray) (i : Nat) : (s.extract i s.size).data.toList = s.data.toList.drop i := by
  have h := List.take_of_length_le (l := s.data.toList.drop i) (i := s.size - i) (by rw [List.length_drop, size_list]; omega)
  simpa using h
theorem not_of {l : List UInt8} {c : UInt8} (h : ∀ k : Nat, l[k]? ≠ some c) : ∀ x ∈ l, x ≠ c := by
  intro x hx e
  obtain ⟨k, hk, rfl⟩ := List.mem_iff_getElem.1 hx
  exact h k (by rw [List.getElem?_eq_getElem hk, e])
theorem cut_at {l : List UInt8} {c : UInt8} {o : Nat} (h : Lib.indexByte l c = (o : Int)) : o < l.length ∧ CutR c l (l.take o) (l.drop (o + 1)) true := by
  obtain ⟨h1, h2⟩ := Lib.indexByte_some h
  obtain ⟨ho, he⟩ := List.getElem?_eq_some_iff.1 h1
  refine ⟨ho, .inl ⟨rfl, ?_, not_of fun k hk => ?_⟩⟩
  · rw [← he, ← List.drop_eq_getElem_cons ho, List.take_append_drop]
  · rw [List.getElem?_take] at hk
    split at hk
    · next hlt => exact h2 k hlt hk
    · cases hk
theorem cut_none {l : List UInt8} {c : UInt8} (h : Lib.indexByte l c = -1) : CutR c l l [] false := .inr ⟨rfl, rfl, rfl, not_of (Lib.indexByte_none h)⟩
theorem index_cases (l : List UInt8) (c : UInt8) : Lib.indexByte l c = -1 ∨ ∃ o : Nat, Lib.indexByte l c = (o : Int) := by
  have := Lib.indexByte_ge l c
  by_cases h : Lib.indexByte l c = -1
  · exact .inl h
  · exact .inr ⟨(Lib.indexByte l c).toNat, by omega⟩
def RetCut (b : UInt8) (l : List UInt8) (w : World) (e : Ending) (w' : World) : Prop := ∃ p r ended, e = .returned (.tuple #[strV p, strV r, .bool ended]) ∧ CutR b l p r ended ∧ Below w.heap.size w w'
set_option maxHeartbeats 800000 in
theorem cutL_any (s : ByteArray) (b : UInt8) (w : World) (hs : s.size ≤ 1048576) : Calls Try.prog 72 #[.string s, .string ⟨#[b]⟩] w (RetCut b s.data.toList w) := by
  have HIX := Lib.hid (Try.stringslite_Index_one s b w)
  have h1 : (⟨#[b]⟩ : ByteArray).size = 1 := rfl
  rcases index_cases s.data.toList b with h | ⟨o, h⟩
  · have HC := Lib.hid (cut_none h)
    rw [h] at HIX
    clear h
    go_enter Try.func72, Try.ntmps72
    go_wp2_with fail
    refine HIX.out.mono ?_
    rintro e w' ⟨rfl, rfl⟩
    go_wp2_with fail
    go_ret3
    exact ⟨_, [], false, rfl, HC.out, Below.refl _ _⟩
  · obtain ⟨ho, hc⟩ := cut_at h
    rw [size_list] at ho
    have HC := Lib.hid hc
    have ht := ext_take s o
    have hd := ext_drop s (o + 1)
    have HT : Hid (Value.string (s.extract 0 o) = strV (s.data.toList.take o)) := Lib.hid (by rw [strV_eq, ht])
    have HD : Hid (Value.string (s.extract (o + 1) s.size) = strV (s.data.toList.drop (o + 1))) := Lib.hid (by rw [strV_eq, hd])
    rw [h] at HIX
    have z0 : (0 : Int) ≤ (o : Int) := by omega
    have z1 : (o : Int) ≤ (s.size : Int) := by omega
    have z2 : IntKind.i64.wrap ((o : Int) + 1) = (o : Int) + 1 := IntWalk.i64_in _ (by omega)
    have z3 : (o : Int) + 1 ≤ (s.size : Int) := by omega
    clear h hc ht hd
    go_enter Try.func72, Try.ntmps72
    go_wp2_with fail
    refine HIX.out.mono ?_
    rintro e w' ⟨rfl, rfl⟩
    go_wp2_with fail
    go_quiet (fail)
    go_wp2_with fail
    go_ret3
    exact ⟨_, _, true, by rw [← HT.out, ← HD.out]; rfl, HC.out, below_drewN (Below.refl _ _) _⟩
theorem cut_any (s : ByteArray) (b : UInt8) (w : World) (hs : s.size ≤ 1048576) : Calls Try.prog 50 #[.string s, .string ⟨#[b]⟩] w (RetCut b s.data.toList w) := by
  have HC := Lib.hid (cutL_any s b w hs)
  go_enter Try.func50, Try.ntmps50
  go_wp2_with fail
  refine HC.out.mono ?_
  rintro e w' ⟨p, r, ended, rfl, hc, hb⟩
  have HP := Lib.hid hc
  clear hc
  go_wp2_with fail
  go_ret3
  exact ⟨p, r, ended, rfl, HP.out, hb⟩
/-- What a text is split into at the byte b, into n parts at the most. -/
def Spl (b : UInt8) (l : List UInt8) (n : Nat) (W : List (List UInt8)) : Prop := W = cutL b l ∨ (W.length = n ∧ n ≤ (cutL b l).length)
theorem Spl.exact {b : UInt8} {l : List UInt8} {c : Nat} {W : List (List UInt8)} (h : Spl b l (c + 1) W) : (W.length = c → W = cutL b l) ∧ ((cutL b l).length = c → W.length = c) := by
  rcases h with rfl | ⟨h1, h2⟩
  · exact ⟨fun _ => rfl, id⟩
  · exact ⟨fun h => by omega, fun h => by omega⟩
theorem infoStr : (Try.prog.info? 9).map (fun i => (i.zero, i.size, i.bytes)) = some (some (.string ⟨#[]⟩), 1, 16) := by kernel_rfl
/-- A row of strings that is being filled: its first ones are W. -/
structure Fil (w : World) (g n : Nat) (W : List (List UInt8)) : Prop where
  head : ∀ j, j < W.length → w.cell? ⟨g, j, none⟩ = some (strV (W.getD j []))
  there : ∀ j, j < n → (w.cell? ⟨g, j, none⟩).isSome = true
  fz : ∀ j, j < n → w.frozen? ⟨g, j, none⟩ = false
theorem Fil.store {w : World} {g n : Nat} {W : List (List UInt8)} (h : Fil w g n W) (hn : W.length < n) (p : List UInt8) : Fil (w.setCell ⟨g, W.length, none⟩ (strV p)) g n (W ++ [p]) := by
  obtain ⟨u, hu⟩ := Option.isSome_iff_exists.1 (h.there _ hn)
  refine ⟨fun j hj => ?_, fun j hj => ?_, fun j hj => by rw [World.frozen?_setCell]; exact h.fz j hj⟩
  · rw [List.length_append, List.length_singleton] at hj
    rw [getD_snoc _ _ _ _ hj]
    by_cases hjl : j < W.length
    · rw [if_pos hjl]
      exact (World.cell?_setCell_other _ _ _ _ (by intro e; simp only [Addr.mk.injEq] at e; omega)).trans (h.head j hjl)
    · rw [if_neg hjl]
      obtain rfl : j = W.length := by omega
      exact World.cell?_setCell_same _ _ _ hu
  · by_cases hjl : j = W.length
    · subst hjl; rw [World.cell?_setCell_same _ _ _ hu]; rfl
    · rw [World.cell?_setCell_other _ _ _ _ (by intro e; simp only [Addr.mk.injEq] at e; omega)]; exact h.there j hj
theorem Fil.made {w : World} {B g n : Nat} {xs : List Value} (h : w.ownsRow B 9 1 (.slice (some ⟨g, 0, none⟩) n n) n xs) : Fil w g n [] := by
  refine ⟨fun j hj => absurd hj (Nat.not_lt_zero _), fun j hj => ?_, fun j _ => World.ownsRow.frozenAt h j⟩
  rw [World.ownsRow.cellAt h j (by omega)]
  have := h.1
  rw [List.getElem?_eq_getElem (by omega)]; rfl
/-- A slice of strings that can be read. -/
def RetW (b : UInt8) (l : List UInt8) (n : Nat) (w : World) (e : Ending) (w' : World) : Prop := ∃ v W, e = .returned v ∧ ReadZ w' v W ∧ Spl b l n W ∧ Below w.heap.size w w'
end Go.Proofs.Ytficnbeciohpfaa
