/- Texts of this claim, merged: TabDraw4, AgrDraw. Conditions: as stated. -/
import Derived.Test.YtnbjcelfdppkcadGreatTabDraw3m
import Derived.Test.YtnbjcelfdppkcadGreatXz2
import Derived.Deep.RegionLaw
import Derived.Test.YtnbjcelfdppkcadGreatXz22
namespace Go.Proofs.YtnbjcelfdppkcadGreat
open Go.RowKit

def DrawTab (w : World) (e : Ending) (w' : World) : Prop :=
  ∃ (cc : Int) (u : Value) (ll : List (List Int)), e = .returned (.agg #[.int .i64 cc, u]) ∧ ll.length ≤ 20 ∧ (∀ r ∈ ll, r.length ≤ 10) ∧ OwnSS w' w.heap.size w'.heap.size u ll ∧ Below w.heap.size w w'
def DrawTabInt (lo hi : Int) (w : World) (e : Ending) (w' : World) : Prop :=
  ∃ (cc : Int) (u : Value) (ll : List (List Int)) (q : Int), lo ≤ q ∧ q ≤ hi ∧ e = .returned (.tuple #[.agg #[.int .i64 cc, u], .int .i64 q]) ∧ ll.length ≤ 20 ∧ (∀ r ∈ ll, r.length ≤ 10) ∧ OwnSS w' w.heap.size w'.heap.size u ll ∧ Below w.heap.size w w'
/-- The result's own cell holds the table, which is new. -/
def FinT (w : World) (cc : Int) (u : Value) (ll : List (List Int)) (x : World) : Prop :=
  BoxIs x w.heap.size cc u ∧ OwnSS x w.heap.size x.heap.size u ll ∧ w.grownBy x none
theorem FinT.mk {w x : World} {C : Nat} {cc : Int} {u : Value} {ll : List (List Int)} (hz : BoxIs x w.heap.size 0 (.slice none 0 0)) (hs : OwnSS x (w.heap.size + 1) C u ll) (hC : C ≤ x.heap.size) (hg : w.grownBy x none) :
    FinT w cc u ll ((x.setCell ⟨w.heap.size, 0, none⟩ (.int .i64 cc)).setCell ⟨w.heap.size, 1, none⟩ u) :=
  ⟨(hz.set0 (cc' := cc)).set (rv' := u),
   (hs.same (((Same.refl _ _ _).setCell (p := ⟨w.heap.size, 0, none⟩) (.inl (by show w.heap.size < _; omega)) (.int .i64 cc)).setCell (p := ⟨w.heap.size, 1, none⟩) (.inl (by show w.heap.size < _; omega)) u)).base (by omega) (by simp; omega),
   grown_set (grown_set hg (p := ⟨w.heap.size, 0, none⟩) (Nat.le_refl _) _) (p := ⟨w.heap.size, 1, none⟩) (Nat.le_refl _) _⟩
theorem FinT.go {w x y : World} {B C c : Nat} {cc : Int} {u : Value} {ll : List (List Int)} (h : FinT w cc u ll x) (hg : x.grownBy y (some c)) (hs : OwnSS x B C u ll) (hB : w.heap.size ≤ B) (hcB : c < B) (hC : C ≤ x.heap.size) (hc : w.heap.size < c) : FinT w cc u ll y :=
  ⟨h.1.grown hg (by simp; omega), (hs.same (same_grown hg hC hcB)).base hB (Nat.le_trans hC hg.size), grown_above h.2.2 hg (fun g e => by simp at e; omega)⟩
end Go.Proofs.YtnbjcelfdppkcadGreat
namespace Go.Proofs.YtnbjcelfdppkcadGreat
open Go.RowKit

def CurList (most : Nat) (W : World) (v : Value) (n c : Nat) (w : World) (e : Ending) (w' : World) : Prop :=
  ∃ (u : Value) (l : List Int), e = .returned u ∧ l.length ≤ most ∧ (∀ x ∈ l, -1 ≤ x ∧ x ≤ 33) ∧ OwnI w' w.heap.size u l ∧ w.grownBy w' (some c) ∧ Cur W v n c w'
set_option maxHeartbeats 1600000 in
theorem list4_any (W : World) (v : Value) (n : Nat) (hn : n ≤ 1048576) (hcode : CodeAt W v n) (c : Nat) (w : World) (hcur : Cur W v n c w) :
    Calls Tryz.prog 40 #[.pointer (some ⟨c, 0, none⟩)] w (CurList 7 W v n c w) := by
  have HB := Lib.hid (below_any W v n hn hcode c)
  have HO := Lib.hid (once_any W v n hn hcode c)
  have HS := Lib.hid (anySet_any W v n hn hcode c)
  obtain ⟨i0, hi, hz0, hz1, hz2⟩ := info_parts info3i
  have HI : Hid (_ ∧ _ ∧ _ ∧ _) := Lib.hid ⟨hi, hz0, hz1, hz2⟩
  clear hi hz0 hz1 hz2
  have hcw := hcur.lt
  have hWc : W.heap.size ≤ c := by obtain ⟨_, _, h, _⟩ := hcur; exact h
  have hcur0 := hcur.kept (World.grownBy_alloc w (.cells #[] 3) none) (by simp) (by simp)
  have hown0 : OwnI (w.alloc (.cells #[] 3)) w.heap.size (.slice (some ⟨w.heap.size, 0, none⟩) 0 0) [] :=
    OwnI.made (World.ownsRow_made w #[] 0 (Nat.le_refl _) (by unfold maxLen; omega) rfl)
  have hg0 : w.grownBy (w.alloc (.cells #[] 3)) (some c) := World.grownBy_alloc w _ _
  go_enter Tryz.func40, Tryz.ntmps40
  go_wp2_with fail
  refine (HB.out _ hcur0 7 (by omega) (by omega)).mono ?_
  rintro e w1 ⟨m0, m1, m2, rfl, g1, hc1⟩
  have hown1 := hown0.keptBy g1 (fun g h e => by cases h; have := (hown0.lt c e).1; omega)
  have hg1 := grown_trans hg0 g1
  clear g1 hcur0 hown0 hg0
  go_wp2_with fail
  go_loopw [3, 4] (fun ov iv wr => ∃ (m : Int) (l : List Int), 0 ≤ m ∧ m ≤ 6 ∧ iv = .int .i64 m ∧ Hid ((l.length : Int) + m ≤ 6 ∧ ∀ x ∈ l, -1 ≤ x ∧ x ≤ 33) ∧ OwnI wr w.heap.size ov l ∧ w.grownBy wr (some c) ∧ Cur W v n c wr) (fun _ iv _ => (intOf iv).toNat)
  case atStart => exact ⟨m0, [], by omega, by omega, rfl, Lib.hid ⟨by simp; omega, by simp⟩, hown1, hg1, hc1⟩
  case round =>
    clear hown1 hg1 hc1
    obtain ⟨m, l, hm0, hm6, rfl, hL, ho, hg, hc⟩ := hrel
    have hlm : l.length ≤ 6 := by have := hL.out.1; omega
    by_cases hlt : 0 < m
    · go_wp2_with fail
      refine (HB.out _ hc 32 (by omega) (by omega)).mono ?_
      rintro e w2 ⟨x, x0, x1, rfl, g2, hc2⟩
      have ho2 := ho.keptBy g2 (fun g h e => by cases h; have := (ho.lt c e).1; omega)
      have hg2 := grown_trans hg g2
      clear g2 hc ho hg
      go_wp2_with (at_builtin; refine wpList_append_own _ rfl _ _ 40 rfl w.heap.size 3 i0 (.int .i64 0) 1 8 Tryz.underlying40 HI.out.1 HI.out.2.1 HI.out.2.2.1 HI.out.2.2.2 rfl (by decide) _ _ _ rfl (World.ownsRow.alloc ho2 _) ⟨w2.heap.size, 0, none⟩ 1 1 [.int .i64 x] rfl rfl (cell_one_new _ _ _) (one_i64 _) (by unfold maxLen; omega) (by omega) (le_of_grown hg2 _) ?_; intro v' w4 hown' hgrow _)
      have ho4 := OwnI.snoc hown'
      have hg4 := grown_above (grown_trans hg2 (World.grownBy_alloc w2 _ _)) hgrow (fun g h => (OwnI.lt ho2 g h).1)
      have hc4 := (hc2.kept (World.grownBy_alloc w2 _ none) (by simp) (by simp)).kept hgrow (fun g h => by have := (OwnI.lt ho2 g h).1; omega) (fun h => by have := (OwnI.lt ho2 c h).1; omega)
      clear hown' hgrow
      go_wp2_with fail
      go_roundw
      case rel => exact ⟨m - 1, l ++ [x], by omega, by omega, by go_num, Lib.hid ⟨by have := hL.out.1; simp; omega, fun y hy => by rcases List.mem_append.1 hy with h | h; exact hL.out.2 y h; simp at h; subst h; omega⟩, ho4, hg4, hc4⟩
      case measure => simp [intOf]; omega
    · have hd : decide (0 < m) = false := by simp; omega
      go_wp2_with fail
      refine (HO.out _ hc 14 (by omega) (by omega)).mono ?_
      rintro e w2 ⟨b, rfl, g2, hc2⟩
      have ho2 := ho.keptBy g2 (fun g h e => by cases h; have := (ho.lt c e).1; omega)
      have hg2 := grown_trans hg g2
      clear g2 hc ho hg
      cases b with
      | true =>
        go_wp2_with fail
        refine (HS.out _ hc2).mono ?_
        rintro e w3 ⟨x, x0, x1, rfl, g3, hc3⟩
        have ho3 := ho2.keptBy g3 (fun g h e => by cases h; have := (ho2.lt c e).1; omega)
        have hg3 := grown_trans hg2 g3
        clear g3 hc2 ho2 hg2
        go_wp2_with (at_builtin; refine wpList_append_own _ rfl _ _ 40 rfl w.heap.size 3 i0 (.int .i64 0) 1 8 Tryz.underlying40 HI.out.1 HI.out.2.1 HI.out.2.2.1 HI.out.2.2.2 rfl (by decide) _ _ _ rfl (World.ownsRow.alloc ho3 _) ⟨w3.heap.size, 0, none⟩ 1 1 [.int .i64 x] rfl rfl (cell_one_new _ _ _) (one_i64 _) (by unfold maxLen; omega) (by omega) (le_of_grown hg3 _) ?_; intro v' w4 hown' hgrow _)
        have ho4 := OwnI.snoc hown'
        have hg4 := grown_above (grown_trans hg3 (World.grownBy_alloc w3 _ _)) hgrow (fun g h => (OwnI.lt ho3 g h).1)
        have hc4 := (hc3.kept (World.grownBy_alloc w3 _ none) (by simp) (by simp)).kept hgrow (fun g h => by have := (OwnI.lt ho3 g h).1; omega) (fun h => by have := (OwnI.lt ho3 c h).1; omega)
        clear hown' hgrow
        go_wp2_with fail
        go_ret
        exact ⟨_, l ++ [x], rfl, by simp; omega, fun y hy => by rcases List.mem_append.1 hy with h | h; exact hL.out.2 y h; simp at h; subst h; omega, ho4, hg4, hc4⟩
      | false =>
        go_wp2_with fail
        go_ret
        exact ⟨_, l, rfl, by omega, hL.out.2, ho2, hg2, hc2⟩
def DrawnList (w : World) (e : Ending) (w' : World) : Prop := ∃ (u : Value) (l : List Int), e = .returned u ∧ l.length ≤ 7 ∧ (∀ x ∈ l, -1 ≤ x ∧ x ≤ 33) ∧ OwnI w' w.heap.size u l ∧ Below w.heap.size w w'
end Go.Proofs.YtnbjcelfdppkcadGreat
