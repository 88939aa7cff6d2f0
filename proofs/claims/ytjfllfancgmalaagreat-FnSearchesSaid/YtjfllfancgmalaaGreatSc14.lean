/- Texts of this claim, merged: Sbi, ClnC, ImB, Cnd, FltD. Conditions: as stated. -/
import Derived.Test.YtjfllfancgmalaaGreatSc12
import Derived.Test.YtjfllfancgmalaaGreatSc13
import Derived.Test.YtjfllfancgmalaaGreatSc10
import Derived.Maps.AppendAt
import Derived.Test.YtjfllfancgmalaaGreatSc11
namespace Go.Proofs.YtjfllfancgmalaaGreat
open Go.RowKit

/-- A search in a block of its own. -/
def SBI (w : World) (b : Nat) (a0 a1 a2 a3 a4 a5 : Value) : Prop := w.heap[b]? = some (.cells #[a0, a1, a2, a3, a4, a5] 29 (0, 0))
theorem SBI.cells {w : World} {b : Nat} {a0 a1 a2 a3 a4 a5 : Value} (h : SBI w b a0 a1 a2 a3 a4 a5) :
    (w.cell? ⟨b, 0, none⟩ = some a0 ∧ w.cell? ⟨b, 1, none⟩ = some a1 ∧ w.cell? ⟨b, 2, none⟩ = some a2 ∧ w.cell? ⟨b, 3, none⟩ = some a3 ∧ w.cell? ⟨b, 4, none⟩ = some a4 ∧ w.cell? ⟨b, 5, none⟩ = some a5) ∧
    (w.frozen? ⟨b, 0, none⟩ = false ∧ w.frozen? ⟨b, 1, none⟩ = false ∧ w.frozen? ⟨b, 2, none⟩ = false ∧ w.frozen? ⟨b, 3, none⟩ = false ∧ w.frozen? ⟨b, 4, none⟩ = false ∧ w.frozen? ⟨b, 5, none⟩ = false) := by
  unfold SBI at h
  exact ⟨⟨by rw [cell_of_row w b 0 _ _ _ h]; rfl, by rw [cell_of_row w b 1 _ _ _ h]; rfl, by rw [cell_of_row w b 2 _ _ _ h]; rfl, by rw [cell_of_row w b 3 _ _ _ h]; rfl, by rw [cell_of_row w b 4 _ _ _ h]; rfl, by rw [cell_of_row w b 5 _ _ _ h]; rfl⟩,
    frozen_of_row w b 0 _ _ h, frozen_of_row w b 1 _ _ h, frozen_of_row w b 2 _ _ h, frozen_of_row w b 3 _ _ h, frozen_of_row w b 4 _ _ h, frozen_of_row w b 5 _ _ h⟩
theorem SBI.lt {w : World} {b : Nat} {a0 a1 a2 a3 a4 a5 : Value} (h : SBI w b a0 a1 a2 a3 a4 a5) : b < w.heap.size := (Array.getElem?_eq_some_iff.1 h).1
theorem SBI.kept {w w' : World} {b : Nat} {a0 a1 a2 a3 a4 a5 : Value} (h : SBI w b a0 a1 a2 a3 a4 a5) (hb : Below w.heap.size w w') : SBI w' b a0 a1 a2 a3 a4 a5 := (hb.block b h.lt).trans h
theorem SBI.four {w : World} {b : Nat} {a0 a1 a2 a3 a4 a5 b0 b1 b2 b3 : Value} (h : SBI w b a0 a1 a2 a3 a4 a5) : SBI ((((w.setCell ⟨b, 0, none⟩ b0).setCell ⟨b, 1, none⟩ b1).setCell ⟨b, 2, none⟩ b2).setCell ⟨b, 3, none⟩ b3) b b0 b1 b2 b3 a4 a5 := by
  unfold SBI at *
  simp only [World.setCell, Array.getElem?_modify]
  rw [if_pos trivial, if_pos trivial, if_pos trivial, if_pos trivial, h]
  rfl
theorem four_other (w : World) (b : Nat) (b0 b1 b2 b3 : Value) {k : Nat} (hk : k ≠ b) : ((((w.setCell ⟨b, 0, none⟩ b0).setCell ⟨b, 1, none⟩ b1).setCell ⟨b, 2, none⟩ b2).setCell ⟨b, 3, none⟩ b3).heap[k]? = w.heap[k]? :=
  (Below.heap_setCell _ _ _ _ hk).trans ((Below.heap_setCell _ _ _ _ hk).trans ((Below.heap_setCell _ _ _ _ hk).trans (Below.heap_setCell _ _ _ _ hk)))
theorem four_below {B : Nat} {a w : World} {b : Nat} (b0 b1 b2 b3 : Value) (h : Below B a w) (hB : B ≤ b) : Below B a ((((w.setCell ⟨b, 0, none⟩ b0).setCell ⟨b, 1, none⟩ b1).setCell ⟨b, 2, none⟩ b2).setCell ⟨b, 3, none⟩ b3) :=
  (((h.setCell (p := ⟨b, 0, none⟩) hB _).setCell (p := ⟨b, 1, none⟩) hB _).setCell (p := ⟨b, 2, none⟩) hB _).setCell (p := ⟨b, 3, none⟩) hB _
theorem four_same {B C : Nat} (w : World) {b : Nat} (b0 b1 b2 b3 : Value) (hB : b < B) : Same B C w ((((w.setCell ⟨b, 0, none⟩ b0).setCell ⟨b, 1, none⟩ b1).setCell ⟨b, 2, none⟩ b2).setCell ⟨b, 3, none⟩ b3) :=
  ((((Same.refl B C w).setCell (p := ⟨b, 0, none⟩) (.inl hB) _).setCell (p := ⟨b, 1, none⟩) (.inl hB) _).setCell (p := ⟨b, 2, none⟩) (.inl hB) _).setCell (p := ⟨b, 3, none⟩) (.inl hB) _
theorem SBI.eqb {w w' : World} {b : Nat} {a0 a1 a2 a3 a4 a5 : Value} (h : SBI w b a0 a1 a2 a3 a4 a5) (hb : w'.heap[b]? = w.heap[b]?) : SBI w' b a0 a1 a2 a3 a4 a5 := hb.trans h
theorem cell_eqb {w w' : World} {b o : Nat} {v : Value} (h : w.cell? ⟨b, o, none⟩ = some v) (hb : w'.heap[b]? = w.heap[b]?) : w'.cell? ⟨b, o, none⟩ = some v := (World.cell?_of_block (show w'.heap[(⟨b, o, none⟩ : Addr).block]? = w.heap[(⟨b, o, none⟩ : Addr).block]? from hb)).trans h
theorem SBI.two {w : World} {b : Nat} {a0 a1 a2 a3 a4 a5 b4 b5 : Value} (h : SBI w b a0 a1 a2 a3 a4 a5) : SBI ((w.setCell ⟨b, 4, none⟩ b4).setCell ⟨b, 5, none⟩ b5) b a0 a1 a2 a3 b4 b5 := by
  unfold SBI at *
  simp only [World.setCell, Array.getElem?_modify]
  rw [if_pos trivial, if_pos trivial, h]
  rfl
theorem two_other (w : World) (b : Nat) (b4 b5 : Value) {k : Nat} (hk : k ≠ b) : ((w.setCell ⟨b, 4, none⟩ b4).setCell ⟨b, 5, none⟩ b5).heap[k]? = w.heap[k]? :=
  (Below.heap_setCell _ _ _ _ hk).trans (Below.heap_setCell _ _ _ _ hk)
theorem eight_below {B : Nat} {a w : World} {q p : Nat} (x4 x5 b0 b1 b2 b3 b4 b5 : Value) (h : Below B a w) (hq : B ≤ q) (hp : B ≤ p) : Below B a ((((((((w.setCell ⟨q, 4, none⟩ x4).setCell ⟨q, 5, none⟩ x5).setCell ⟨p, 0, none⟩ b0).setCell ⟨p, 1, none⟩ b1).setCell ⟨p, 2, none⟩ b2).setCell ⟨p, 3, none⟩ b3).setCell ⟨p, 4, none⟩ b4).setCell ⟨p, 5, none⟩ b5) :=
  ((((((((h.setCell (p := ⟨q, 4, none⟩) hq _).setCell (p := ⟨q, 5, none⟩) hq _).setCell (p := ⟨p, 0, none⟩) hp _).setCell (p := ⟨p, 1, none⟩) hp _).setCell (p := ⟨p, 2, none⟩) hp _).setCell (p := ⟨p, 3, none⟩) hp _).setCell (p := ⟨p, 4, none⟩) hp _).setCell (p := ⟨p, 5, none⟩) hp _)
theorem eight_same {B C : Nat} (w : World) {q p : Nat} (x4 x5 b0 b1 b2 b3 b4 b5 : Value) (hq : q < B) (hp : p < B) : Same B C w ((((((((w.setCell ⟨q, 4, none⟩ x4).setCell ⟨q, 5, none⟩ x5).setCell ⟨p, 0, none⟩ b0).setCell ⟨p, 1, none⟩ b1).setCell ⟨p, 2, none⟩ b2).setCell ⟨p, 3, none⟩ b3).setCell ⟨p, 4, none⟩ b4).setCell ⟨p, 5, none⟩ b5) :=
  (((((((((Same.refl B C w).setCell (p := ⟨q, 4, none⟩) (.inl hq) _).setCell (p := ⟨q, 5, none⟩) (.inl hq) _).setCell (p := ⟨p, 0, none⟩) (.inl hp) _).setCell (p := ⟨p, 1, none⟩) (.inl hp) _).setCell (p := ⟨p, 2, none⟩) (.inl hp) _).setCell (p := ⟨p, 3, none⟩) (.inl hp) _).setCell (p := ⟨p, 4, none⟩) (.inl hp) _).setCell (p := ⟨p, 5, none⟩) (.inl hp) _)
def RetSea (c m at_ t : Int) (ll : List (List Int)) (F : List (Int × Int)) (w : World) (e : Ending) (w' : World) : Prop :=
  ∃ (u g : Value) (C : Nat), e = .returned (srcV c u m at_ g t) ∧ OwnSS w' w.heap.size C u ll ∧ OwnD w' C g F ∧ w.heap.size ≤ C ∧ C ≤ w'.heap.size ∧ Below w.heap.size w w'
end Go.Proofs.YtjfllfancgmalaaGreat
namespace Go.Proofs.YtjfllfancgmalaaGreat
open Go.RowKit

theorem SBI.two01 {w : World} {b : Nat} {a0 a1 a2 a3 a4 a5 b0 b1 : Value} (h : SBI w b a0 a1 a2 a3 a4 a5) : SBI ((w.setCell ⟨b, 0, none⟩ b0).setCell ⟨b, 1, none⟩ b1) b b0 b1 a2 a3 a4 a5 := by
  unfold SBI at *
  simp only [World.setCell, Array.getElem?_modify]
  rw [if_pos trivial, if_pos trivial, h]
  rfl
theorem SBI.one3 {w : World} {b : Nat} {a0 a1 a2 a3 a4 a5 b3 : Value} (h : SBI w b a0 a1 a2 a3 a4 a5) : SBI (w.setCell ⟨b, 3, none⟩ b3) b a0 a1 a2 b3 a4 a5 := by
  unfold SBI at *
  simp only [World.setCell, Array.getElem?_modify]
  rw [if_pos trivial, h]
  rfl
theorem SBI.one4 {w : World} {b : Nat} {a0 a1 a2 a3 a4 a5 b4 : Value} (h : SBI w b a0 a1 a2 a3 a4 a5) : SBI (w.setCell ⟨b, 4, none⟩ b4) b a0 a1 a2 a3 b4 a5 := by
  unfold SBI at *
  simp only [World.setCell, Array.getElem?_modify]
  rw [if_pos trivial, h]
  rfl
theorem SBI.one5 {w : World} {b : Nat} {a0 a1 a2 a3 a4 a5 b5 : Value} (h : SBI w b a0 a1 a2 a3 a4 a5) : SBI (w.setCell ⟨b, 5, none⟩ b5) b a0 a1 a2 a3 a4 b5 := by
  unfold SBI at *
  simp only [World.setCell, Array.getElem?_modify]
  rw [if_pos trivial, h]
  rfl
theorem SBI.six {w : World} {b : Nat} {a0 a1 a2 a3 a4 a5 b0 b1 b2 b3 b4 b5 : Value} (h : SBI w b a0 a1 a2 a3 a4 a5) : SBI ((((((w.setCell ⟨b, 0, none⟩ b0).setCell ⟨b, 1, none⟩ b1).setCell ⟨b, 2, none⟩ b2).setCell ⟨b, 3, none⟩ b3).setCell ⟨b, 4, none⟩ b4).setCell ⟨b, 5, none⟩ b5) b b0 b1 b2 b3 b4 b5 := by
  unfold SBI at *
  simp only [World.setCell, Array.getElem?_modify]
  rw [if_pos trivial, if_pos trivial, if_pos trivial, if_pos trivial, if_pos trivial, if_pos trivial, h]
  rfl
theorem six_below {B : Nat} {a w : World} {p : Nat} (b0 b1 b2 b3 b4 b5 : Value) (h : Below B a w) (hp : B ≤ p) : Below B a ((((((w.setCell ⟨p, 0, none⟩ b0).setCell ⟨p, 1, none⟩ b1).setCell ⟨p, 2, none⟩ b2).setCell ⟨p, 3, none⟩ b3).setCell ⟨p, 4, none⟩ b4).setCell ⟨p, 5, none⟩ b5) :=
  ((((((h.setCell (p := ⟨p, 0, none⟩) hp _).setCell (p := ⟨p, 1, none⟩) hp _).setCell (p := ⟨p, 2, none⟩) hp _).setCell (p := ⟨p, 3, none⟩) hp _).setCell (p := ⟨p, 4, none⟩) hp _).setCell (p := ⟨p, 5, none⟩) hp _)
theorem six_same {B C : Nat} (w : World) {p : Nat} (b0 b1 b2 b3 b4 b5 : Value) (hp : p < B ∨ C ≤ p) : Same B C w ((((((w.setCell ⟨p, 0, none⟩ b0).setCell ⟨p, 1, none⟩ b1).setCell ⟨p, 2, none⟩ b2).setCell ⟨p, 3, none⟩ b3).setCell ⟨p, 4, none⟩ b4).setCell ⟨p, 5, none⟩ b5) :=
  (((((((Same.refl B C w).setCell (p := ⟨p, 0, none⟩) hp _).setCell (p := ⟨p, 1, none⟩) hp _).setCell (p := ⟨p, 2, none⟩) hp _).setCell (p := ⟨p, 3, none⟩) hp _).setCell (p := ⟨p, 4, none⟩) hp _).setCell (p := ⟨p, 5, none⟩) hp _)
theorem SBI.new (w : World) (a0 a1 a2 a3 a4 a5 : Value) : SBI (w.alloc (.cells #[a0, a1, a2, a3, a4, a5] 29)) w.heap.size a0 a1 a2 a3 a4 a5 := heap_alloc_new w _
/-- A search's box and a result's box behind it. -/
theorem SBI.pair (w : World) (a0 a1 a2 a3 a4 a5 b0 b1 b2 b3 b4 b5 : Value) :
    SBI ((w.alloc (.cells #[a0, a1, a2, a3, a4, a5] 29)).alloc (.cells #[b0, b1, b2, b3, b4, b5] 29)) w.heap.size a0 a1 a2 a3 a4 a5 ∧
    SBI ((w.alloc (.cells #[a0, a1, a2, a3, a4, a5] 29)).alloc (.cells #[b0, b1, b2, b3, b4, b5] 29)) (w.heap.size + 1) b0 b1 b2 b3 b4 b5 ∧
    Below w.heap.size w ((w.alloc (.cells #[a0, a1, a2, a3, a4, a5] 29)).alloc (.cells #[b0, b1, b2, b3, b4, b5] 29)) := by
  have h2 := (Below.refl (w.alloc (.cells #[a0, a1, a2, a3, a4, a5] 29)).heap.size _).alloc (Nat.le_refl _) (.cells #[b0, b1, b2, b3, b4, b5] 29)
  have hy := SBI.new (w.alloc (.cells #[a0, a1, a2, a3, a4, a5] 29)) b0 b1 b2 b3 b4 b5
  rw [World.size_alloc] at hy
  have h1 := (Below.refl w.heap.size w).alloc (Nat.le_refl _) (.cells #[a0, a1, a2, a3, a4, a5] 29)
  exact ⟨(SBI.new w a0 a1 a2 a3 a4 a5).kept h2, hy, h1.trans (h2.mono h1.size)⟩
section
set_option maxRecDepth 20000
set_option maxHeartbeats 1600000
theorem seaCopied_any (c m at_ t : Int) (v f : Value) (ll : List (List Int)) (F : List (Int × Int)) (w : World) (hr : ReadSS w v ll) (hl : ll.length ≤ 1048576) (ht : ∀ i, i < ll.length → (ll.getD i []).length ≤ 1048576) (hf : ReadD w f F) (hF : F.length ≤ 1048576) :
    Calls Tryz.prog 27 #[srcV c v m at_ f t] w (RetSea c m at_ t ll F w) := by
  have HT := Lib.hid (fun w' (hb : Below w.heap.size w w') => tabCopied_any c v ll w' (hr.kept hb) hl ht)
  have HD := Lib.hid (fun w' (hb : Below w.heap.size w w') => cloneD_any f F w' (hf.kept hb) hF)
  obtain ⟨a, cap, rfl, -⟩ := hr
  obtain ⟨af, capf, rfl, -⟩ := hf
  obtain ⟨hx, hy, hb⟩ := SBI.pair w (.int .i64 c) (.slice a ll.length cap) (.int .i64 m) (.int .i64 at_) (.slice af F.length capf) (.int .i64 t) (.int .i64 0) (.slice none 0 0) (.int .i64 0) (.int .i64 0) (.slice none 0 0) (.int .i64 0)
  have HX := Lib.hid hx
  have HY := Lib.hid hy
  have HB := Lib.hid hb
  obtain ⟨⟨c0, c1, c2, c3, c4, c5⟩, -⟩ := HX.out.cells
  unfold srcV
  clear hx hy hb ht
  go_enter Tryz.func27, Tryz.ntmps27
  go_wp2_with fail
  refine (HT.out _ HB.out).mono ?_
  rintro e w1 ⟨u, rfl, ou, b1⟩
  have hlt := HY.out.lt
  have HB1 := Lib.hid (HB.out.trans (b1.mono HB.out.size))
  have HX1 := HX.out.kept b1
  have HY1 := HY.out.kept b1
  have hlt1 := HY1.lt
  obtain ⟨au, capu, rfl, -⟩ := ou.read
  clear c0 c1 c2 c3 c4 c5
  obtain ⟨⟨c0, c1, c2, c3, c4, c5⟩, f0, f1, f2, f3, f4, f5⟩ := HX1.cells
  have HX2 := HX1.two01 (b0 := .int .i64 c) (b1 := .slice au ll.length capu)
  have HB2 := Lib.hid ((HB1.out.setCell (p := ⟨w.heap.size, 0, none⟩) (Nat.le_refl _) (.int .i64 c)).setCell (p := ⟨w.heap.size, 1, none⟩) (Nat.le_refl _) (.slice au ll.length capu))
  have HY2 := HY1.eqb ((Below.heap_setCell (w1.setCell ⟨w.heap.size, 0, none⟩ (.int .i64 c)) ⟨w.heap.size, 1, none⟩ (.slice au ll.length capu) (w.heap.size + 1) (by simp)).trans (Below.heap_setCell w1 ⟨w.heap.size, 0, none⟩ (.int .i64 c) (w.heap.size + 1) (by simp)))
  have ou2 := ou.same (((Same.refl _ w1.heap.size w1).setCell (p := ⟨w.heap.size, 0, none⟩) (.inl (by simp; omega)) (.int .i64 c)).setCell (p := ⟨w.heap.size, 1, none⟩) (.inl (by simp; omega)) (.slice au ll.length capu))
  have HX3 := Lib.hid HX2
  have HY3 := Lib.hid HY2
  have OU := Lib.hid ou2
  clear b1 ou ou2 HX1 HY1 HX2 HY2
  go_wp2_with fail
  clear c0 c1 c2 c3 c5 f0 f1 f2 f3 f4 f5
  refine (HD.out _ HB2.out).mono ?_
  rintro e w3 ⟨g, rfl, og, b3⟩
  have HB3 := Lib.hid (HB2.out.trans (b3.mono HB2.out.size))
  have HX4 := HX3.out.kept b3
  have HY4 := HY3.out.kept b3
  have ou3 := OU.out.same (Below.keeps b3 (by simp))
  have hs3 := b3.size
  obtain ⟨ag, capg, rfl⟩ := og.shape
  clear c4 b3
  obtain ⟨⟨c0, c1, c2, c3, c4, c5⟩, f0, f1, f2, f3, f4, f5⟩ := HX4.cells
  obtain ⟨⟨d0, d1, d2, d3, d4, d5⟩, g0, g1, g2, g3, g4, g5⟩ := HY4.cells
  simp only [World.size_setCell] at hs3 og
  have hb4 := HB3.out.setCell (p := ⟨w.heap.size, 4, none⟩) (Nat.le_refl _) (.slice ag F.length capg)
  have hb5 := six_below (p := w.heap.size + 1) (.int .i64 c) (.slice au ll.length capu) (.int .i64 m) (.int .i64 at_) (.slice ag F.length capg) (.int .i64 t) hb4 (by simp)
  have hsm := fun (B C : Nat) (h : w.heap.size + 1 < B) => ((Same.refl B C w3).setCell (p := ⟨w.heap.size, 4, none⟩) (.inl (by simp; omega)) (.slice ag F.length capg)).trans (six_same (w3.setCell ⟨w.heap.size, 4, none⟩ (.slice ag F.length capg)) (p := w.heap.size + 1) (.int .i64 c) (.slice au ll.length capu) (.int .i64 m) (.int .i64 at_) (.slice ag F.length capg) (.int .i64 t) (.inl h))
  have ou5 := (ou3.same (hsm _ _ hlt)).base (B' := w.heap.size) (C' := w1.heap.size) HB.out.size (Nat.le_refl _)
  have og5 := (og.range.same (hsm _ _ hlt1)).1
  have HB5 := Lib.hid hb5
  have OU5 := Lib.hid ou5
  have OG5 := Lib.hid og5
  have HSZ := Lib.hid hs3
  have HLT := Lib.hid hlt1
  clear hb4 hb5 ou5 og5 ou3 og hsm hs3 HX4 HY4
  go_wp2_with fail
  exact bodyPost_ret (v := srcV c (.slice au ll.length capu) m at_ (.slice ag F.length capg) t) (by simp [srcV, results, Tryz.results27, go_sem, d0, d1, d2, d3, d4, d5]) rfl ⟨_, _, w1.heap.size, rfl, OU5.out, OG5.out, by have := HLT.out; omega, by simp; exact HSZ.out, HB5.out⟩
end
end Go.Proofs.YtjfllfancgmalaaGreat
namespace Go.Proofs.YtjfllfancgmalaaGreat
open Go.RowKit

set_option maxHeartbeats 800000 in
theorem members_any (X : Nat) (hX : X < 32) (w : World) :
    Calls Tryz.prog 88 #[.int .i64 (X : Int)] w (RetI (mems (X : Int)) w) := by
  obtain ⟨i0, hi, hz0, hz1, hz2⟩ := info_parts info3i
  have HI : Hid (_ ∧ _ ∧ _ ∧ _) := Lib.hid ⟨hi, hz0, hz1, hz2⟩
  clear hi hz0 hz1 hz2
  have he : mems (X : Int) = memN X 5 := by unfold mems; rw [if_pos (by omega)]; rfl
  have HE := Lib.hid he
  clear he
  have HH := Lib.hid (fun (k : Nat) (hk : k ≤ 62) (w : World) => has_any X k hk w)
  go_enter Tryz.func88, Tryz.ntmps88
  go_wp2_with (at_make; refine wpList_make_own _ rfl _ _ 52 rfl w.heap.size 3 i0 (.int .i64 0) 1 Tryz.underlying52 HI.out.1 HI.out.2.1 HI.out.2.2.1 .i64 .i64 _ 5 rfl rfl (by omega) (by rw [HI.out.2.2.2]; omega) (by unfold maxLen; omega) (Nat.le_refl _) ?_; intro w0 hown0 hgrow0)
  have hb0 := (Below.refl w.heap.size w).grown hgrow0 (Nat.le_refl _) (by simp)
  have hown := OwnI.made hown0
  clear hown0 hgrow0
  go_loopw [3, 4] (fun ov iv wr => ∃ (k : Nat) (l : List Int), k ≤ 5 ∧ iv = .int .i64 (k : Int) ∧ Hid (l = memN X k) ∧ OwnI wr w.heap.size ov l ∧ Below w.heap.size w wr) (fun _ iv _ => (5 - intOf iv).toNat)
  case atStart => exact ⟨0, [], by omega, rfl, Lib.hid rfl, hown, hb0⟩
  case round =>
    obtain ⟨k, l, hk, rfl, hl, ho, hb⟩ := hrel
    by_cases hlt : k < 5
    · have hll : l.length ≤ 5 := by rw [hl.out]; have := memN_len X k; omega
      by_cases hB : bitB X k = true
      · go_wp2_with fail
        refine (HH.out k (by omega) _).mono ?_
        rintro e w' ⟨rfl, rfl⟩
        go_wp2_with (at_builtin; refine wpList_append_own _ rfl _ _ 52 rfl w.heap.size 3 i0 (.int .i64 0) 1 8 Tryz.underlying52 HI.out.1 HI.out.2.1 HI.out.2.2.1 HI.out.2.2.2 rfl (by decide) _ _ _ rfl (World.ownsRow.alloc ho _) ⟨wr.heap.size, 0, none⟩ 1 1 [.int .i64 (k : Int)] rfl rfl (cell_one_new _ _ _) (one_i64 _) (by unfold maxLen; omega) (by omega) (le_alloc hb (Nat.le_refl _) _) ?_; intro v' w1 hown' hgrow _)
        have ho' := OwnI.snoc hown'
        have hb' := (hb.alloc hb.size (.cells #[.int .i64 (k : Int)] 3)).grown hgrow (by simp; have := hb.size; omega) (fun k hk => (OwnI.lt ho k hk).1)
        clear hown' hgrow
        go_wp2_with fail
        go_roundw
        case rel => exact ⟨k + 1, _, by omega, by go_num, Lib.hid (by rw [memN_succ, if_pos hB, ← hl.out]), ho', hb'⟩
        case measure => simp [intOf]; omega
      · have hB2 : bitB X k = false := by simpa using hB
        go_wp2_with fail
        refine (HH.out k (by omega) _).mono ?_
        rintro e w' ⟨rfl, rfl⟩
        go_wp2_with fail
        go_roundw
        case rel => exact ⟨k + 1, _, by omega, by go_num, Lib.hid (by rw [memN_succ, if_neg hB, ← hl.out]), ho, hb⟩
        case measure => simp [intOf]; omega
    · obtain rfl : k = 5 := by omega
      go_wp2_with fail
      go_ret
      exact ⟨_, rfl, by rw [HE.out, ← hl.out]; exact ho, hb⟩
theorem OwnI.none (w : World) (B : Nat) : OwnI w B (.slice .none 0 0) [] := World.ownsRow_nil _ _ _ _
set_option maxHeartbeats 1600000 in
theorem implParts_any (n : Int) (w : World) :
    Calls Tryz.prog 62 #[.int .i64 n] w (RetI (parts n) w) := by
  obtain ⟨i0, hi, hz0, hz1, hz2⟩ := info_parts info3i
  have HI : Hid (_ ∧ _ ∧ _ ∧ _) := Lib.hid ⟨hi, hz0, hz1, hz2⟩
  clear hi hz0 hz1 hz2
  by_cases hn : 0 ≤ n ∧ n ≤ 5
  · obtain ⟨N, rfl⟩ : ∃ N : Nat, n = (N : Int) := ⟨n.toNat, by omega⟩
    have hN : N ≤ 5 := by omega
    have h1 : decide (0 ≤ (N : Int) ∧ (N : Int) ≤ 5) = true := by simp; omega
    have HE : Hid (parts (N : Int) = bySize N (N + 1)) := Lib.hid (by unfold parts; rw [if_pos hn]; rfl)
    obtain ⟨M, hM, hM31⟩ : ∃ M : Nat, M + 1 = 2 ^ N ∧ M ≤ 31 := by
      have : 2 ^ N ≤ 2 ^ 5 := Nat.pow_le_pow_right (by omega) hN
      have : 0 < 2 ^ N := Nat.pow_pos (by omega)
      exact ⟨2 ^ N - 1, by omega, by omega⟩
    have HM := Lib.hid hM
    have HA : Hid (∀ w, Calls Tryz.prog 81 #[.int .i64 (N : Int)] w fun e w' => e = .returned (.int .i64 (M : Int)) ∧ w = w') :=
      Lib.hid fun w => (first_any (N : Int) w hn.1 hn.2).mono fun _ _ ⟨a, b⟩ => ⟨by
        rw [a, show (N : Int).toNat = N from rfl, show ((2 : Int) ^ N - 1) = (M : Int) by
          have h3 : ((2 ^ N : Nat) : Int) = (2 : Int) ^ N := by rw [Int.natCast_pow]; rfl
          omega], b⟩
    have HIN : Hid (∀ w, Calls Tryz.prog 80 #[.int .i64 (N : Int)] w fun e w' => e = .returned (.bool true) ∧ w = w') := Lib.hid fun w => (colCount_any (N : Int) w).mono fun _ _ ⟨a, b⟩ => ⟨by rw [a, h1], b⟩
    have HS : Hid (∀ X : Nat, X ≤ M → ∀ w, _) := Lib.hid fun X hX w => size_any X (by omega) w
    clear hM hn h1
    go_enter Tryz.func62, Tryz.ntmps62
    go_wp2_with fail
    refine (HIN.out _).mono ?_
    rintro e w' ⟨rfl, rfl⟩
    go_wp2_with fail
    refine (HA.out _).mono ?_
    rintro e w' ⟨rfl, rfl⟩
    go_wp2_with (at_make; refine wpList_make_own _ rfl _ _ 52 rfl w.heap.size 3 i0 (.int .i64 0) 1 Tryz.underlying52 HI.out.1 HI.out.2.1 HI.out.2.2.1 .i64 .i64 _ (M + 1) rfl rfl (by omega) (by rw [HI.out.2.2.2]; omega) (by unfold maxLen; omega) (Nat.le_refl _) ?_; intro w0 hown0 hgrow0)
    have hb0 := (Below.refl w.heap.size w).grown hgrow0 (Nat.le_refl _) (by simp)
    have hown := OwnI.made hown0
    clear hown0 hgrow0
    go_loopw [4, 5] (fun ov sv wr => ∃ (s : Nat) (l : List Int), s ≤ N + 1 ∧ sv = .int .i64 (s : Int) ∧ Hid (l = bySize N s) ∧ OwnI wr w.heap.size ov l ∧ Below w.heap.size w wr) (fun _ sv _ => (N + 1 - intOf sv).toNat)
    case atStart => exact ⟨0, [], by omega, rfl, Lib.hid rfl, hown, hb0⟩
    case round =>
      obtain ⟨s, l, hs, rfl, hl, ho, hb⟩ := hrel
      by_cases hlt : s ≤ N
      · go_wp2_with fail
        obtain ⟨wo, rfl⟩ : ∃ wo : World, wo = wr := ⟨_, rfl⟩
        go_loopw [4, 6] (fun ov xv wr => ∃ (x : Nat) (l2 : List Int), x ≤ M + 1 ∧ xv = .int .i64 (x : Int) ∧ Hid (l2 = l ++ ofSize s x) ∧ OwnI wr w.heap.size ov l2 ∧ Below w.heap.size w wr) (fun _ xv _ => (M + 1 - intOf xv).toNat)
        case atStart => exact ⟨0, l, by omega, rfl, Lib.hid (by simp [ofSize]), ho, hb⟩
        case round =>
          clear ho hb
          obtain ⟨x, l2, hx, rfl, hl2, ho, hb⟩ := hrel
          have hll : l2.length ≤ 1000 := by
            rw [hl2.out, List.length_append, hl.out]
            have a1 := bySize_len N s
            have a2 := ofSize_len s x
            have a3 : s * 2 ^ N ≤ 5 * 32 := Nat.mul_le_mul (by omega) (by have := HM.out; omega)
            omega
          by_cases hxm : x ≤ M
          · by_cases hc : cnt (x : Int) = s
            · have heq : ((cnt (x : Int) : Int) == (s : Int)) = true := by simp [hc]
              have HCN := Lib.hid hc
              clear hc
              go_wp2_with fail
              refine (HS.out x hxm _).mono ?_
              rintro e w' ⟨rfl, rfl⟩
              go_wp2_with (at_builtin; refine wpList_append_own _ rfl _ _ 52 rfl w.heap.size 3 i0 (.int .i64 0) 1 8 Tryz.underlying52 HI.out.1 HI.out.2.1 HI.out.2.2.1 HI.out.2.2.2 rfl (by decide) _ _ _ rfl (World.ownsRow.alloc ho _) ⟨wr.heap.size, 0, none⟩ 1 1 [.int .i64 (x : Int)] rfl rfl (cell_one_new _ _ _) (one_i64 _) (by unfold maxLen; omega) (by omega) (le_alloc hb (Nat.le_refl _) _) ?_; intro v' w2 hown' hgrow _)
              have ho' := OwnI.snoc hown'
              have hb' := (hb.alloc hb.size (.cells #[.int .i64 (x : Int)] 3)).grown hgrow (by simp; have := hb.size; omega) (fun k hk => (OwnI.lt ho k hk).1)
              clear hown' hgrow
              go_wp2_with fail
              go_roundw
              case rel => exact ⟨x + 1, _, by omega, by go_num, Lib.hid (by rw [ofSize_succ, if_pos (by simp [HCN.out]), hl2.out, List.append_assoc]), ho', hb'⟩
              case measure => simp [intOf]; omega
            · have heq : ((cnt (x : Int) : Int) == (s : Int)) = false := by simp; omega
              have HCN := Lib.hid hc
              clear hc
              go_wp2_with fail
              refine (HS.out x hxm _).mono ?_
              rintro e w' ⟨rfl, rfl⟩
              go_wp2_with fail
              go_roundw
              case rel => exact ⟨x + 1, _, by omega, by go_num, Lib.hid (by rw [ofSize_succ, if_neg (by simp [HCN.out]), hl2.out]), ho, hb⟩
              case measure => simp [intOf]; omega
          · obtain rfl : x = M + 1 := by omega
            go_wp2_with fail
            go_roundw
            case rel => exact ⟨s + 1, _, by omega, by go_num, Lib.hid (by rw [bySize_succ, hl2.out, hl.out, HM.out]), ho, hb⟩
            case measure => simp [intOf]; omega
      · obtain rfl : s = N + 1 := by omega
        go_wp2_with fail
        go_ret
        exact ⟨_, rfl, by rw [HE.out, ← hl.out]; exact ho, hb⟩
  · have h1 : decide (0 ≤ n ∧ n ≤ 5) = false := by simp only [hn, decide_false]
    have HE : Hid (parts n = []) := Lib.hid (by unfold parts; rw [if_neg hn])
    have HIN : Hid (∀ w, Calls Tryz.prog 80 #[.int .i64 n] w fun e w' => e = .returned (.bool false) ∧ w = w') := Lib.hid fun w => (colCount_any n w).mono fun _ _ ⟨a, b⟩ => ⟨by rw [a, h1], b⟩
    clear hn
    go_enter Tryz.func62, Tryz.ntmps62
    go_wp2_with fail
    refine (HIN.out _).mono ?_
    rintro e w' ⟨rfl, rfl⟩
    go_wp2_with fail
    go_ret
    exact ⟨_, rfl, by rw [HE.out]; exact OwnI.none _ _, Below.refl _ _⟩
end Go.Proofs.YtjfllfancgmalaaGreat
namespace Go.Proofs.YtjfllfancgmalaaGreat
open Go.RowKit

/-- The first k candidates. -/
def cdL (C k : Nat) : List (Int × Int) := (List.range k).map (cdt C)
theorem cdL_len (C k : Nat) : (cdL C k).length = k := by simp [cdL]
theorem cdL_succ (C k : Nat) : cdL C (k + 1) = cdL C k ++ [cdt C k] := by unfold cdL; rw [List.range_succ, List.map_append]; rfl
theorem cdL_get (C n k : Nat) (h : k < n) : (cdL C n).getD k (0, 0) = cdt C k := by
  unfold cdL
  rw [List.getD_eq_getElem?_getD, List.getElem?_map, List.getElem?_range h]; rfl
theorem cdt_at (C j r : Nat) (hr : r < C) : cdt C (C * j + r) = ((parts (C : Int)).getD j 0, (r : Int)) := by
  unfold cdt
  rw [Nat.mul_add_div (by omega), Nat.div_eq_of_lt hr, Nat.add_zero, Nat.mul_add_mod, Nat.mod_eq_of_lt hr]
section
set_option maxRecDepth 20000
set_option maxHeartbeats 1600000
theorem cands_any (C : Nat) (hC1 : 1 ≤ C) (hC : C ≤ 5) (m at_ t : Int) (a af : Option Addr) (n1 n2 cap capf : Nat) (w : World) :
    Calls Tryz.prog 39 #[srcV (C : Int) (.slice a n1 cap) m at_ (.slice af n2 capf) t] w (RetD (cdL C (C * 2 ^ C)) w) := by
  obtain ⟨i0, hi, hz0, hz1, hz2⟩ := info_parts infoDp
  have HI : Hid (_ ∧ _ ∧ _ ∧ _) := Lib.hid ⟨hi, hz0, hz1, hz2⟩
  clear hi hz0 hz1 hz2
  have HP := Lib.hid (implParts_any (C : Int))
  have hpc := parts_cnt ⟨C, by omega⟩
  simp only at hpc
  have h32 := two5 hC
  have HAT := Lib.hid (cdt_at C)
  obtain ⟨ps, hps⟩ : ∃ ps, ps = parts (C : Int) := ⟨_, rfl⟩
  rw [← hps] at HP hpc HAT
  have HPC := Lib.hid hpc
  have hp32 : ps.length ≤ 32 := by omega
  have HB := Lib.hid ((Below.refl w.heap.size w).alloc (Nat.le_refl _) (.cells #[.int .i64 (C : Int), .slice a n1 cap, .int .i64 m, .int .i64 at_, .slice af n2 capf, .int .i64 t] 29))
  obtain ⟨⟨c0, -⟩, -⟩ := (SBI.new w (.int .i64 (C : Int)) (.slice a n1 cap) (.int .i64 m) (.int .i64 at_) (.slice af n2 capf) (.int .i64 t)).cells
  unfold srcV
  clear hps hpc h32
  go_enter Tryz.func39, Tryz.ntmps39
  go_wp2_with fail
  refine (HP.out _).mono ?_
  rintro e w1 ⟨vp, rfl, op, b1⟩
  have HB1 := Lib.hid (HB.out.trans (b1.mono HB.out.size))
  obtain ⟨ap, capp, hv, -⟩ := op.read
  subst hv
  have HO1 := Lib.hid (op.base HB.out.size)
  clear b1 op c0
  go_wp2_with fail
  go_loopw [4, 14] (fun ov iv wr => ∃ (j : Nat) (q : List (Int × Int)), j ≤ ps.length ∧ iv = .int .i64 (j : Int) ∧ Hid (q = cdL C (C * j)) ∧ Hid (OwnD wr w.heap.size ov q) ∧ Hid (OwnI wr w.heap.size (.slice ap ps.length capp) ps) ∧ Hid (Below w.heap.size w wr)) (fun _ iv _ => ps.length - (intOf iv).toNat)
  case atStart => exact ⟨0, [], by omega, rfl, Lib.hid (by simp [cdL]), Lib.hid (OwnD.nil _ _), HO1, HB1⟩
  case round =>
    clear HO1 HB1
    obtain ⟨j, q, hj, rfl, hq, ho, hio, hb⟩ := hrel
    obtain ⟨w2, hw2⟩ : ∃ w', w' = wr := ⟨_, rfl⟩
    rw [← hw2] at ho hio hb ⊢
    clear hw2
    by_cases hlt : j < ps.length
    · obtain ⟨x, hx, hcx⟩ := row_at8 hio.out hlt
      subst hx
      have HATJ := Lib.hid (HAT.out j)
      obtain ⟨y, hy⟩ : ∃ y, y = ps.getD j 0 := ⟨_, rfl⟩
      rw [← hy] at hcx HATJ
      have z0 : (0 : Int) ≤ (j : Int) := by omega
      have z1 : (j : Int) < (ps.length : Int) := by omega
      have HM : Hid (C * j + C ≤ 160) := Lib.hid (by
        have h1 : C * (j + 1) ≤ 5 * 32 := Nat.mul_le_mul hC (by omega)
        rw [Nat.mul_succ] at h1; omega)
      clear hy
      go_wp2_with fail
      go_loopw [4, 7] (fun ov rv wr => ∃ (r : Nat) (q2 : List (Int × Int)), r ≤ C ∧ rv = .int .i64 (r : Int) ∧ Hid (q2 = cdL C (C * j + r)) ∧ Hid (OwnD wr w.heap.size ov q2) ∧ Hid (OwnI wr w.heap.size (.slice (some x) ps.length capp) ps) ∧ Hid (Below w.heap.size w wr)) (fun _ rv _ => C - (intOf rv).toNat)
      case atStart => exact ⟨0, q, by omega, rfl, hq, ho, hio, hb⟩
      case round =>
        clear ho hb hio hq hcx
        obtain ⟨r, q2, hr, rfl, hq2, ho, hio, hb⟩ := hrel
        obtain ⟨w3, hw3⟩ : ∃ w', w' = wr := ⟨_, rfl⟩
        rw [← hw3] at ho hio hb ⊢
        clear hw3
        by_cases hlt2 : r < C
        · have hl2 : q2.length ≤ 160 := by rw [hq2.out, cdL_len]; have := HM.out; omega
          have HS : Hid (cdL C (C * j + (r + 1)) = q2 ++ [(y, (r : Int))]) := Lib.hid (by rw [← Nat.add_assoc, cdL_succ, HATJ.out r hlt2, hq2.out])
          have z2 : (0 : Int) ≤ (r : Int) := by omega
          have z3 : (r : Int) < (C : Int) := by omega
          go_wp2_with (at_builtin; refine wpList_append_own _ rfl _ _ 27 rfl w.heap.size 38 i0 (.agg #[.int .i64 0, .int .i64 0]) 2 16 Tryz.underlying27 HI.out.1 HI.out.2.1 HI.out.2.2.1 HI.out.2.2.2 rfl (by decide) _ _ _ rfl (World.ownsRow.alloc ho.out _) ⟨w3.heap.size, 0, none⟩ 1 1 [.int .i64 y, .int .i64 (r : Int)] rfl rfl (cell_two_new _ _ _ _) (two_i64 _ _) (by unfold maxLen; omega) (by omega) (le_alloc hb.out (Nat.le_refl _) _) ?_; intro v3 w4 hown3 hgrow3 _)
          have ho3 := Lib.hid (OwnD.snoc hown3)
          have hb3 := Lib.hid ((hb.out.alloc hb.out.size (.cells #[.int .i64 y, .int .i64 (r : Int)] 38)).grown hgrow3 (by simp; have := hb.out.size; omega) (fun k hk => (ho.out.lt k hk).1))
          have hi2 := hio.out.kept ((Below.refl w3.heap.size w3).alloc (Nat.le_refl _) (.cells #[.int .i64 y, .int .i64 (r : Int)] 38)) (fun k hk => (hio.out.lt k hk).2)
          have hi3 := Lib.hid (hi2.keptBy hgrow3 (fun g hg => dep_apart (World.ownsRow.alloc ho.out _) hi2 g hg))
          clear hown3 hgrow3 hi2
          go_wp2_with fail
          go_roundw
          case rel => exact ⟨r + 1, _, by omega, by go_num, Lib.hid HS.out.symm, ho3, hi3, hb3⟩
          case measure => simp [intOf]; omega
        · obtain rfl : r = C := by omega
          go_wp2_with fail
          go_roundw
          case rel => exact ⟨j + 1, q2, by omega, by go_num, Lib.hid (by rw [hq2.out, Nat.mul_succ]), ho, hio, hb⟩
          case measure => simp [intOf]; omega
    · obtain rfl : j = ps.length := by omega
      go_wp2_with fail
      go_ret
      exact ⟨_, rfl, by rw [← HPC.out, ← hq.out]; exact ho.out, hb.out⟩
end
end Go.Proofs.YtjfllfancgmalaaGreat
namespace Go.Proofs.YtjfllfancgmalaaGreat
open Go.RowKit

end Go.Proofs.YtjfllfancgmalaaGreat
