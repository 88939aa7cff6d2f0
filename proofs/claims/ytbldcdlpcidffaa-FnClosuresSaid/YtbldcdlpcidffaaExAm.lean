/- The model's chapter 12: ArmstrongTable, by contract. Conditions: as stated. -/
import Derived.Test.YtbldcdlpcidffaaXc31
import Derived.Test.YtbldcdlpcidffaaXc32
import Derived.Test.YtbldcdlpcidffaaXc19
import Derived.Test.YtbldcdlpcidffaaXc15
import Derived.Deep.RegionLaw
import Derived.Deep.CutBlock
import Derived.Deep.DeepCutAuto
namespace Go.Proofs.Ytbldcdlpcidffaa
open Go.RowKit

def armC (n : Int) (l : List (Int × Int)) : Int := if arD n l = true then n else 0
theorem row_form12 {w : World} {B : Nat} {E : TypeId} {v : Value} {n : Nat} {xs : List Value} (h : w.ownsRow B E 1 v n xs) : ∃ a c, v = .slice a n c := by
  rcases h.2 with ⟨rfl, h0⟩ | ⟨g, cap, cur, rfl, -⟩
  · exact ⟨_, _, by rw [h0]⟩
  · exact ⟨_, _, rfl⟩
/-- What ArmstrongTable's loop over the closed sets holds. -/
structure AmS (w x : World) (T : Nat) (n : Int) (u : Value) (ll : List (List Int)) (vc : Value) (cs : List Int) : Prop where
  z : BxT x w.heap.size 0 (.slice none 0 0)
  t : BxT x T n u
  o : OwnSS x (T + 1) x.heap.size u ll
  c : OwnI x (T + 1) vc cs
  b : Below w.heap.size w x
  ht : w.heap.size < T
theorem AmS.keep {w x y : World} {T : Nat} {n : Int} {u vc : Value} {ll : List (List Int)} {cs : List Int} (h : AmS w x T n u ll vc cs) (hb : Below x.heap.size x y) : AmS w y T n u ll vc cs :=
  ⟨h.z.keep hb, h.t.keep hb, (h.o.same (Below.keeps hb (Nat.le_refl _))).base (Nat.le_refl _) hb.size, h.c.kept hb (fun k hk => (h.c.lt k hk).2), h.b.trans (hb.mono h.b.size), h.ht⟩
/-- The same, and the row that is being made. -/
structure AmR (w x : World) (T K : Nat) (n : Int) (u : Value) (ll : List (List Int)) (vc : Value) (cs : List Int) (rv : Value) (q : List Int) : Prop where
  z : BxT x w.heap.size 0 (.slice none 0 0)
  t : BxT x T n u
  o : OwnSS x (T + 1) K u ll
  c : OwnI x (T + 1) vc cs
  ck : ∀ g, vc.ownBlock = some g → g < K
  r : OwnI x K rv q
  b : Below w.heap.size w x
  ht : w.heap.size < T
  hk : K ≤ x.heap.size
  tk : T < K
theorem AmS.open_ {w x : World} {T : Nat} {n : Int} {u vc : Value} {ll : List (List Int)} {cs : List Int} (h : AmS w x T n u ll vc cs) : AmR w (x.alloc (.cells #[] 3)) T x.heap.size n u ll vc cs (.slice (some ⟨x.heap.size, 0, none⟩) 0 0) [] := by
  have al := (Below.refl x.heap.size x).alloc (Nat.le_refl _) (.cells #[] 3)
  exact ⟨h.z.keep al, h.t.keep al, h.o.same (Below.keeps al (Nat.le_refl _)), h.c.kept al (fun k hk => (h.c.lt k hk).2), fun g hg => (h.c.lt g hg).2, OwnI.made (World.ownsRow_made x #[] 0 (Nat.le_refl _) (by unfold maxLen; omega) rfl), h.b.trans (al.mono h.b.size), h.ht, by simp, h.t.lt⟩
theorem AmR.grow {w x y : World} {T K : Nat} {n e : Int} {u vc rv v' : Value} {ll : List (List Int)} {cs q : List Int} (h : AmR w x T K n u ll vc cs rv q)
    (hg : (x.alloc (.cells #[.int .i64 e] 3)).grownBy y rv.ownBlock) (ho : y.ownsRow K 3 1 v' (q.length + 1) (intsV q ++ [.int .i64 e])) : AmR w y T K n u ll vc cs v' (q ++ [e]) := by
  have al := (Below.refl x.heap.size x).alloc (Nat.le_refl _) (.cells #[.int .i64 e] 3)
  have hne : ∀ k, k < K → rv.ownBlock ≠ some k := fun k hk e => by have := (h.r.lt k e).1; omega
  have hsame : ∀ k, k < K → y.heap[k]? = x.heap[k]? := fun k hk => (hg.block k (by have := h.hk; rw [World.size_alloc]; omega) (fun e => hne k hk e.symm)).trans (al.block k (by have := h.hk; omega))
  have hTK := h.tk
  have hht := h.ht
  exact ⟨(h.z.keep al).grown hg (hne _ (by omega)), (h.t.keep al).grown hg (hne _ hTK), h.o.same (fun k _ hk => hsame k hk), h.c.same (fun g hg' => hsame g (h.ck g hg')), h.ck, OwnI.snoc ho,
    (h.b.trans (al.mono h.b.size)).grown hg (by have := h.b.size; rw [World.size_alloc]; omega) (fun k hk => by have := (h.r.lt k hk).1; omega), hht, by have h1 := hg.size; have h2 := h.hk; rw [World.size_alloc] at h1; omega, hTK⟩
theorem AmR.close {w x y : World} {T K : Nat} {n : Int} {u vc rv v' : Value} {ll : List (List Int)} {cs q : List Int} {V : Nat → Value} (h : AmR w x T K n u ll vc cs rv q)
    (o1 : (x.alloc (.cells #[rv] 43)).ownsRow (T + 1) 43 1 u ll.length ((List.range ll.length).map V)) (o2 : ∀ g, u.ownBlock = some g → g < K)
    (o3 : ∀ i, i < ll.length → OwnI (x.alloc (.cells #[rv] 43)) (T + 1) (V i) (ll.getD i []) ∧ ∀ g, (V i).ownBlock = some g → g < K) (o4 : ∀ i j, i < j → j < ll.length → ∀ g, (V i).ownBlock = some g → (V j).ownBlock ≠ some g)
    (hg : (x.alloc (.cells #[rv] 43)).grownBy y u.ownBlock) (ho : y.ownsRow (T + 1) 43 1 v' (ll.length + 1) ((List.range ll.length).map V ++ [rv])) :
    AmS w (y.setCell ⟨T, 1, none⟩ v') T n v' (ll ++ [q]) vc cs ∧ BxT y T n u := by
  have al := (Below.refl x.heap.size x).alloc (Nat.le_refl _) (.cells #[rv] 43)
  have hTK := h.tk
  have hht := h.ht
  have hkx := h.hk
  have hs := hg.size
  rw [World.size_alloc] at hs
  have hne : ∀ k, k ≤ T → u.ownBlock ≠ some k := fun k hk e => by have := (World.ownsRow.lt o1 k e).1; omega
  have hr : OwnI (x.alloc (.cells #[rv] 43)) (T + 1) rv q := OwnI.base (World.ownsRow.alloc h.r _) (by omega)
  have hc : OwnI (x.alloc (.cells #[rv] 43)) (T + 1) vc cs := World.ownsRow.alloc h.c _
  have hz := (h.z.keep al).grown hg (hne _ (by omega))
  have ht := (h.t.keep al).grown hg (hne _ (Nat.le_refl _))
  have hss : OwnSS y (T + 1) y.heap.size v' (ll ++ [q]) := OwnSS.snocV o1 o2 o3 o4 hr (fun g hgr => ⟨(h.r.lt g hgr).1, by have := (h.r.lt g hgr).2; omega⟩) ho hg (by omega) (fun g hgv => (World.ownsRow.lt ho g hgv).2)
  have hb := (h.b.trans (al.mono h.b.size)).grown hg (by have := h.b.size; rw [World.size_alloc]; omega) (fun k hk => by have := (World.ownsRow.lt o1 k hk).1; omega)
  refine ⟨⟨hz.far (by omega), ht.set1, ?_, ?_, hb.setCell (p := ⟨T, 1, none⟩) (by show w.heap.size ≤ T; omega) v', hht⟩, ht⟩
  · exact (hss.same ((Same.refl (T + 1) y.heap.size y).setCell (p := ⟨T, 1, none⟩) (.inl (by show T < T + 1; omega)) v')).base (Nat.le_refl _) (by simp)
  · exact (hc.keptBy hg (fun g hgu => row_apart o1 hc g hgu)).same (fun g hgv => Below.heap_setCell _ _ _ _ (by
      have := ((hc.keptBy hg (fun g hgu => row_apart o1 hc g hgu)).lt g hgv).1
      show g ≠ T
      omega))
theorem rowsA_snoc (C : Nat) (ps : List (Nat × Int)) (p : Nat × Int) : rowsA C (ps ++ [p]) = rowsA C ps ++ [rowA p.1 p.2 C] := by unfold rowsA; rw [List.map_append]; rfl
theorem rowsA_len (C : Nat) (ps : List (Nat × Int)) : (rowsA C ps).length = ps.length := by unfold rowsA; rw [List.length_map]
theorem arm_end {w x : World} {T : Nat} {n : Int} {u vc : Value} {ll : List (List Int)} {cs : List Int} (h : AmS w x T n u ll vc cs) :
    OwnSS ((x.setCell ⟨w.heap.size, 0, none⟩ (.int .i64 n)).setCell ⟨w.heap.size, 1, none⟩ u) w.heap.size ((x.setCell ⟨w.heap.size, 0, none⟩ (.int .i64 n)).setCell ⟨w.heap.size, 1, none⟩ u).heap.size u ll ∧ Below w.heap.size w ((x.setCell ⟨w.heap.size, 0, none⟩ (.int .i64 n)).setCell ⟨w.heap.size, 1, none⟩ u) := by
  have hT := h.ht
  have h3 := h.o.same ((Same.refl (T + 1) x.heap.size x).setCell (p := ⟨w.heap.size, 0, none⟩) (.inl (by show w.heap.size < _; omega)) (.int .i64 n))
  have h4 := h3.same ((Same.refl (T + 1) x.heap.size _).setCell (p := ⟨w.heap.size, 1, none⟩) (.inl (by show w.heap.size < _; omega)) u)
  exact ⟨h4.base (by omega) (by simp), (h.b.setCell (p := ⟨w.heap.size, 0, none⟩) (Nat.le_refl _) (.int .i64 n)).setCell (p := ⟨w.heap.size, 1, none⟩) (Nat.le_refl _) u⟩
theorem AmR.drew {w x : World} {T K : Nat} {n : Int} {u vc rv : Value} {ll : List (List Int)} {cs q : List Int} (h : AmR w x T K n u ll vc cs rv q) : AmR w x.drew T K n u ll vc cs rv q := by
  have hb := (Below.refl x.heap.size x).drew
  exact ⟨h.z.keep hb, h.t.keep hb, h.o.same (Below.keeps hb h.hk), h.c.kept hb (fun k hk => (h.c.lt k hk).2), h.ck, h.r.kept hb (fun k hk => (h.r.lt k hk).2), h.b.trans (hb.mono h.b.size), h.ht, h.hk, h.tk⟩
theorem armP_skip {C : Nat} {c : List Int} {i : Nat} (h : c.getD i 0 = (2 : Int) ^ C - 1) : armP C c (i + 1) = armP C c i := by
  show (if c.getD i 0 = (2 : Int) ^ C - 1 then armP C c i else armP C c i ++ [((c.getD i 0).toNat, (i : Int) + 1)]) = _
  exact if_pos h
theorem armP_take {C : Nat} {c : List Int} {i : Nat} (h : c.getD i 0 ≠ (2 : Int) ^ C - 1) : armP C c (i + 1) = armP C c i ++ [((c.getD i 0).toNat, (i : Int) + 1)] := by
  show (if c.getD i 0 = (2 : Int) ^ C - 1 then armP C c i else armP C c i ++ [((c.getD i 0).toNat, (i : Int) + 1)]) = _
  exact if_neg h
theorem ams_start {w w5 w6 : World} {T C : Nat} {u vc : Value} {ll : List (List Int)} {cs : List Int} (hT : w.heap.size < T) (hz : BxT w5 w.heap.size 0 (.slice none 0 0)) (ht : BxT w5 T (C : Int) u) (ho : OwnSS w5 (T + 1) w5.heap.size u ll) (hb : Below w.heap.size w w5)
    (oc : OwnI w6 w5.heap.size vc cs) (b6 : Below w5.heap.size w5 w6) : AmS w w6 T (C : Int) u ll vc cs :=
  ⟨hz.keep b6, ht.keep b6, (ho.same (Below.keeps b6 (Nat.le_refl _))).base (Nat.le_refl _) b6.size, oc.base ht.lt, hb.trans (b6.mono hb.size), hT⟩
theorem arm_first {w w5 : World} {T C : Nat} {v u : Value} {ll : List (List Int)} (hT : w.heap.size < T) (ht : BxT w5 T (C : Int) u) (hz : BxT w5 w.heap.size 0 (.slice none 0 0)) (hs : OwnSS w5 (T + 1) w5.heap.size v ll) (hb : Below w.heap.size w w5) :
    ∃ u, Hid (BxT (w5.setCell ⟨T, 1, none⟩ v) w.heap.size 0 (.slice none 0 0)) ∧ Hid (BxT (w5.setCell ⟨T, 1, none⟩ v) T (C : Int) u) ∧ Hid (OwnSS (w5.setCell ⟨T, 1, none⟩ v) (T + 1) (w5.setCell ⟨T, 1, none⟩ v).heap.size u ll) ∧ Hid (Below w.heap.size w (w5.setCell ⟨T, 1, none⟩ v)) :=
  ⟨v, Lib.hid (hz.far (by omega)), Lib.hid ht.set1, Lib.hid ((hs.same ((Same.refl (T + 1) w5.heap.size w5).setCell (p := ⟨T, 1, none⟩) (.inl (by show T < T + 1; omega)) v)).base (Nat.le_refl _) (by simp)), Lib.hid (hb.setCell (p := ⟨T, 1, none⟩) (by show w.heap.size ≤ T; omega) v)⟩
theorem arm_pre {w : World} (w4 : World) (T B C : Nat) (hC : C ≤ 1000) (hT : T < w4.heap.size) (ht : BxT w4 T (C : Int) (.slice none 0 0)) (hz : BxT w4 B 0 (.slice none 0 0)) (hb : Below B w w4) :
    BxT ((w4.alloc (.cells (madeCells #[Value.int .i64 0] C) 3)).alloc (.cells #[(.slice (some ⟨w4.heap.size, 0, none⟩) C C)] 43)).drew T (C : Int) (.slice none 0 0) ∧ BxT ((w4.alloc (.cells (madeCells #[Value.int .i64 0] C) 3)).alloc (.cells #[(.slice (some ⟨w4.heap.size, 0, none⟩) C C)] 43)).drew B 0 (.slice none 0 0) ∧ Below B w ((w4.alloc (.cells (madeCells #[Value.int .i64 0] C) 3)).alloc (.cells #[(.slice (some ⟨w4.heap.size, 0, none⟩) C C)] 43)).drew ∧ OwnI ((w4.alloc (.cells (madeCells #[Value.int .i64 0] C) 3)).alloc (.cells #[(.slice (some ⟨w4.heap.size, 0, none⟩) C C)] 43)).drew (T + 1) (.slice (some ⟨w4.heap.size, 0, none⟩) C C) (List.replicate C 0) ∧ ((w4.alloc (.cells (madeCells #[Value.int .i64 0] C) 3)).alloc (.cells #[(.slice (some ⟨w4.heap.size, 0, none⟩) C C)] 43)).drew.heap.size = w4.heap.size + 2 ∧
    (∀ (j : Nat) (u : Value), ([(.slice (some ⟨w4.heap.size, 0, none⟩) C C)] : List Value)[j]? = some u → ∃ x, (some ⟨w4.heap.size + 1, 0, none⟩ : Option Addr) = some x ∧ ((w4.alloc (.cells (madeCells #[Value.int .i64 0] C) 3)).alloc (.cells #[(.slice (some ⟨w4.heap.size, 0, none⟩) C C)] 43)).drew.cell? (x.add j) = some u) := by
  have e1 : C * 1 = C := Nat.mul_one C
  have alA := (Below.refl w4.heap.size w4).alloc (Nat.le_refl _) (.cells (madeCells #[Value.int .i64 0] C) 3)
  have hzo := own_zeros w4 (T + 1) C (Nat.succ_le_of_lt hT) hC
  rw [e1] at hzo
  have alB := ((Below.refl (w4.alloc (.cells (madeCells #[Value.int .i64 0] C) 3)).heap.size (w4.alloc (.cells (madeCells #[Value.int .i64 0] C) 3))).alloc (Nat.le_refl _) (.cells #[(.slice (some ⟨w4.heap.size, 0, none⟩) C C)] 43)).drew
  have e : (w4.alloc (.cells (madeCells #[Value.int .i64 0] C) 3)).heap.size = w4.heap.size + 1 := by rw [World.size_alloc]
  refine ⟨(ht.keep alA).keep alB, (hz.keep alA).keep alB, (hb.trans (alA.mono (Nat.le_of_lt hz.lt))).trans (alB.mono (Nat.le_trans (Nat.le_of_lt hz.lt) alA.size)), ?_, ?_, fun j u hj => ?_⟩
  · exact World.ownsRow.alloc (show OwnI (w4.alloc (.cells (madeCells #[Value.int .i64 0] C) 3)) (T + 1) _ _ from hzo) _
  · show ((w4.alloc (.cells (madeCells #[Value.int .i64 0] C) 3)).alloc (.cells #[(.slice (some ⟨w4.heap.size, 0, none⟩) C C)] 43)).heap.size = _
    rw [World.size_alloc, e]
  · have h := cell_one_new (w4.alloc (.cells (madeCells #[Value.int .i64 0] C) 3)) (.slice (some ⟨w4.heap.size, 0, none⟩) C C) 43 j u hj
    rw [e] at h
    exact ⟨_, rfl, h⟩
section
set_option maxRecDepth 20000
set_option maxHeartbeats 3200000
end
end Go.Proofs.Ytbldcdlpcidffaa
