/- The model's chapter 12: ArmstrongTable, by contract. Conditions: as stated. -/
import Derived.Test.YtnbjcelfdppkcadGreatXz29
import Derived.Test.YtnbjcelfdppkcadGreatXz31
import Derived.Test.YtnbjcelfdppkcadGreatXz18
import Derived.Test.YtnbjcelfdppkcadGreatXz15
import Derived.Deep.RegionLaw
import Derived.Deep.CutBlock
import Derived.Deep.DeepCutAuto
namespace Go.Proofs.YtnbjcelfdppkcadGreat
open Go.RowKit

def armC (n : Int) (l : List (Int × Int)) : Int := if arD n l = true then n else 0
theorem row_form12 {w : World} {B : Nat} {E : TypeId} {v : Value} {n : Nat} {xs : List Value} (h : w.ownsRow B E 1 v n xs) : ∃ a c, v = .slice a n c := by
  rcases h.2 with ⟨rfl, h0⟩ | ⟨g, cap, cur, rfl, -⟩
  · exact ⟨_, _, by rw [h0]⟩
  · exact ⟨_, _, rfl⟩
/-- What ArmstrongTable's loop over the closed sets holds. -/
structure AmS (w x : World) (T : Nat) (n : Int) (u : Value) (ll : List (List Int)) (vc : Value) (cs : List Int) : Prop where
  z : BxT x w.heap.size 0 (.slice none 0 0)
  t : BxT x T n u
  o : OwnSS x (T + 1) x.heap.size u ll
  c : OwnI x (T + 1) vc cs
  b : Below w.heap.size w x
  ht : w.heap.size < T
theorem AmS.keep {w x y : World} {T : Nat} {n : Int} {u vc : Value} {ll : List (List Int)} {cs : List Int} (h : AmS w x T n u ll vc cs) (hb : Below x.heap.size x y) : AmS w y T n u ll vc cs :=
  ⟨h.z.keep hb, h.t.keep hb, (h.o.same (Below.keeps hb (Nat.le_refl _))).base (Nat.le_refl _) hb.size, h.c.kept hb (fun k hk => (h.c.lt k hk).2), h.b.trans (hb.mono h.b.size), h.ht⟩
/-- The same, and the row that is being made. -/
structure AmR (w x : World) (T K : Nat) (n : Int) (u : Value) (ll : List (List Int)) (vc : Value) (cs : List Int) (rv : Value) (q : List Int) : Prop where
  z : BxT x w.heap.size 0 (.slice none 0 0)
  t : BxT x T n u
  o : OwnSS x (T + 1) K u ll
  c : OwnI x (T + 1) vc cs
  ck : ∀ g, vc.ownBlock = some g → g < K
  r : OwnI x K rv q
  b : Below w.heap.size w x
  ht : w.heap.size < T
  hk : K ≤ x.heap.size
  tk : T < K
theorem AmS.open_ {w x : World} {T : Nat} {n : Int} {u vc : Value} {ll : List (List Int)} {cs : List Int} (h : AmS w x T n u ll vc cs) : AmR w (x.alloc (.cells #[] 3)) T x.heap.size n u ll vc cs (.slice (some ⟨x.heap.size, 0, none⟩) 0 0) [] := by
  have al := (Below.refl x.heap.size x).alloc (Nat.le_refl _) (.cells #[] 3)
  exact ⟨h.z.keep al, h.t.keep al, h.o.same (Below.keeps al (Nat.le_refl _)), h.c.kept al (fun k hk => (h.c.lt k hk).2), fun g hg => (h.c.lt g hg).2, OwnI.made (World.ownsRow_made x #[] 0 (Nat.le_refl _) (by unfold maxLen; omega) rfl), h.b.trans (al.mono h.b.size), h.ht, by simp, h.t.lt⟩
theorem AmR.grow {w x y : World} {T K : Nat} {n e : Int} {u vc rv v' : Value} {ll : List (List Int)} {cs q : List Int} (h : AmR w x T K n u ll vc cs rv q)
    (hg : (x.alloc (.cells #[.int .i64 e] 3)).grownBy y rv.ownBlock) (ho : y.ownsRow K 3 1 v' (q.length + 1) (intsV q ++ [.int .i64 e])) : AmR w y T K n u ll vc cs v' (q ++ [e]) := by
  have al := (Below.refl x.heap.size x).alloc (Nat.le_refl _) (.cells #[.int .i64 e] 3)
  have hne : ∀ k, k < K → rv.ownBlock ≠ some k := fun k hk e => by have := (h.r.lt k e).1; omega
  have hsame : ∀ k, k < K → y.heap[k]? = x.heap[k]? := fun k hk => (hg.block k (by have := h.hk; rw [World.size_alloc]; omega) (fun e => hne k hk e.symm)).trans (al.block k (by have := h.hk; omega))
  have hTK := h.tk
  have hht := h.ht
  exact ⟨(h.z.keep al).grown hg (hne _ (by omega)), (h.t.keep al).grown hg (hne _ hTK), h.o.same (fun k _ hk => hsame k hk), h.c.same (fun g hg' => hsame g (h.ck g hg')), h.ck, OwnI.snoc ho,
    (h.b.trans (al.mono h.b.size)).grown hg (by have := h.b.size; rw [World.size_alloc]; omega) (fun k hk => by have := (h.r.lt k hk).1; omega), hht, by have h1 := hg.size; have h2 := h.hk; rw [World.size_alloc] at h1; omega, hTK⟩
theorem AmR.close {w x y : World} {T K : Nat} {n : Int} {u vc rv v' : Value} {ll : List (List Int)} {cs q : List Int} {V : Nat → Value} (h : AmR w x T K n u ll vc cs rv q)
    (o1 : (x.alloc (.cells #[rv] 40)).ownsRow (T + 1) 40 1 u ll.length ((List.range ll.length).map V)) (o2 : ∀ g, u.ownBlock = some g → g < K)
    (o3 : ∀ i, i < ll.length → OwnI (x.alloc (.cells #[rv] 40)) (T + 1) (V i) (ll.getD i []) ∧ ∀ g, (V i).ownBlock = some g → g < K) (o4 : ∀ i j, i < j → j < ll.length → ∀ g, (V i).ownBlock = some g → (V j).ownBlock ≠ some g)
    (hg : (x.alloc (.cells #[rv] 40)).grownBy y u.ownBlock) (ho : y.ownsRow (T + 1) 40 1 v' (ll.length + 1) ((List.range ll.length).map V ++ [rv])) :
    AmS w (y.setCell ⟨T, 1, none⟩ v') T n v' (ll ++ [q]) vc cs ∧ BxT y T n u := by
  have al := (Below.refl x.heap.size x).alloc (Nat.le_refl _) (.cells #[rv] 40)
  have hTK := h.tk
  have hht := h.ht
  have hkx := h.hk
  have hs := hg.size
  rw [World.size_alloc] at hs
  have hne : ∀ k, k ≤ T → u.ownBlock ≠ some k := fun k hk e => by have := (World.ownsRow.lt o1 k e).1; omega
  have hr : OwnI (x.alloc (.cells #[rv] 40)) (T + 1) rv q := OwnI.base (World.ownsRow.alloc h.r _) (by omega)
  have hc : OwnI (x.alloc (.cells #[rv] 40)) (T + 1) vc cs := World.ownsRow.alloc h.c _
  have hz := (h.z.keep al).grown hg (hne _ (by omega))
  have ht := (h.t.keep al).grown hg (hne _ (Nat.le_refl _))
  have hss : OwnSS y (T + 1) y.heap.size v' (ll ++ [q]) := OwnSS.snocV o1 o2 o3 o4 hr (fun g hgr => ⟨(h.r.lt g hgr).1, by have := (h.r.lt g hgr).2; omega⟩) ho hg (by omega) (fun g hgv => (World.ownsRow.lt ho g hgv).2)
  have hb := (h.b.trans (al.mono h.b.size)).grown hg (by have := h.b.size; rw [World.size_alloc]; omega) (fun k hk => by have := (World.ownsRow.lt o1 k hk).1; omega)
  refine ⟨⟨hz.far (by omega), ht.set1, ?_, ?_, hb.setCell (p := ⟨T, 1, none⟩) (by show w.heap.size ≤ T; omega) v', hht⟩, ht⟩
  · exact (hss.same ((Same.refl (T + 1) y.heap.size y).setCell (p := ⟨T, 1, none⟩) (.inl (by show T < T + 1; omega)) v')).base (Nat.le_refl _) (by simp)
  · exact (hc.keptBy hg (fun g hgu => row_apart o1 hc g hgu)).same (fun g hgv => Below.heap_setCell _ _ _ _ (by
      have := ((hc.keptBy hg (fun g hgu => row_apart o1 hc g hgu)).lt g hgv).1
      show g ≠ T
      omega))
theorem rowsA_snoc (C : Nat) (ps : List (Nat × Int)) (p : Nat × Int) : rowsA C (ps ++ [p]) = rowsA C ps ++ [rowA p.1 p.2 C] := by unfold rowsA; rw [List.map_append]; rfl
theorem rowsA_len (C : Nat) (ps : List (Nat × Int)) : (rowsA C ps).length = ps.length := by unfold rowsA; rw [List.length_map]
theorem arm_end {w x : World} {T : Nat} {n : Int} {u vc : Value} {ll : List (List Int)} {cs : List Int} (h : AmS w x T n u ll vc cs) :
    OwnSS ((x.setCell ⟨w.heap.size, 0, none⟩ (.int .i64 n)).setCell ⟨w.heap.size, 1, none⟩ u) w.heap.size ((x.setCell ⟨w.heap.size, 0, none⟩ (.int .i64 n)).setCell ⟨w.heap.size, 1, none⟩ u).heap.size u ll ∧ Below w.heap.size w ((x.setCell ⟨w.heap.size, 0, none⟩ (.int .i64 n)).setCell ⟨w.heap.size, 1, none⟩ u) := by
  have hT := h.ht
  have h3 := h.o.same ((Same.refl (T + 1) x.heap.size x).setCell (p := ⟨w.heap.size, 0, none⟩) (.inl (by show w.heap.size < _; omega)) (.int .i64 n))
  have h4 := h3.same ((Same.refl (T + 1) x.heap.size _).setCell (p := ⟨w.heap.size, 1, none⟩) (.inl (by show w.heap.size < _; omega)) u)
  exact ⟨h4.base (by omega) (by simp), (h.b.setCell (p := ⟨w.heap.size, 0, none⟩) (Nat.le_refl _) (.int .i64 n)).setCell (p := ⟨w.heap.size, 1, none⟩) (Nat.le_refl _) u⟩
theorem AmR.drew {w x : World} {T K : Nat} {n : Int} {u vc rv : Value} {ll : List (List Int)} {cs q : List Int} (h : AmR w x T K n u ll vc cs rv q) : AmR w x.drew T K n u ll vc cs rv q := by
  have hb := (Below.refl x.heap.size x).drew
  exact ⟨h.z.keep hb, h.t.keep hb, h.o.same (Below.keeps hb h.hk), h.c.kept hb (fun k hk => (h.c.lt k hk).2), h.ck, h.r.kept hb (fun k hk => (h.r.lt k hk).2), h.b.trans (hb.mono h.b.size), h.ht, h.hk, h.tk⟩
theorem armP_skip {C : Nat} {c : List Int} {i : Nat} (h : c.getD i 0 = (2 : Int) ^ C - 1) : armP C c (i + 1) = armP C c i := by
  show (if c.getD i 0 = (2 : Int) ^ C - 1 then armP C c i else armP C c i ++ [((c.getD i 0).toNat, (i : Int) + 1)]) = _
  exact if_pos h
theorem armP_take {C : Nat} {c : List Int} {i : Nat} (h : c.getD i 0 ≠ (2 : Int) ^ C - 1) : armP C c (i + 1) = armP C c i ++ [((c.getD i 0).toNat, (i : Int) + 1)] := by
  show (if c.getD i 0 = (2 : Int) ^ C - 1 then armP C c i else armP C c i ++ [((c.getD i 0).toNat, (i : Int) + 1)]) = _
  exact if_neg h
theorem ams_start {w w5 w6 : World} {T C : Nat} {u vc : Value} {ll : List (List Int)} {cs : List Int} (hT : w.heap.size < T) (hz : BxT w5 w.heap.size 0 (.slice none 0 0)) (ht : BxT w5 T (C : Int) u) (ho : OwnSS w5 (T + 1) w5.heap.size u ll) (hb : Below w.heap.size w w5)
    (oc : OwnI w6 w5.heap.size vc cs) (b6 : Below w5.heap.size w5 w6) : AmS w w6 T (C : Int) u ll vc cs :=
  ⟨hz.keep b6, ht.keep b6, (ho.same (Below.keeps b6 (Nat.le_refl _))).base (Nat.le_refl _) b6.size, oc.base ht.lt, hb.trans (b6.mono hb.size), hT⟩
theorem arm_first {w w5 : World} {T C : Nat} {v u : Value} {ll : List (List Int)} (hT : w.heap.size < T) (ht : BxT w5 T (C : Int) u) (hz : BxT w5 w.heap.size 0 (.slice none 0 0)) (hs : OwnSS w5 (T + 1) w5.heap.size v ll) (hb : Below w.heap.size w w5) :
    ∃ u, Hid (BxT (w5.setCell ⟨T, 1, none⟩ v) w.heap.size 0 (.slice none 0 0)) ∧ Hid (BxT (w5.setCell ⟨T, 1, none⟩ v) T (C : Int) u) ∧ Hid (OwnSS (w5.setCell ⟨T, 1, none⟩ v) (T + 1) (w5.setCell ⟨T, 1, none⟩ v).heap.size u ll) ∧ Hid (Below w.heap.size w (w5.setCell ⟨T, 1, none⟩ v)) :=
  ⟨v, Lib.hid (hz.far (by omega)), Lib.hid ht.set1, Lib.hid ((hs.same ((Same.refl (T + 1) w5.heap.size w5).setCell (p := ⟨T, 1, none⟩) (.inl (by show T < T + 1; omega)) v)).base (Nat.le_refl _) (by simp)), Lib.hid (hb.setCell (p := ⟨T, 1, none⟩) (by show w.heap.size ≤ T; omega) v)⟩
theorem arm_pre {w : World} (w4 : World) (T B C : Nat) (hC : C ≤ 1000) (hT : T < w4.heap.size) (ht : BxT w4 T (C : Int) (.slice none 0 0)) (hz : BxT w4 B 0 (.slice none 0 0)) (hb : Below B w w4) :
    BxT ((w4.alloc (.cells (madeCells #[Value.int .i64 0] C) 3)).alloc (.cells #[(.slice (some ⟨w4.heap.size, 0, none⟩) C C)] 40)).drew T (C : Int) (.slice none 0 0) ∧ BxT ((w4.alloc (.cells (madeCells #[Value.int .i64 0] C) 3)).alloc (.cells #[(.slice (some ⟨w4.heap.size, 0, none⟩) C C)] 40)).drew B 0 (.slice none 0 0) ∧ Below B w ((w4.alloc (.cells (madeCells #[Value.int .i64 0] C) 3)).alloc (.cells #[(.slice (some ⟨w4.heap.size, 0, none⟩) C C)] 40)).drew ∧ OwnI ((w4.alloc (.cells (madeCells #[Value.int .i64 0] C) 3)).alloc (.cells #[(.slice (some ⟨w4.heap.size, 0, none⟩) C C)] 40)).drew (T + 1) (.slice (some ⟨w4.heap.size, 0, none⟩) C C) (List.replicate C 0) ∧ ((w4.alloc (.cells (madeCells #[Value.int .i64 0] C) 3)).alloc (.cells #[(.slice (some ⟨w4.heap.size, 0, none⟩) C C)] 40)).drew.heap.size = w4.heap.size + 2 ∧
    (∀ (j : Nat) (u : Value), ([(.slice (some ⟨w4.heap.size, 0, none⟩) C C)] : List Value)[j]? = some u → ∃ x, (some ⟨w4.heap.size + 1, 0, none⟩ : Option Addr) = some x ∧ ((w4.alloc (.cells (madeCells #[Value.int .i64 0] C) 3)).alloc (.cells #[(.slice (some ⟨w4.heap.size, 0, none⟩) C C)] 40)).drew.cell? (x.add j) = some u) := by
  have e1 : C * 1 = C := Nat.mul_one C
  have alA := (Below.refl w4.heap.size w4).alloc (Nat.le_refl _) (.cells (madeCells #[Value.int .i64 0] C) 3)
  have hzo := own_zeros w4 (T + 1) C (Nat.succ_le_of_lt hT) hC
  rw [e1] at hzo
  have alB := ((Below.refl (w4.alloc (.cells (madeCells #[Value.int .i64 0] C) 3)).heap.size (w4.alloc (.cells (madeCells #[Value.int .i64 0] C) 3))).alloc (Nat.le_refl _) (.cells #[(.slice (some ⟨w4.heap.size, 0, none⟩) C C)] 40)).drew
  have e : (w4.alloc (.cells (madeCells #[Value.int .i64 0] C) 3)).heap.size = w4.heap.size + 1 := by rw [World.size_alloc]
  refine ⟨(ht.keep alA).keep alB, (hz.keep alA).keep alB, (hb.trans (alA.mono (Nat.le_of_lt hz.lt))).trans (alB.mono (Nat.le_trans (Nat.le_of_lt hz.lt) alA.size)), ?_, ?_, fun j u hj => ?_⟩
  · exact World.ownsRow.alloc (show OwnI (w4.alloc (.cells (madeCells #[Value.int .i64 0] C) 3)) (T + 1) _ _ from hzo) _
  · show ((w4.alloc (.cells (madeCells #[Value.int .i64 0] C) 3)).alloc (.cells #[(.slice (some ⟨w4.heap.size, 0, none⟩) C C)] 40)).heap.size = _
    rw [World.size_alloc, e]
  · have h := cell_one_new (w4.alloc (.cells (madeCells #[Value.int .i64 0] C) 3)) (.slice (some ⟨w4.heap.size, 0, none⟩) C C) 40 j u hj
    rw [e] at h
    exact ⟨_, rfl, h⟩
section
set_option maxRecDepth 20000
set_option maxHeartbeats 3200000
theorem armTable12_any (v : Value) (n : Int) (l : List (Int × Int)) (w : World) (hr : ReadD w v l) (hl : l.length ≤ 1048576) :
    Calls Tryz.prog 7 #[.int .i64 n, v] w (RetTB (armC n l) (armL n l) (arD n l) w) := by
  have hb1 := (Below.refl w.heap.size w).alloc (Nat.le_refl _) (.cells #[.int .i64 0, .slice none 0 0] 29)
  have HZ1 := Lib.hid (bxt_new w 0 (.slice none 0 0))
  have HB1 := Lib.hid hb1
  have HAD := Lib.hid (fun w' (hb : Below w.heap.size w w') => areDeps10_any v n l w' (hr.kept hb) hl)
  have HCS := Lib.hid (fun w' (hb : Below w.heap.size w w') => closedSets10_any v n l w' (hr.kept hb) hl)
  clear hb1
  cases ha : arD n l with
  | false =>
    rw [ha] at HAD
    have HE : Hid (armC n l = 0 ∧ armL n l = []) := Lib.hid ⟨by unfold armC; rw [ha]; rfl, by unfold armL; rw [ha]; rfl⟩
    obtain ⟨a, cap, rfl, -⟩ := hr
    clear ha HCS
    go_enter Tryz.func7, Tryz.ntmps7
    go_wp2_with fail
    refine (HAD.out _ HB1.out).mono ?_
    rintro e w3 ⟨rfl, b3⟩
    have HB3 := Lib.hid (HB1.out.trans (b3.mono HB1.out.size))
    have hz9 := HZ1.out.keep b3
    have d0 := hz9.c0
    have d1 := hz9.c1
    have e0 := hz9.f0
    have e1 := hz9.f1
    have hf := hz9.put (c' := 0) (v := .slice none 0 0)
    have HR := Lib.hid (And.intro hf.c0 hf.c1)
    have HBE := Lib.hid ((HB3.out.setCell (p := ⟨w.heap.size, 0, none⟩) (Nat.le_refl _) (.int .i64 0)).setCell (p := ⟨w.heap.size, 1, none⟩) (Nat.le_refl _) (.slice none 0 0))
    clear hz9 hf b3
    go_wp2_with fail
    exact bodyPost_ret (v := .tuple #[.agg #[.int .i64 0, .slice none 0 0], .bool false]) (by simp [results, Tryz.results7, go_sem, HR.out.1, HR.out.2]) rfl ⟨_, by rw [HE.out.1], by rw [HE.out.2]; exact OwnSS.nil _ _ _, HBE.out⟩
  | true =>
    rw [ha] at HAD
    obtain ⟨C, rfl, hC1, hC5, -, hdl⟩ := arD_n ha
    have HE : Hid (armC (C : Int) l = (C : Int) ∧ armL (C : Int) l = rowsA C (armP C (clsL (C : Int) l) (clsL (C : Int) l).length)) := Lib.hid ⟨by unfold armC; rw [ha]; rfl, by unfold armL; rw [ha]; rfl⟩
    have hcl := cls_len (C : Int) l
    have HMM := Lib.hid (fun y (hy : y ∈ clsL (C : Int) l) => show ∃ X : Nat, y = (X : Int) ∧ X < 32 from by
      obtain ⟨X, hX, -, rfl⟩ := (cls_mem ha y).1 hy
      exact ⟨X, rfl, by have := two5 hC5; omega⟩)
    obtain ⟨cs, hcs⟩ : ∃ cs, cs = clsL (C : Int) l := ⟨_, rfl⟩
    rw [← hcs] at HE HCS hcl HMM
    obtain ⟨i0, hi', hz0, hz1, hz2⟩ := info_parts info3i
    have HI : Hid (_ ∧ _ ∧ _ ∧ _) := Lib.hid ⟨hi', hz0, hz1, hz2⟩
    obtain ⟨j0, hj', hy0, hy1, hy2⟩ := info_parts infoSj
    have HJ : Hid (_ ∧ _ ∧ _ ∧ _) := Lib.hid ⟨hj', hy0, hy1, hy2⟩
    have hmk := make_zeros C (by omega)
    have hal0 := fun w' => all_any (C : Int) w' (by omega) (by omega)
    obtain ⟨F, hF⟩ : ∃ F : Int, F = 2 ^ (C : Int).toNat - 1 := ⟨_, rfl⟩
    rw [← hF] at hal0
    have HAL := Lib.hid hal0
    have HF : Hid (F = (2 : Int) ^ C - 1) := Lib.hid hF
    clear hF hal0
    obtain ⟨a, cap, rfl, -⟩ := hr
    clear ha hdl hcs hi' hz0 hz1 hz2 hj' hy0 hy1 hy2
    go_enter Tryz.func7, Tryz.ntmps7
    go_wp2_with fail
    refine (HAD.out _ HB1.out).mono ?_
    rintro e w3 ⟨rfl, b3⟩
    have HB3 := Lib.hid (HB1.out.trans (b3.mono HB1.out.size))
    have HZ3 := Lib.hid (HZ1.out.keep b3)
    clear b3 HB1 HZ1
    have hal := (Below.refl w3.heap.size w3).alloc (Nat.le_refl _) (.cells #[.int .i64 (C : Int), .slice none 0 0] 29)
    have HT4 := Lib.hid (bxt_new w3 (C : Int) (.slice none 0 0))
    have HZ4 := Lib.hid (HZ3.out.keep hal)
    have HB4 := Lib.hid (HB3.out.trans (hal.mono HB3.out.size))
    have HTW : Hid (w.heap.size < w3.heap.size) := Lib.hid HZ3.out.lt
    clear hal
    go_upto_region 4 with fail
    obtain ⟨w4, hw4⟩ : ∃ w4, w4 = w3.alloc (.cells #[.int .i64 (C : Int), .slice none 0 0] 29) := ⟨_, rfl⟩
    rw [← hw4] at HT4 HZ4 HB4 ⊢
    obtain ⟨T, hTT⟩ : ∃ T, T = w3.heap.size := ⟨_, rfl⟩
    rw [← hTT] at HT4 HTW ⊢
    clear hw4 hTT HB3 HZ3
    go_cut [] (fun wx => ∃ u, Hid (BxT wx w.heap.size 0 (.slice none 0 0)) ∧ Hid (BxT wx T (C : Int) u) ∧ Hid (OwnSS wx (T + 1) wx.heap.size u [List.replicate C 0]) ∧ Hid (Below w.heap.size w wx))
    case first =>
      have HT1 := Lib.hid HT4.out.c1
      have HTW4 : Hid (T < w4.heap.size) := Lib.hid HT4.out.lt
      have HP := arm_pre w4 T w.heap.size C (by omega) HTW4.out HT4.out HZ4.out (w := w) HB4.out
      have HTB := Lib.hid HP.1
      have HZB := Lib.hid HP.2.1
      have HBB := Lib.hid HP.2.2.1
      have HZO := Lib.hid HP.2.2.2.1
      have HSB := Lib.hid HP.2.2.2.2.1
      have HNW := Lib.hid HP.2.2.2.2.2
      clear HP
      have HLE : Hid (T + 1 ≤ ((w4.alloc (.cells (madeCells #[Value.int .i64 0] C) 3)).alloc (.cells #[(.slice (some ⟨w4.heap.size, 0, none⟩) C C)] 40)).drew.heap.size) := Lib.hid (by have := HSB.out; have := HTW4.out; omega)
      have k4 := (HT4.out.keep (Below.refl _ _).drew).c1
      have kA := ((HT4.out.keep ((Below.refl w4.heap.size w4).alloc (Nat.le_refl _) (.cells (madeCells #[Value.int .i64 0] C) 3)).drew)).c1
      have kB := HTB.out.c1
      refine wp_region_noPanic ?_
      refine wp_region_held_drew (S := (fun _ => True)) (by kernel_rfl) ?_ (fun hHeld => ?_)
      · ((try dsimp only); (try exact trivial))
      refine wpAnyH_take (i := 0) (v := ?_) rfl (by kernel_rfl) (by kernel_rfl) (by kernel_rfl) (fun _ _ _ h => h) (Or.inl ⟨by rfl, ?_⟩) (by assumption) ?_
      rotate_left
      · (intro w hSw; (try dsimp only at hSw); go_simp; (try with_reducible rfl))
      (try simp only [Act.put, List.getElem_toArray, List.getElem_cons_zero, List.setIfInBounds_toArray, List.set_cons_zero, List.set_cons_succ])
      refine wpAnyH_take (i := 2) (v := ?_) rfl (by kernel_rfl) (by kernel_rfl) (by kernel_rfl) (fun _ _ _ h => h) (Or.inl ⟨by rfl, ?_⟩) (by assumption) ?_
      rotate_left
      · (intro w hSw; (try dsimp only at hSw); go_simp; (try with_reducible rfl))
      (try simp only [Act.put, List.getElem_toArray, List.getElem_cons_succ, List.getElem_cons_zero, List.setIfInBounds_toArray, List.set_cons_zero, List.set_cons_succ])
      refine wpAnyH_ready (rs := [1, 3]) (by kernel_rfl) (by simp) (AllReadyH.cons rfl (fun K hK => ?_) (AllReadyH.cons rfl (fun K hK => ?_) AllReadyH.nil))
      · go_simp
        (try (go_wp2_with fail))
        refine hK.out _ _ trivial (fun hHeld => ?_)
        clear hK K hHeld
        (try simp only [Act.put, List.getElem_toArray, List.getElem_cons_succ, List.getElem_cons_zero, List.setIfInBounds_toArray, List.set_cons_zero, List.set_cons_succ])
        refine wpAnyH_ready (rs := [3]) (by kernel_rfl) (by simp) (AllReadyH.cons rfl (fun K hK => ?_) AllReadyH.nil)
        · go_simp
          (try (go_wp2_with fail))
          refine hK.out _ _ trivial (fun hHeld => ?_)
          clear hK K hHeld
          (try simp only [Act.put, List.getElem_toArray, List.getElem_cons_succ, List.getElem_cons_zero, List.setIfInBounds_toArray, List.set_cons_zero, List.set_cons_succ])
          refine wpAnyH_ready (rs := [4]) (by kernel_rfl) (by simp) (AllReadyH.cons rfl (fun K hK => ?_) AllReadyH.nil)
          · (first | (go_simp; done) | go_wp2_with fail)
            (try (go_wp2_with fail))
            refine hK.out _ _ trivial (fun hHeld => ?_)
            clear hK K hHeld
            (try simp only [Act.put, List.getElem_toArray, List.getElem_cons_succ, List.getElem_cons_zero, List.setIfInBounds_toArray, List.set_cons_zero, List.set_cons_succ])
            refine wpAnyH_ready (rs := [5]) (by kernel_rfl) (by simp) (AllReadyH.cons rfl (fun K hK => ?_) AllReadyH.nil)
            · (refine step_append_all (by rfl) _ _ _ (by rfl) (T + 1) 40 j0 (.slice none 0 0) 1 24 Tryz.underlying27 HJ.out.1 HJ.out.2.1 HJ.out.2.2.1 HJ.out.2.2.2 rfl (by decide) (.slice none 0 0) 0 [] rfl (World.ownsRow_nil _ _ _ _) (some ⟨w4.heap.size + 1, 0, none⟩) 1 1 [(.slice (some ⟨w4.heap.size, 0, none⟩) C C)] rfl rfl HNW.out (one_slice _ _ _) (by unfold maxLen; omega) (by omega) HLE.out ?_; intro v5 w5 hown5 hgrow5; have HT5 := Lib.hid (HTB.out.grown hgrow5 (by simp [Value.ownBlock])); have HZ5 := Lib.hid (HZB.out.grown hgrow5 (by simp [Value.ownBlock])); have HS5 := Lib.hid (OwnSS.snocV (C := w4.heap.size) (C' := w5.heap.size) (ll := []) (V := fun _ => .slice none 0 0) (World.ownsRow_nil _ _ _ _) (fun g h => by cases h) (fun i h => absurd h (Nat.not_lt_zero _)) (fun i j _ h => absurd h (Nat.not_lt_zero _)) HZO.out (fun g h => by simp [Value.ownBlock] at h; have h2 := hgrow5.size; have h3 := HSB.out; omega) hown5 hgrow5 (by have h2 := hgrow5.size; have h3 := HSB.out; omega) (fun g h => (World.ownsRow.lt hown5 g h).2)); obtain ⟨p5, k5, rfl⟩ := row_form12 hown5; have HB5 := Lib.hid (HBB.out.grown hgrow5 HBB.out.size (by simp [Value.ownBlock])); clear hown5 hgrow5)
              (try (go_wp2_with fail))
              refine hK.out _ _ trivial (fun hHeld => ?_)
              clear hK K hHeld
              (try simp only [Act.put, List.getElem_toArray, List.getElem_cons_succ, List.getElem_cons_zero, List.setIfInBounds_toArray, List.set_cons_zero, List.set_cons_succ])
              have d1 := HT5.out.c1
              have e1 := HT5.out.f1
              have hHeld : (fun _ : World => True) w5 := trivial
              refine wpAnyH_take (i := 6) (v := ?_) rfl (by kernel_rfl) (by kernel_rfl) (by kernel_rfl) (fun _ _ _ h => h) (Or.inl ⟨by rfl, ?_⟩) (by assumption) ?_
              rotate_left
              · (intro w hSw; (try dsimp only at hSw); go_simp; (try with_reducible rfl))
              (try simp only [Act.put, List.getElem_toArray, List.getElem_cons_succ, List.getElem_cons_zero, List.setIfInBounds_toArray, List.set_cons_zero, List.set_cons_succ])
              refine wpAnyH_ready (rs := [7]) (by kernel_rfl) (by simp) (AllReadyH.cons rfl (fun K hK => ?_) AllReadyH.nil)
              · go_simp
                (try (go_wp2_with fail))
                refine hK.out _ _ trivial (fun hHeld => ?_)
                clear hK K hHeld
                (try simp only [Act.put, List.getElem_toArray, List.getElem_cons_succ, List.getElem_cons_zero, List.setIfInBounds_toArray, List.set_cons_zero, List.set_cons_succ])
                refine wpAnyH_done (by kernel_rfl) ?_ _
                refine NoPanic.normal ?_
                clear HTB HZB HBB HZO HSB HNW HLE k4 kA kB HT1 HT4 HZ4 HB4 HAD HCS hHeld
                go_wp2_with fail
                go_meet
                exact arm_first HTW.out HT5.out HZ5.out HS5.out HB5.out
      · go_simp
        (try (go_wp2_with fail))
        refine hK.out _ _ trivial (fun hHeld => ?_)
        clear hK K hHeld
        (try simp only [Act.put, List.getElem_toArray, List.getElem_cons_succ, List.getElem_cons_zero, List.setIfInBounds_toArray, List.set_cons_zero, List.set_cons_succ])
        refine wpAnyH_ready (rs := [1, 4]) (by kernel_rfl) (by simp) (AllReadyH.cons rfl (fun K hK => ?_) (AllReadyH.cons rfl (fun K hK => ?_) AllReadyH.nil))
        · go_simp
          (try (go_wp2_with fail))
          refine hK.out _ _ trivial (fun hHeld => ?_)
          clear hK K hHeld
          (try simp only [Act.put, List.getElem_toArray, List.getElem_cons_succ, List.getElem_cons_zero, List.setIfInBounds_toArray, List.set_cons_zero, List.set_cons_succ])
          refine wpAnyH_ready (rs := [4]) (by kernel_rfl) (by simp) (AllReadyH.cons rfl (fun K hK => ?_) AllReadyH.nil)
          · (first | (go_simp; done) | go_wp2_with fail)
            (try (go_wp2_with fail))
            refine hK.out _ _ trivial (fun hHeld => ?_)
            clear hK K hHeld
            (try simp only [Act.put, List.getElem_toArray, List.getElem_cons_succ, List.getElem_cons_zero, List.setIfInBounds_toArray, List.set_cons_zero, List.set_cons_succ])
            refine wpAnyH_ready (rs := [5]) (by kernel_rfl) (by simp) (AllReadyH.cons rfl (fun K hK => ?_) AllReadyH.nil)
            · (refine step_append_all (by rfl) _ _ _ (by rfl) (T + 1) 40 j0 (.slice none 0 0) 1 24 Tryz.underlying27 HJ.out.1 HJ.out.2.1 HJ.out.2.2.1 HJ.out.2.2.2 rfl (by decide) (.slice none 0 0) 0 [] rfl (World.ownsRow_nil _ _ _ _) (some ⟨w4.heap.size + 1, 0, none⟩) 1 1 [(.slice (some ⟨w4.heap.size, 0, none⟩) C C)] rfl rfl HNW.out (one_slice _ _ _) (by unfold maxLen; omega) (by omega) HLE.out ?_; intro v5 w5 hown5 hgrow5; have HT5 := Lib.hid (HTB.out.grown hgrow5 (by simp [Value.ownBlock])); have HZ5 := Lib.hid (HZB.out.grown hgrow5 (by simp [Value.ownBlock])); have HS5 := Lib.hid (OwnSS.snocV (C := w4.heap.size) (C' := w5.heap.size) (ll := []) (V := fun _ => .slice none 0 0) (World.ownsRow_nil _ _ _ _) (fun g h => by cases h) (fun i h => absurd h (Nat.not_lt_zero _)) (fun i j _ h => absurd h (Nat.not_lt_zero _)) HZO.out (fun g h => by simp [Value.ownBlock] at h; have h2 := hgrow5.size; have h3 := HSB.out; omega) hown5 hgrow5 (by have h2 := hgrow5.size; have h3 := HSB.out; omega) (fun g h => (World.ownsRow.lt hown5 g h).2)); obtain ⟨p5, k5, rfl⟩ := row_form12 hown5; have HB5 := Lib.hid (HBB.out.grown hgrow5 HBB.out.size (by simp [Value.ownBlock])); clear hown5 hgrow5)
              (try (go_wp2_with fail))
              refine hK.out _ _ trivial (fun hHeld => ?_)
              clear hK K hHeld
              (try simp only [Act.put, List.getElem_toArray, List.getElem_cons_succ, List.getElem_cons_zero, List.setIfInBounds_toArray, List.set_cons_zero, List.set_cons_succ])
              have d1 := HT5.out.c1
              have e1 := HT5.out.f1
              have hHeld : (fun _ : World => True) w5 := trivial
              refine wpAnyH_take (i := 6) (v := ?_) rfl (by kernel_rfl) (by kernel_rfl) (by kernel_rfl) (fun _ _ _ h => h) (Or.inl ⟨by rfl, ?_⟩) (by assumption) ?_
              rotate_left
              · (intro w hSw; (try dsimp only at hSw); go_simp; (try with_reducible rfl))
              (try simp only [Act.put, List.getElem_toArray, List.getElem_cons_succ, List.getElem_cons_zero, List.setIfInBounds_toArray, List.set_cons_zero, List.set_cons_succ])
              refine wpAnyH_ready (rs := [7]) (by kernel_rfl) (by simp) (AllReadyH.cons rfl (fun K hK => ?_) AllReadyH.nil)
              · go_simp
                (try (go_wp2_with fail))
                refine hK.out _ _ trivial (fun hHeld => ?_)
                clear hK K hHeld
                (try simp only [Act.put, List.getElem_toArray, List.getElem_cons_succ, List.getElem_cons_zero, List.setIfInBounds_toArray, List.set_cons_zero, List.set_cons_succ])
                refine wpAnyH_done (by kernel_rfl) ?_ _
                refine NoPanic.normal ?_
                clear HTB HZB HBB HZO HSB HNW HLE k4 kA kB HT1 HT4 HZ4 HB4 HAD HCS hHeld
                go_wp2_with fail
                go_meet
                exact arm_first HTW.out HT5.out HZ5.out HS5.out HB5.out
        · (first | (go_simp; done) | go_wp2_with fail)
          (try (go_wp2_with fail))
          refine hK.out _ _ trivial (fun hHeld => ?_)
          clear hK K hHeld
          (try simp only [Act.put, List.getElem_toArray, List.getElem_cons_succ, List.getElem_cons_zero, List.setIfInBounds_toArray, List.set_cons_zero, List.set_cons_succ])
          refine wpAnyH_ready (rs := [1]) (by kernel_rfl) (by simp) (AllReadyH.cons rfl (fun K hK => ?_) AllReadyH.nil)
          · go_simp
            (try (go_wp2_with fail))
            refine hK.out _ _ trivial (fun hHeld => ?_)
            clear hK K hHeld
            (try simp only [Act.put, List.getElem_toArray, List.getElem_cons_succ, List.getElem_cons_zero, List.setIfInBounds_toArray, List.set_cons_zero, List.set_cons_succ])
            refine wpAnyH_ready (rs := [5]) (by kernel_rfl) (by simp) (AllReadyH.cons rfl (fun K hK => ?_) AllReadyH.nil)
            · (refine step_append_all (by rfl) _ _ _ (by rfl) (T + 1) 40 j0 (.slice none 0 0) 1 24 Tryz.underlying27 HJ.out.1 HJ.out.2.1 HJ.out.2.2.1 HJ.out.2.2.2 rfl (by decide) (.slice none 0 0) 0 [] rfl (World.ownsRow_nil _ _ _ _) (some ⟨w4.heap.size + 1, 0, none⟩) 1 1 [(.slice (some ⟨w4.heap.size, 0, none⟩) C C)] rfl rfl HNW.out (one_slice _ _ _) (by unfold maxLen; omega) (by omega) HLE.out ?_; intro v5 w5 hown5 hgrow5; have HT5 := Lib.hid (HTB.out.grown hgrow5 (by simp [Value.ownBlock])); have HZ5 := Lib.hid (HZB.out.grown hgrow5 (by simp [Value.ownBlock])); have HS5 := Lib.hid (OwnSS.snocV (C := w4.heap.size) (C' := w5.heap.size) (ll := []) (V := fun _ => .slice none 0 0) (World.ownsRow_nil _ _ _ _) (fun g h => by cases h) (fun i h => absurd h (Nat.not_lt_zero _)) (fun i j _ h => absurd h (Nat.not_lt_zero _)) HZO.out (fun g h => by simp [Value.ownBlock] at h; have h2 := hgrow5.size; have h3 := HSB.out; omega) hown5 hgrow5 (by have h2 := hgrow5.size; have h3 := HSB.out; omega) (fun g h => (World.ownsRow.lt hown5 g h).2)); obtain ⟨p5, k5, rfl⟩ := row_form12 hown5; have HB5 := Lib.hid (HBB.out.grown hgrow5 HBB.out.size (by simp [Value.ownBlock])); clear hown5 hgrow5)
              (try (go_wp2_with fail))
              refine hK.out _ _ trivial (fun hHeld => ?_)
              clear hK K hHeld
              (try simp only [Act.put, List.getElem_toArray, List.getElem_cons_succ, List.getElem_cons_zero, List.setIfInBounds_toArray, List.set_cons_zero, List.set_cons_succ])
              have d1 := HT5.out.c1
              have e1 := HT5.out.f1
              have hHeld : (fun _ : World => True) w5 := trivial
              refine wpAnyH_take (i := 6) (v := ?_) rfl (by kernel_rfl) (by kernel_rfl) (by kernel_rfl) (fun _ _ _ h => h) (Or.inl ⟨by rfl, ?_⟩) (by assumption) ?_
              rotate_left
              · (intro w hSw; (try dsimp only at hSw); go_simp; (try with_reducible rfl))
              (try simp only [Act.put, List.getElem_toArray, List.getElem_cons_succ, List.getElem_cons_zero, List.setIfInBounds_toArray, List.set_cons_zero, List.set_cons_succ])
              refine wpAnyH_ready (rs := [7]) (by kernel_rfl) (by simp) (AllReadyH.cons rfl (fun K hK => ?_) AllReadyH.nil)
              · go_simp
                (try (go_wp2_with fail))
                refine hK.out _ _ trivial (fun hHeld => ?_)
                clear hK K hHeld
                (try simp only [Act.put, List.getElem_toArray, List.getElem_cons_succ, List.getElem_cons_zero, List.setIfInBounds_toArray, List.set_cons_zero, List.set_cons_succ])
                refine wpAnyH_done (by kernel_rfl) ?_ _
                refine NoPanic.normal ?_
                clear HTB HZB HBB HZO HSB HNW HLE k4 kA kB HT1 HT4 HZ4 HB4 HAD HCS hHeld
                go_wp2_with fail
                go_meet
                exact arm_first HTW.out HT5.out HZ5.out HS5.out HB5.out
    case rest =>
      clear HT4 HZ4 HB4 HAD hmk
      obtain ⟨u4, HZ5, HT5, HO5, HB5⟩ := hcut
      obtain ⟨w5, hw5⟩ : ∃ w', w' = wc := ⟨_, rfl⟩
      rw [← hw5] at HZ5 HT5 HO5 HB5 ⊢
      clear hw5
      go_wp2_with fail
      refine (HCS.out _ HB5.out).mono ?_
      rintro e w6 ⟨vc, rfl, oc, b6⟩
      have HS6 := Lib.hid (ams_start HTW.out HZ5.out HT5.out HO5.out HB5.out oc b6)
      obtain ⟨av, cv, rfl⟩ := row_form12 oc
      clear oc b6 HZ5 HT5 HO5 HB5 HCS
      go_wp2_with fail
      go_loopw [8, 9, 10] (fun iv rv kv wr => ∃ (i : Nat) (u : Value), i ≤ cs.length ∧ iv = .int .i64 (i : Int) ∧ Hid (AmS w wr T (C : Int) u (rowsA C (armP C cs i)) (.slice av cs.length cv) cs)) (fun iv _ _ _ => cs.length - (intOf iv).toNat)
      case atStart => exact ⟨0, u4, by omega, rfl, Lib.hid (by rw [show rowsA C (armP C cs 0) = [List.replicate C 0] from by rw [← rowA_zero]; rfl]; exact HS6.out)⟩
      case round =>
        clear HS6
        obtain ⟨i, u, hi, rfl, HS⟩ := hrel
        obtain ⟨w7, hw⟩ : ∃ w', w' = wr := ⟨_, rfl⟩
        rw [← hw] at HS ⊢
        clear hw
        by_cases hlt : i < cs.length
        · have z0 : (0 : Int) ≤ (i : Int) := by omega
          have z1 : (i : Int) < (cs.length : Int) := by omega
          obtain ⟨_, _, hs, hcl7⟩ := HS.out.c.read
          cases hs
          obtain ⟨x, rfl, hx⟩ := hcl7 i hlt
          have HMX := HMM.out (cs.getD i 0) (mem_getD.2 ⟨i, hlt, rfl⟩)
          obtain ⟨X, hX, hX32⟩ := HMX
          clear hcl7
          have hxi : cs[i] = (X : Int) := by rw [← hX, List.getD_eq_getElem?_getD, List.getElem?_eq_getElem hlt]; rfl
          rw [hxi] at hx
          have HX := Lib.hid hX
          clear hX
          by_cases he : (X : Int) = F
          · have HQ : Hid (armP C cs (i + 1) = armP C cs i) := Lib.hid (armP_skip (by rw [HX.out, he, HF.out]))
            go_upto_region 9 with fail
            refine wp_region_noPanic ?_
            refine wp_region_held_drew (S := (fun w' => w'.cell? (x.add i) = some (.int .i64 (X : Int)))) (by kernel_rfl) ?_ (fun hHeld => ?_)
            · ((try dsimp only); first | exact hx | exact hHeld)
            refine wpAnyH_take (i := 0) (v := ?_) rfl (by kernel_rfl) (by kernel_rfl) (by kernel_rfl) (fun _ _ _ h => h) (Or.inl ⟨by rfl, ?_⟩) (by assumption) ?_
            rotate_left
            · (intro w hSw; (try dsimp only at hSw); go_simp; (try with_reducible rfl))
            (try simp only [Act.put, List.getElem_toArray, List.getElem_cons_zero, List.setIfInBounds_toArray, List.set_cons_zero, List.set_cons_succ])
            refine wpAnyH_take (i := 1) (v := ?_) rfl (by kernel_rfl) (by kernel_rfl) (by kernel_rfl) (fun _ _ _ h => h) (Or.inl ⟨by rfl, ?_⟩) (by assumption) ?_
            rotate_left
            · (intro w hSw; (try dsimp only at hSw); go_simp; (try with_reducible rfl))
            (try simp only [Act.put, List.getElem_toArray, List.getElem_cons_succ, List.getElem_cons_zero, List.setIfInBounds_toArray, List.set_cons_zero, List.set_cons_succ])
            refine wpAnyH_take (i := 2) (v := ?_) rfl (by kernel_rfl) (by kernel_rfl) (by kernel_rfl) (fun _ _ _ h => h) (Or.inl ⟨by rfl, ?_⟩) (by assumption) ?_
            rotate_left
            · (intro w hSw; (try dsimp only at hSw); go_simp; (try with_reducible rfl))
            (try simp only [Act.put, List.getElem_toArray, List.getElem_cons_succ, List.getElem_cons_zero, List.setIfInBounds_toArray, List.set_cons_zero, List.set_cons_succ])
            refine wpAnyH_take (i := 3) (v := ?_) rfl (by kernel_rfl) (by kernel_rfl) (by kernel_rfl) (fun _ _ _ h => h) (Or.inl ⟨by rfl, ?_⟩) (by assumption) ?_
            rotate_left
            · (intro w hSw; (try dsimp only at hSw); go_simp; (try with_reducible rfl))
            (try simp only [Act.put, List.getElem_toArray, List.getElem_cons_succ, List.getElem_cons_zero, List.setIfInBounds_toArray, List.set_cons_zero, List.set_cons_succ])
            refine wpAnyH_take (i := 4) (v := ?_) rfl (by kernel_rfl) (by kernel_rfl) (by kernel_rfl) (fun _ _ _ h => h) (Or.inl ⟨by rfl, ?_⟩) (by assumption) ?_
            rotate_left
            · (intro w hSw; (try dsimp only at hSw); go_simp; (try with_reducible rfl))
            (try simp only [Act.put, List.getElem_toArray, List.getElem_cons_succ, List.getElem_cons_zero, List.setIfInBounds_toArray, List.set_cons_zero, List.set_cons_succ])
            refine wpAnyH_ready (rs := [5]) (by kernel_rfl) (by simp) (AllReadyH.cons rfl (fun K hK => ?_) AllReadyH.nil)
            (first | (go_at_call 26; refine (HAL.out _).mono ?_; rintro e w71 ⟨rfl, rfl⟩) | (go_simp; go_at_call 26; refine (HAL.out _).mono ?_; rintro e w71 ⟨rfl, rfl⟩))
            (try (go_wp2_with fail))
            refine hK.out _ _ ?_ (fun hHeld => ?_)
            · ((try dsimp only); first | exact hx | exact hHeld)
            clear hK K
            (try simp only [Act.put, List.getElem_toArray, List.getElem_cons_succ, List.getElem_cons_zero, List.setIfInBounds_toArray, List.set_cons_zero, List.set_cons_succ])
            refine wpAnyH_take (i := 6) (v := ?_) rfl (by kernel_rfl) (by kernel_rfl) (by kernel_rfl) (fun _ _ _ h => h) (Or.inl ⟨by rfl, ?_⟩) (by assumption) ?_
            rotate_left
            · (intro w hSw; (try dsimp only at hSw); go_simp; (try with_reducible rfl))
            (try simp only [Act.put, List.getElem_toArray, List.getElem_cons_succ, List.getElem_cons_zero, List.setIfInBounds_toArray, List.set_cons_zero, List.set_cons_succ])
            refine wpAnyH_done (by kernel_rfl) ?_ _
            refine NoPanic.normal ?_
            clear hx
            go_wp2_with fail
            refine ⟨⟨i + 1, u, by omega, by go_num, Lib.hid (by rw [HQ.out]; exact HS.out.keep (Below.refl _ _).drew)⟩, ?_⟩
            simp [intOf]
            omega
          · have HQ : Hid (armP C cs (i + 1) = armP C cs i ++ [(X, (i : Int) + 1)]) := Lib.hid (by rw [armP_take (by rw [HX.out, ← HF.out]; exact he), HX.out]; rfl)
            go_upto_region 9 with fail
            refine wp_region_noPanic ?_
            refine wp_region_held_drew (S := (fun w' => w'.cell? (x.add i) = some (.int .i64 (X : Int)))) (by kernel_rfl) ?_ (fun hHeld => ?_)
            · ((try dsimp only); first | exact hx | exact hHeld)
            refine wpAnyH_take (i := 0) (v := ?_) rfl (by kernel_rfl) (by kernel_rfl) (by kernel_rfl) (fun _ _ _ h => h) (Or.inl ⟨by rfl, ?_⟩) (by assumption) ?_
            rotate_left
            · (intro w hSw; (try dsimp only at hSw); go_simp; (try with_reducible rfl))
            (try simp only [Act.put, List.getElem_toArray, List.getElem_cons_zero, List.setIfInBounds_toArray, List.set_cons_zero, List.set_cons_succ])
            refine wpAnyH_take (i := 1) (v := ?_) rfl (by kernel_rfl) (by kernel_rfl) (by kernel_rfl) (fun _ _ _ h => h) (Or.inl ⟨by rfl, ?_⟩) (by assumption) ?_
            rotate_left
            · (intro w hSw; (try dsimp only at hSw); go_simp; (try with_reducible rfl))
            (try simp only [Act.put, List.getElem_toArray, List.getElem_cons_succ, List.getElem_cons_zero, List.setIfInBounds_toArray, List.set_cons_zero, List.set_cons_succ])
            refine wpAnyH_take (i := 2) (v := ?_) rfl (by kernel_rfl) (by kernel_rfl) (by kernel_rfl) (fun _ _ _ h => h) (Or.inl ⟨by rfl, ?_⟩) (by assumption) ?_
            rotate_left
            · (intro w hSw; (try dsimp only at hSw); go_simp; (try with_reducible rfl))
            (try simp only [Act.put, List.getElem_toArray, List.getElem_cons_succ, List.getElem_cons_zero, List.setIfInBounds_toArray, List.set_cons_zero, List.set_cons_succ])
            refine wpAnyH_take (i := 3) (v := ?_) rfl (by kernel_rfl) (by kernel_rfl) (by kernel_rfl) (fun _ _ _ h => h) (Or.inl ⟨by rfl, ?_⟩) (by assumption) ?_
            rotate_left
            · (intro w hSw; (try dsimp only at hSw); go_simp; (try with_reducible rfl))
            (try simp only [Act.put, List.getElem_toArray, List.getElem_cons_succ, List.getElem_cons_zero, List.setIfInBounds_toArray, List.set_cons_zero, List.set_cons_succ])
            refine wpAnyH_take (i := 4) (v := ?_) rfl (by kernel_rfl) (by kernel_rfl) (by kernel_rfl) (fun _ _ _ h => h) (Or.inl ⟨by rfl, ?_⟩) (by assumption) ?_
            rotate_left
            · (intro w hSw; (try dsimp only at hSw); go_simp; (try with_reducible rfl))
            (try simp only [Act.put, List.getElem_toArray, List.getElem_cons_succ, List.getElem_cons_zero, List.setIfInBounds_toArray, List.set_cons_zero, List.set_cons_succ])
            refine wpAnyH_ready (rs := [5]) (by kernel_rfl) (by simp) (AllReadyH.cons rfl (fun K hK => ?_) AllReadyH.nil)
            (first | (go_at_call 26; refine (HAL.out _).mono ?_; rintro e w71 ⟨rfl, rfl⟩) | (go_simp; go_at_call 26; refine (HAL.out _).mono ?_; rintro e w71 ⟨rfl, rfl⟩))
            (try (go_wp2_with fail))
            refine hK.out _ _ ?_ (fun hHeld => ?_)
            · ((try dsimp only); first | exact hx | exact hHeld)
            clear hK K
            (try simp only [Act.put, List.getElem_toArray, List.getElem_cons_succ, List.getElem_cons_zero, List.setIfInBounds_toArray, List.set_cons_zero, List.set_cons_succ])
            refine wpAnyH_take (i := 6) (v := ?_) rfl (by kernel_rfl) (by kernel_rfl) (by kernel_rfl) (fun _ _ _ h => h) (Or.inl ⟨by rfl, ?_⟩) (by assumption) ?_
            rotate_left
            · (intro w hSw; (try dsimp only at hSw); go_simp; (try with_reducible rfl))
            (try simp only [Act.put, List.getElem_toArray, List.getElem_cons_succ, List.getElem_cons_zero, List.setIfInBounds_toArray, List.set_cons_zero, List.set_cons_succ])
            refine wpAnyH_done (by kernel_rfl) ?_ _
            refine NoPanic.normal ?_
            clear hx
            have HXI : Hid (cs[i] = (X : Int)) := Lib.hid hxi
            clear hxi
            have HR7 := Lib.hid HS.out.open_.drew
            go_wp2_with fail
            rw [show ((X : Int) == F) = false from beq_false_of_ne he]
            clear he
            go_loopw [9, 10] (fun rv kv wq => ∃ (k : Nat) (q : List Int), k ≤ C ∧ kv = .int .i64 (k : Int) ∧ Hid (q = rowA X ((i : Int) + 1) k ∧ q.length = k) ∧ Hid (AmR w wq T w7.heap.size (C : Int) u (rowsA C (armP C cs i)) (.slice (some x) cs.length cv) cs rv q)) (fun _ kv _ => C - (intOf kv).toNat)
            case atStart => exact ⟨0, [], by omega, rfl, Lib.hid ⟨rfl, rfl⟩, HR7⟩
            case round =>
              clear HR7
              obtain ⟨k, q, hk, rfl, HQ2, HR⟩ := hrel
              obtain ⟨w8, hw⟩ : ∃ w', w' = wr := ⟨_, rfl⟩
              rw [← hw] at HR ⊢
              clear hw
              obtain ⟨ar, cr, hov⟩ : ∃ a c, _ = Value.slice a k c := by
                obtain ⟨a', c', h, -⟩ := HR.out.r.read
                rw [HQ2.out.2] at h
                exact ⟨a', c', h⟩
              subst hov
              by_cases hkC : k < C
              · have y0 : (0 : Int) ≤ (k : Int) := by omega
                have y1 : (k : Int) < (C : Int) := by omega
                have hk64 : k ≤ 64 := by omega
                have hbv := bit_val X k
                have hqk := HQ2.out.2
                have ho : w8.ownsRow w7.heap.size 3 1 (.slice ar k cr) k (intsV q) := by have h := HR.out.r; unfold OwnI at h; rw [hqk] at h; exact h
                have HOK := Lib.hid ho
                have HSZ : Hid (w7.heap.size ≤ w8.heap.size) := Lib.hid HR.out.hk
                have HL : Hid (∀ u : Int, q.length = k) := Lib.hid (fun _ => HQ2.out.2)
                have hx : w8.cell? (x.add i) = some (.int .i64 (X : Int)) := by
                  obtain ⟨_, _, hs, hcl8⟩ := HR.out.c.read
                  cases hs
                  obtain ⟨x', hx', hx2⟩ := hcl8 i hlt
                  cases hx'
                  rw [HXI.out] at hx2
                  exact hx2
                have HN : Hid (q ++ [if bitB X k = true then 0 else (i : Int) + 1] = rowA X ((i : Int) + 1) (k + 1) ∧ (q ++ [if bitB X k = true then (0 : Int) else (i : Int) + 1]).length = k + 1) := Lib.hid ⟨by rw [HQ2.out.1]; rfl, by rw [List.length_append, HQ2.out.2]; rfl⟩
                clear ho hqk
                cases hb : bitB X k with
                | true =>
                  rw [hb] at hbv HN
                  rw [if_pos rfl] at hbv HN
                  clear hb
                  go_wp2_with (at_builtin; refine wpList_append_own _ rfl _ _ 40 rfl w7.heap.size 3 i0 (.int .i64 0) 1 8 Tryz.underlying40 HI.out.1 HI.out.2.1 HI.out.2.2.1 HI.out.2.2.2 rfl (by decide) _ _ _ rfl (World.ownsRow.alloc HOK.out _) ⟨w8.heap.size, 0, none⟩ 1 1 [.int .i64 0] rfl rfl (cell_one_new _ _ _) (one_i64 _) (by unfold maxLen; omega) (by omega) (by have := HSZ.out; rw [World.size_alloc]; omega) ?_; intro v9 w9 hown9 hgrow9 _; have HR9 := Lib.hid (HR.out.grow hgrow9 (by rw [HL.out 0]; exact hown9)); clear hown9 hgrow9)
                  go_roundw
                  case rel => exact ⟨k + 1, _, by omega, by go_num, HN, HR9⟩
                  case measure => simp [intOf]; omega
                | false =>
                  rw [hb] at hbv HN
                  rw [if_neg (by decide)] at hbv
                  rw [if_neg (by decide)] at HN
                  clear hb
                  go_wp2_with (at_builtin; refine wpList_append_own _ rfl _ _ 40 rfl w7.heap.size 3 i0 (.int .i64 0) 1 8 Tryz.underlying40 HI.out.1 HI.out.2.1 HI.out.2.2.1 HI.out.2.2.2 rfl (by decide) _ _ _ rfl (World.ownsRow.alloc HOK.out _) ⟨w8.heap.size, 0, none⟩ 1 1 [.int .i64 ((i : Int) + 1)] rfl rfl (cell_one_new _ _ _) (one_i64 _) (by unfold maxLen; omega) (by omega) (by have := HSZ.out; rw [World.size_alloc]; omega) ?_; intro v9 w9 hown9 hgrow9 _; have HR9 := Lib.hid (HR.out.grow hgrow9 (by rw [HL.out 0]; exact hown9)); clear hown9 hgrow9)
                  go_roundw
                  case rel => exact ⟨k + 1, _, by omega, by go_num, HN, HR9⟩
                  case measure => simp [intOf]; omega
              · obtain rfl : k = C := by omega
                have y1 : ¬ ((k : Int) < (k : Int)) := by omega
                have HLL : Hid ((rowsA k (armP k cs i)).length ≤ 33) := Lib.hid (by rw [rowsA_len]; have := armP_len k cs i; omega)
                have HN : Hid (rowsA k (armP k cs (i + 1)) = rowsA k (armP k cs i) ++ [q]) := Lib.hid (by rw [HQ.out, rowsA_snoc, HQ2.out.1])
                obtain ⟨ll, hll⟩ : ∃ ll, ll = rowsA k (armP k cs i) := ⟨_, rfl⟩
                rw [← hll] at HR HLL HN
                clear hll
                obtain ⟨V, o1, o2, o3, o4⟩ := HR.out.o
                obtain ⟨au, cu, hu⟩ := row_form12 o1
                subst hu
                have t1 := HR.out.t.c1
                have hsz := HR.out.hk
                have htk := HR.out.tk
                have HCL := Lib.hid (fun (y : World) (v' : Value) hg ho => HR.out.close (y := y) (v' := v') (World.ownsRow.alloc o1 _) o2 (fun j hj => ⟨World.ownsRow.alloc (o3 j hj).1 _, (o3 j hj).2⟩) o4 hg ho)
                have HO1 := Lib.hid o1
                have hl33 := HLL.out
                have HSZ : Hid (T + 1 ≤ w8.heap.size) := Lib.hid (by omega)
                clear o1 o2 o3 o4 HR hsz htk
                go_wp2_with (at_builtin; refine wpList_append_own _ rfl _ _ 27 rfl (T + 1) 40 j0 (.slice none 0 0) 1 24 Tryz.underlying27 HJ.out.1 HJ.out.2.1 HJ.out.2.2.1 HJ.out.2.2.2 rfl (by decide) _ _ _ rfl (World.ownsRow.alloc HO1.out _) ⟨w8.heap.size, 0, none⟩ 1 1 [.slice ar k cr] rfl rfl (cell_one_new _ _ _) (one_slice _ _ _) (by unfold maxLen; omega) (by omega) (by have := HSZ.out; rw [World.size_alloc]; omega) ?_; intro v9 w9 hown9 hgrow9 _; have HC9 := Lib.hid (HCL.out w9 v9 hgrow9 hown9); obtain ⟨p9, k9, rfl⟩ := row_form12 hown9; have t2 := HC9.out.2.c1; have t3 := HC9.out.2.f1; clear hown9 hgrow9)
                refine ⟨⟨i + 1, _, by omega, by go_num, Lib.hid (by rw [HN.out]; exact HC9.out.1)⟩, ?_⟩
                simp [intOf]
                omega
        · obtain rfl : i = cs.length := by omega
          have z1 : ¬ ((cs.length : Int) < (cs.length : Int)) := by omega
          have t0 := HS.out.t.c0
          have t1 := HS.out.t.c1
          have d0 := HS.out.z.c0
          have d1 := HS.out.z.c1
          have e0 := HS.out.z.f0
          have e1 := HS.out.z.f1
          have hf := HS.out.z.put (c' := (C : Int)) (v := u)
          have HR := Lib.hid (And.intro hf.c0 hf.c1)
          have HOE := Lib.hid (arm_end HS.out)
          obtain ⟨au, cu, hu⟩ := row_form12 HS.out.o.choose_spec.1
          subst hu
          clear hf HS
          go_wp2_with fail
          exact bodyPost_ret (v := .tuple #[.agg #[.int .i64 (C : Int), .slice au (rowsA C (armP C cs cs.length)).length cu], .bool true]) (by simp [results, Tryz.results7, go_sem, HR.out.1, HR.out.2]) rfl ⟨_, by rw [HE.out.1], by rw [HE.out.2]; exact HOE.out.1, HOE.out.2⟩
      
end
end Go.Proofs.YtnbjcelfdppkcadGreat
