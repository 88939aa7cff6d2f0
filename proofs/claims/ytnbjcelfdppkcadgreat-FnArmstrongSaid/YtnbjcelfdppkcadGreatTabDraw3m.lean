/- What the draws of chapter 3 return: tables of every kind. Conditions: the code is a readable slice of at most 1048576 bytes. -/
import Derived.Test.YtnbjcelfdppkcadGreatXz24
import Derived.Deep.RegionHeld3
import Derived.Deep.AppendLies
import Derived.Deep.RegionLaw
namespace Go.Proofs.YtnbjcelfdppkcadGreat
open Go.RowKit

theorem grown_both {w w' : World} {row : Option Nat} (h : w.grownBy w' row) (p : Addr) (x : Value) : (w.setCell p x).grownBy (w'.setCell p x) row :=
  ⟨h.os, h.tape, h.output, by have := h.size; simpa using this, fun j hj hne => by
    have hb := h.block j (by simpa using hj) hne
    simp only [World.setCell, Array.getElem?_modify]
    rw [hb]⟩
theorem OwnSS.snocT {w w' : World} {B C C' T k : Nat} {v v' u x : Value} {ll : List (List Int)} {l : List Int} {V : Nat → Value} (o1 : w.ownsRow B 40 1 v ll.length ((List.range ll.length).map V)) (o2 : ∀ g, v.ownBlock = some g → g < C)
    (o3 : ∀ i, i < ll.length → OwnI w B (V i) (ll.getD i []) ∧ ∀ g, (V i).ownBlock = some g → g < C) (o4 : ∀ i j, i < j → j < ll.length → ∀ g, (V i).ownBlock = some g → (V j).ownBlock ≠ some g)
    (hu : OwnI w B u l) (huC : ∀ g, u.ownBlock = some g → C ≤ g ∧ g < C') (hT : C ≤ T) (huT : ∀ g, u.ownBlock = some g → T ≠ g) (hvT : ∀ g, v'.ownBlock = some g → T ≠ g)
    (h1 : w'.ownsRow B 40 1 v' (ll.length + 1) ((List.range ll.length).map V ++ [u])) (hg : w.grownBy w' v.ownBlock) (hC : C ≤ C') (hv' : ∀ g, v'.ownBlock = some g → g < C') : OwnSS (w'.setCell ⟨T, k, none⟩ x) B C' v' (ll ++ [l]) :=
  OwnSS.snocV (w := w.setCell ⟨T, k, none⟩ x) (World.ownsRow.kept o1 (grown_cell w ⟨T, k, none⟩ x) (.inr (fun e => by have := o2 T e; omega))) o2
    (fun i hi => ⟨(o3 i hi).1.keptBy (grown_cell w ⟨T, k, none⟩ x) (fun g hg e => by cases hg; have := (o3 i hi).2 T e; omega), (o3 i hi).2⟩) o4
    (hu.keptBy (grown_cell w ⟨T, k, none⟩ x) (fun g hg e => by cases hg; exact huT T e rfl)) huC
    (World.ownsRow.kept h1 (grown_cell w' ⟨T, k, none⟩ x) (.inr (fun e => hvT T e rfl))) (grown_both hg _ x) hC hv'
theorem pickA (w : World) (C : Array Value) (hC : C = #[.int .i64 0, .int .i64 1, .int .i64 5, .int .i64 6]) (t : TypeId) :
    ∀ i, i < 4 → ∃ y : Int, 0 ≤ y ∧ y ≤ 6 ∧ (w.alloc (.cells C t)).cell? ⟨w.heap.size, i, none⟩ = some (.int .i64 y) := by
  intro i hi
  have e : (w.alloc (.cells C t)).cell? ⟨w.heap.size, i, none⟩ = C[i]? := World.cell?_alloc_mark w C t (0, 0) i
  rw [e, hC]
  rcases (show i = 0 ∨ i = 1 ∨ i = 2 ∨ i = 3 by omega) with rfl | rfl | rfl | rfl
  all_goals (refine ⟨_, ?_, ?_, rfl⟩ <;> decide)
theorem pickB (w : World) (C : Array Value) (hC : C = #[.int .i64 (-2), .int .i64 (-1), .int .i64 40, .int .i64 41]) (t : TypeId) :
    ∀ i, i < 4 → ∃ y : Int, -2 ≤ y ∧ y ≤ 41 ∧ (w.alloc (.cells C t)).cell? ⟨w.heap.size, i, none⟩ = some (.int .i64 y) := by
  intro i hi
  have e : (w.alloc (.cells C t)).cell? ⟨w.heap.size, i, none⟩ = C[i]? := World.cell?_alloc_mark w C t (0, 0) i
  rw [e, hC]
  rcases (show i = 0 ∨ i = 1 ∨ i = 2 ∨ i = 3 by omega) with rfl | rfl | rfl | rfl
  all_goals (refine ⟨_, ?_, ?_, rfl⟩ <;> decide)
set_option maxHeartbeats 1600000 in
set_option maxRecDepth 20000 in
theorem anyTable_any (W : World) (v : Value) (n : Nat) (hn : n ≤ 1048576) (hcode : CodeAt W v n) (c : Nat) (w : World) (hcur : Cur W v n c w) :
    Calls Tryz.prog 73 #[.pointer (some ⟨c, 0, none⟩)] w (CurTab 20 W v n c w) := by
  have HB := Lib.hid (below_any W v n hn hcode c)
  have HT := Lib.hid (table_any W v n hn hcode c)
  have HP := Lib.hid (pick_any W v n hn hcode c)
  obtain ⟨i0, hi, hz0, hz1, hz2⟩ := info_parts infoSj
  have HI : Hid (_ ∧ _ ∧ _ ∧ _) := Lib.hid ⟨hi, hz0, hz1, hz2⟩
  clear hi hz0 hz1 hz2
  have hcw := hcur.lt
  have hWc : W.heap.size ≤ c := by obtain ⟨_, _, h, _⟩ := hcur; exact h
  have hcur0 := hcur.kept (World.grownBy_alloc w (.cells #[.int .i64 0, .slice none 0 0] 29) none) (by simp) (by simp)
  have hg0 : w.grownBy (w.alloc (.cells #[.int .i64 0, .slice none 0 0] 29)) (some c) := World.grownBy_alloc w _ _
  have hbx0 : BoxIs (w.alloc (.cells #[.int .i64 0, .slice none 0 0] 29)) w.heap.size 0 (.slice none 0 0) := heap_alloc_new w _
  have hss0 : w.heap.size + 1 ≤ (w.alloc (.cells #[.int .i64 0, .slice none 0 0] 29)).heap.size := by simp
  go_enter Tryz.func73, Tryz.ntmps73
  go_wp2_with fail
  refine (HT.out _ hcur0).mono ?_
  rintro e w1 ⟨cc, u, ll, rfl, hll, hlr, hss1, g1, hc1⟩
  obtain ⟨a, cap, rfl, -⟩ := hss1.read
  have hz1 := hbx0.grown g1 (by simp; omega)
  have hg1 := grown_trans hg0 g1
  have hs1 : w.heap.size + 1 ≤ w1.heap.size := Nat.le_trans hss0 g1.size
  have hc2 := hc1.kept (World.grownBy_alloc w1 (.cells #[.int .i64 cc, .slice a ll.length cap] 29) none) (by simp) (by simp)
  have hg2 := grown_trans hg1 (World.grownBy_alloc w1 (.cells #[.int .i64 cc, .slice a ll.length cap] 29) (some c))
  have hz2 := hz1.grown (World.grownBy_alloc w1 (.cells #[.int .i64 cc, .slice a ll.length cap] 29) none) (by simp)
  have hb2 : BoxIs (w1.alloc (.cells #[.int .i64 cc, .slice a ll.length cap] 29)) w1.heap.size cc (.slice a ll.length cap) := heap_alloc_new w1 _
  have hs2 : w1.heap.size + 1 ≤ (w1.alloc (.cells #[.int .i64 cc, .slice a ll.length cap] 29)).heap.size := by simp
  have hss2 := hss1.same (w' := w1.alloc (.cells #[.int .i64 cc, .slice a ll.length cap] 29)) (fun g _ hg => Below.heap_alloc _ _ _ hg)
  have hcw1 := hc1.lt
  clear hz1 hbx0 hcur0 g1 hc1 hg0 hg1 hss0
  go_wp2_with fail
  refine (HB.out _ hc2 12 (by omega) (by omega)).mono ?_
  rintro e w3 ⟨x, x0, x1, rfl, g3, hc⟩
  have HZ := Lib.hid (hz2.grown g3 (by simp; omega))
  have HBX := Lib.hid (hb2.grown g3 (by simp; omega))
  have hg := grown_trans hg2 g3
  have s3 := Nat.le_trans hs2 g3.size
  have HSS := Lib.hid ((hss2.same (same_grown g3 (by omega) (by simp; omega))).base (B' := w.heap.size + 1) (C' := w1.heap.size) (by simp) (Nat.le_refl _))
  obtain ⟨T, hT⟩ : ∃ T, T = w1.heap.size := ⟨_, rfl⟩
  rw [← hT] at HBX s3 hs1 hcw1 HSS ⊢
  clear hT g3 hz2 hb2 hg2 hss2 hss1 hs2 hc2
  by_cases hx0 : x = 0
  · subst hx0
    have HCA := Lib.hid (fun o => hc.kept (World.grownBy_alloc w3 o none) (by simp) (by simp))
    go_wp2_with fail
    refine (HP.out _ (HCA.out _) w3.heap.size 4 _ _ (by omega) (by omega) (by omega) (by simp) (pickA w3 _ rfl _)).mono ?_
    rintro e w4 ⟨y, y0, y1, rfl, g4, hc4⟩
    have hbx4 := (HBX.out.grown (World.grownBy_alloc w3 _ none) (by simp)).grown g4 (by simp; omega)
    have hz4 := (HZ.out.grown (World.grownBy_alloc w3 _ none) (by simp)).grown g4 (by simp; omega)
    have hg4 := grown_trans (grown_trans hg (World.grownBy_alloc w3 _ _)) g4
    have s4 : w3.heap.size ≤ w4.heap.size := by have := g4.size; simp at this; omega
    have hss4 := HSS.out.same (w' := w4) (fun g x y => (g4.block g (by simp; omega) (by simp; omega)).trans (Below.heap_alloc _ _ _ (by omega)))
    obtain ⟨⟨b0, b1⟩, h0, h1⟩ := hbx4.cells
    clear HBX HZ HSS hg hc
    have HBX := Lib.hid (hbx4.set0 (cc' := y))
    have HZ := Lib.hid (hz4.grown (grown_cell w4 ⟨T, 0, none⟩ (.int .i64 y)) (by simp; omega))
    have hg := grown_set hg4 (p := ⟨T, 0, none⟩) (by show w.heap.size ≤ T; omega) (.int .i64 y)
    have hc := hc4.set (p := ⟨T, 0, none⟩) (by show W.heap.size ≤ T; omega) (by show T ≠ c; omega) (.int .i64 y)
    have HSS := Lib.hid (hss4.same (w' := w4.setCell ⟨T, 0, none⟩ (.int .i64 y)) ((Same.refl _ _ _).setCell (p := ⟨T, 0, none⟩) (.inr (Nat.le_refl _)) _))
    clear hbx4 hz4 g4 hc4 hg4 hss4
    obtain ⟨⟨c0, c1⟩, f0, f1⟩ := HBX.out.cells
    obtain ⟨⟨d0, d1⟩, g0, g1⟩ := HZ.out.cells
    have hzs := Lib.hid (((HZ.out.set0 (cc' := y)).set (rv' := .slice a ll.length cap)).cells)
    have hgr := grown_set (grown_set hg (p := ⟨w.heap.size, 0, none⟩) (Nat.le_refl _) (.int .i64 (y))) (p := ⟨w.heap.size, 1, none⟩) (Nat.le_refl _) (.slice a ll.length cap)
    have hcr := (hc.set (p := ⟨w.heap.size, 0, none⟩) (by show W.heap.size ≤ w.heap.size; omega) (by show w.heap.size ≠ c; omega) (.int .i64 (y))).set (p := ⟨w.heap.size, 1, none⟩) (by show W.heap.size ≤ w.heap.size; omega) (by show w.heap.size ≠ c; omega) (.slice a ll.length cap)
    have hsr := (HSS.out.same (((Same.refl _ _ _).setCell (p := ⟨w.heap.size, 0, none⟩) (.inl (by show w.heap.size < _; omega)) (.int .i64 (y))).setCell (p := ⟨w.heap.size, 1, none⟩) (.inl (by show w.heap.size < _; omega)) (.slice a ll.length cap))).base (B' := w.heap.size) (C' := (((w4.setCell ⟨T, 0, none⟩ (.int .i64 y)).setCell ⟨w.heap.size, 0, none⟩ (.int .i64 (y))).setCell ⟨w.heap.size, 1, none⟩ (.slice a ll.length cap)).heap.size) (by omega) (by simp; omega)
    go_wp2_with fail
    exact bodyPost_ret (v := .agg #[.int .i64 (y), .slice a ll.length cap]) (by simp [results, Tryz.results73, go_sem, hzs.out.1.1, hzs.out.1.2]) rfl ⟨_, _, ll, rfl, by omega, hlr, hsr, hgr, hcr⟩
  · by_cases hx1 : x = 1
    · subst hx1
      have hcd : Cur W v n c w3.drew := hc.kept (row := none) ⟨rfl, rfl, rfl, Nat.le_refl _, fun _ _ _ => rfl⟩ (by simp) (by simp)
      have HCA := Lib.hid (fun o => hcd.kept (World.grownBy_alloc w3.drew o none) (by simp) (by simp))
      have HPB := Lib.hid (fun o (ho : ∀ i, i < 4 → ∃ y : Int, -2 ≤ y ∧ y ≤ 41 ∧ (w3.drew.alloc o).cell? ⟨w3.heap.size, i, none⟩ = some (.int .i64 y)) => HP.out _ (HCA.out o) w3.heap.size 4 (-2) 41 (by omega) (by omega) (by omega) (by simp) ho)
      have hg3 : w.grownBy w3.drew (some c) := ⟨hg.os, hg.tape, hg.output, hg.size, hg.block⟩
      have HBD : Hid (BoxIs w3.drew T cc (.slice a ll.length cap)) := Lib.hid HBX.out
      have HZD : Hid (BoxIs w3.drew w.heap.size 0 (.slice none 0 0)) := Lib.hid HZ.out
      have HSD : Hid (OwnSS w3.drew (w.heap.size + 1) T (.slice a ll.length cap) ll) := Lib.hid (HSS.out.same (fun _ _ _ => rfl))
      have sd : w3.drew.heap.size = w3.heap.size := rfl
      obtain ⟨⟨c0, c1⟩, f0, f1⟩ := HBD.out.cells
      have c1a := (HBD.out.grown (World.grownBy_alloc w3.drew (.cells #[.int .i64 (-2), .int .i64 (-1), .int .i64 40, .int .i64 41] 3) none) (by simp)).cells.1.2
      have n1 : T ≠ w3.heap.size := by omega
      have n2 : w3.heap.size ≠ T := by omega
      have n3 : (w3.drew.cell? ⟨T, 1, none⟩).isSome = true := by rw [c1]; rfl
      have n5 := World.cell?_alloc_some w3.drew ⟨T, 1, none⟩ (.cells #[.int .i64 (-2), .int .i64 (-1), .int .i64 40, .int .i64 41] 3) n3
      clear HCA
      go_wp2_with fail
      obtain ⟨⟨k0, k1⟩, -, -⟩ := HBX.out.cells
      have k5 := (HBX.out.grown (World.grownBy_alloc w3 (.cells #[.int .i64 (-2), .int .i64 (-1), .int .i64 40, .int .i64 41] 3) none) (by simp)).cells.1.2
      go_region_law (first | (go_simp; go_at_call 58; refine (HPB.out _ (pickB w3.drew _ rfl _)).mono ?_; rintro e w4 ⟨y, y0, y1, rfl, g4, hc4⟩; have hbx4 := Lib.hid ((HBD.out.grown (World.grownBy_alloc w3.drew _ none) (by simp)).grown g4 (by simp; omega)); have hz4 := Lib.hid ((HZD.out.grown (World.grownBy_alloc w3.drew _ none) (by simp)).grown g4 (by simp; omega)); have hg4 := Lib.hid (grown_trans (grown_trans hg3 (World.grownBy_alloc w3.drew _ _)) g4); have s4 : w3.heap.size ≤ w4.heap.size := (by have := g4.size; simp at this; omega); have hss4 := HSD.out.same (w' := ((w4.alloc (.cells #[.int .i64 1, .int .i64 y] 3)).alloc (.cells #[.slice (some ⟨w4.heap.size, 0, none⟩) 2 2] 40))) (fun g x y => (Below.heap_alloc _ _ _ (by simp; omega)).trans ((Below.heap_alloc _ _ _ (by omega)).trans ((g4.block g (by simp; omega) (by simp; omega)).trans (Below.heap_alloc _ _ _ (by show g < w3.heap.size; omega))))); have HNI : Hid (OwnI ((w4.alloc (.cells #[.int .i64 1, .int .i64 y] 3)).alloc (.cells #[.slice (some ⟨w4.heap.size, 0, none⟩) 2 2] 40)) w4.heap.size (.slice (some ⟨w4.heap.size, 0, none⟩) 2 2) [1, y]) := Lib.hid (World.ownsRow.alloc (World.ownsRow_lit w4 #[.int .i64 1, .int .i64 y] 2 (Nat.le_refl _) (by unfold maxLen; omega) rfl) _); have HNW : Hid (∀ (j : Nat) (u : Value), [Value.slice (some ⟨w4.heap.size, 0, none⟩) 2 2][j]? = some u → ((w4.alloc (.cells #[.int .i64 1, .int .i64 y] 3)).alloc (.cells #[.slice (some ⟨w4.heap.size, 0, none⟩) 2 2] 40)).cell? ((⟨w4.heap.size + 1, 0, none⟩ : Addr).add j) = some u) := Lib.hid (by have h := cell_one_new (w4.alloc (.cells #[.int .i64 1, .int .i64 y] 3)) (.slice (some ⟨w4.heap.size, 0, none⟩) 2 2) 40; rwa [World.size_alloc] at h); obtain ⟨V, o1, o2, o3, o4⟩ := hss4; have O1 := Lib.hid o1; have O2 := Lib.hid o2; have O3 := Lib.hid o3; have O4 := Lib.hid o4; clear o1 o2 o3 o4 g4; obtain ⟨⟨b0, b1⟩, h0, h1⟩ := hbx4.out.cells; have bA := (hbx4.out.grown (World.grownBy_alloc w4 (.cells #[.int .i64 1, .int .i64 y] 3) none) (by simp)).cells.1.2; have bB := ((hbx4.out.grown (World.grownBy_alloc w4 (.cells #[.int .i64 1, .int .i64 y] 3) none) (by simp)).grown (World.grownBy_alloc _ (.cells #[.slice (some ⟨w4.heap.size, 0, none⟩) 2 2] 40) none) (by simp)).cells.1.2) | (refine step_append_lies _ (by rfl) _ _ _ (by rfl) (w.heap.size + 1) 40 i0 (.slice none 0 0) 1 24 Tryz.underlying27 HI.out.1 HI.out.2.1 HI.out.2.2.1 HI.out.2.2.2 rfl (by decide) _ _ _ (by rfl) O1.out ⟨w4.heap.size + 1, 0, none⟩ 1 1 [.slice (some ⟨w4.heap.size, 0, none⟩) 2 2] (by rfl) (by rfl) HNW.out (one_slice _ _ _) (by omega) (by unfold maxLen; omega) (by omega) (by rw [World.size_alloc, World.size_alloc]; omega) (w4.heap.size + 2) (by rw [World.size_alloc, World.size_alloc]) ?_; intro gg gcap w5 hown' hgrow hat hltg; have hbx5 := Lib.hid (((hbx4.out.grown (World.grownBy_alloc w4 (.cells #[.int .i64 1, .int .i64 y] 3) none) (by simp)).grown (World.grownBy_alloc _ (.cells #[.slice (some ⟨w4.heap.size, 0, none⟩) 2 2] 40) none) (by simp)).grown hgrow (fun e => by have := O2.out _ e; omega)); have hz5 := Lib.hid (((hz4.out.grown (World.grownBy_alloc w4 (.cells #[.int .i64 1, .int .i64 y] 3) none) (by simp)).grown (World.grownBy_alloc _ (.cells #[.slice (some ⟨w4.heap.size, 0, none⟩) 2 2] 40) none) (by simp)).grown hgrow (fun e => by have := (World.ownsRow.lt O1.out _ e).1; omega)); have hg5 := Lib.hid (grown_above (grown_trans (grown_trans hg4.out (World.grownBy_alloc w4 (.cells #[.int .i64 1, .int .i64 y] 3) _)) (World.grownBy_alloc _ (.cells #[.slice (some ⟨w4.heap.size, 0, none⟩) 2 2] 40) _)) hgrow (fun g h => by have := (World.ownsRow.lt O1.out g h).1; omega)); have hc5 := ((hc4.kept (World.grownBy_alloc w4 (.cells #[.int .i64 1, .int .i64 y] 3) none) (by simp) (by simp)).kept (World.grownBy_alloc _ (.cells #[.slice (some ⟨w4.heap.size, 0, none⟩) 2 2] 40) none) (by simp) (by simp)).kept hgrow (fun g h => by have := (World.ownsRow.lt O1.out g h).1; omega) (fun h => by have := (World.ownsRow.lt O1.out c h).1; omega); have s5 : w4.heap.size + 2 ≤ w5.heap.size := (by have := hgrow.size; rw [World.size_alloc, World.size_alloc] at this; omega); have hss5 := Lib.hid (OwnSS.snocT (T := T) (k := 1) (x := .slice (some ⟨gg, 0, none⟩) (ll.length + 1) gcap) O1.out O2.out O3.out O4.out (OwnI.base HNI.out (by omega)) (fun g h => by have hh := HNI.out.lt g h; rw [World.size_alloc, World.size_alloc] at hh; exact ⟨by omega, by omega⟩) (Nat.le_refl _) (fun g h => by have hh := HNI.out.lt g h; omega) (fun g h => by have hg2 : gg = g := (by simpa [Value.ownBlock] using h); have h3 : gg < T ∨ w4.heap.size ≤ gg := hat.imp (fun q => O2.out _ q) (fun q => by omega); omega) hown' hgrow (C' := w5.heap.size) (by omega) (fun g hg => (World.ownsRow.lt hown' g hg).2)); clear b0 b1 h0 h1 bA bB hown' hgrow hat hltg O1 O2 O3 O4 HNI HNW hbx4 hz4 hg4 hc4; obtain ⟨⟨b0, b1⟩, h0, h1⟩ := hbx5.out.cells))
      all_goals
        clear HBX HZ HSS hg hc c0 c1 f0 f1 k0 k1 k5
        have HBX := Lib.hid (hbx5.out.set (rv' := .slice (some ⟨gg, 0, none⟩) (ll.length + 1) gcap))
        have HZ := Lib.hid (hz5.out.grown (grown_cell w5 ⟨T, 1, none⟩ (.slice (some ⟨gg, 0, none⟩) (ll.length + 1) gcap)) (by simp; omega))
        have hg := grown_set hg5.out (p := ⟨T, 1, none⟩) (by show w.heap.size ≤ T; omega) (.slice (some ⟨gg, 0, none⟩) (ll.length + 1) gcap)
        have hc := hc5.set (p := ⟨T, 1, none⟩) (by show W.heap.size ≤ T; omega) (by show T ≠ c; omega) (.slice (some ⟨gg, 0, none⟩) (ll.length + 1) gcap)
        have HSS : Hid (OwnSS (w5.setCell ⟨T, 1, none⟩ (.slice (some ⟨gg, 0, none⟩) (ll.length + 1) gcap)) (w.heap.size + 1) w5.heap.size (.slice (some ⟨gg, 0, none⟩) (ll.length + 1) gcap) (ll ++ [[1, y]])) := hss5
        clear hbx5 hz5 hg5 hc5 hss5 b0 b1 h0 h1
        obtain ⟨⟨p0, p1⟩, p2, p3⟩ := HBX.out.cells
        obtain ⟨⟨d0, d1⟩, g0, g1⟩ := HZ.out.cells
        have hzs := Lib.hid (((HZ.out.set0 (cc' := cc)).set (rv' := .slice (some ⟨gg, 0, none⟩) (ll.length + 1) gcap)).cells)
        have hgr := grown_set (grown_set hg (p := ⟨w.heap.size, 0, none⟩) (Nat.le_refl _) (.int .i64 (cc))) (p := ⟨w.heap.size, 1, none⟩) (Nat.le_refl _) (.slice (some ⟨gg, 0, none⟩) (ll.length + 1) gcap)
        have hcr := (hc.set (p := ⟨w.heap.size, 0, none⟩) (by show W.heap.size ≤ w.heap.size; omega) (by show w.heap.size ≠ c; omega) (.int .i64 (cc))).set (p := ⟨w.heap.size, 1, none⟩) (by show W.heap.size ≤ w.heap.size; omega) (by show w.heap.size ≠ c; omega) (.slice (some ⟨gg, 0, none⟩) (ll.length + 1) gcap)
        have hsr := (HSS.out.same (((Same.refl _ _ _).setCell (p := ⟨w.heap.size, 0, none⟩) (.inl (by show w.heap.size < w.heap.size + 1; omega)) (.int .i64 (cc))).setCell (p := ⟨w.heap.size, 1, none⟩) (.inl (by show w.heap.size < w.heap.size + 1; omega)) (.slice (some ⟨gg, 0, none⟩) (ll.length + 1) gcap))).base (B' := w.heap.size) (C' := (((w5.setCell ⟨T, 1, none⟩ (.slice (some ⟨gg, 0, none⟩) (ll.length + 1) gcap)).setCell ⟨w.heap.size, 0, none⟩ (.int .i64 (cc))).setCell ⟨w.heap.size, 1, none⟩ (.slice (some ⟨gg, 0, none⟩) (ll.length + 1) gcap)).heap.size) (by omega) (by simp)
        go_wp2_with fail
        exact bodyPost_ret (v := .agg #[.int .i64 (cc), .slice (some ⟨gg, 0, none⟩) (ll.length + 1) gcap]) (by simp [results, Tryz.results73, go_sem, hzs.out.1.1, hzs.out.1.2]) rfl ⟨_, _, ll ++ [[1, y]], rfl, by simp; omega, fun r hr => by rcases List.mem_append.1 hr with h | h; exact hlr r h; simp at h; subst h; simp, hsr, hgr, hcr⟩
    · have e0 : (x == 0) = false := by simpa using hx0
      have e1 : (x == 1) = false := by simpa using hx1
      obtain ⟨⟨c0, c1⟩, f0, f1⟩ := HBX.out.cells
      obtain ⟨⟨d0, d1⟩, g0, g1⟩ := HZ.out.cells
      have hzs := Lib.hid (((HZ.out.set0 (cc' := cc)).set (rv' := .slice a ll.length cap)).cells)
      have hgr := grown_set (grown_set hg (p := ⟨w.heap.size, 0, none⟩) (Nat.le_refl _) (.int .i64 (cc))) (p := ⟨w.heap.size, 1, none⟩) (Nat.le_refl _) (.slice a ll.length cap)
      have hcr := (hc.set (p := ⟨w.heap.size, 0, none⟩) (by show W.heap.size ≤ w.heap.size; omega) (by show w.heap.size ≠ c; omega) (.int .i64 (cc))).set (p := ⟨w.heap.size, 1, none⟩) (by show W.heap.size ≤ w.heap.size; omega) (by show w.heap.size ≠ c; omega) (.slice a ll.length cap)
      have hsr := (HSS.out.same (((Same.refl _ _ _).setCell (p := ⟨w.heap.size, 0, none⟩) (.inl (by show w.heap.size < _; omega)) (.int .i64 (cc))).setCell (p := ⟨w.heap.size, 1, none⟩) (.inl (by show w.heap.size < _; omega)) (.slice a ll.length cap))).base (B' := w.heap.size) (C' := ((w3.setCell ⟨w.heap.size, 0, none⟩ (.int .i64 (cc))).setCell ⟨w.heap.size, 1, none⟩ (.slice a ll.length cap)).heap.size) (by omega) (by simp; omega)
      go_wp2_with fail
      exact bodyPost_ret (v := .agg #[.int .i64 (cc), .slice a ll.length cap]) (by simp [results, Tryz.results73, go_sem, hzs.out.1.1, hzs.out.1.2]) rfl ⟨_, _, ll, rfl, by omega, hlr, hsr, hgr, hcr⟩
end Go.Proofs.YtnbjcelfdppkcadGreat
