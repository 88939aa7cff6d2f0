/- Texts of this claim, merged: SpecQ3, TabDraw2. Conditions: as stated. -/
import Derived.Test.YtnbjcelfdppkcadGreatXz23
import Derived.Test.YtnbjcelfdppkcadGreatXz22
import Derived.Test.YtnbjcelfdppkcadGreatXz2
namespace Go.Proofs.YtnbjcelfdppkcadGreat
open Go.RowKit

theorem box_grown {wr w8 : World} {T : Nat} {c : Int} {rv v : Value} {o : Obj} {E : TypeId} {n : Nat} {xs : List Value} (h : BoxIs wr T c rv) (hg : (wr.alloc o).grownBy w8 v.ownBlock) (ho : (wr.alloc o).ownsRow (T + 1) E 1 v n xs) : BoxIs w8 T c rv :=
  (hg.block T (by simp; have := h.lt; omega) (fun e => by have := (World.ownsRow.lt ho T e.symm).1; omega)).trans ((Below.heap_alloc _ _ _ h.lt).trans h)
theorem row_form {w : World} {B : Nat} {E : TypeId} {v : Value} {n : Nat} {xs : List Value} (h : w.ownsRow B E 1 v n xs) : ∃ a c, v = .slice a n c := by
  rcases ownsRow_shape h with ⟨rfl, hn⟩ | ⟨g, cap, rfl, -⟩
  · exact ⟨none, 0, by rw [hn]⟩
  · exact ⟨_, _, rfl⟩
def RetPT (s : ByteArray) (w : World) (e : Ending) (w' : World) : Prop :=
  ∃ v, e = .returned (.tuple #[.agg #[.int .i64 (parC s), v], .bool (parOk s)]) ∧ OwnSS w' w.heap.size w'.heap.size v (parR s) ∧ Below w.heap.size w w'
theorem tot_leQ (l : List (List Int)) (m : Nat) (h : ∀ r ∈ l, r.length ≤ m) : tot l ≤ l.length * m := by
  induction l with
  | nil => simp [tot]
  | cons r t ih =>
    have h1 := h r (by simp)
    have h2 := ih (fun x hx => h x (by simp [hx]))
    unfold tot at *
    rw [List.map_cons, List.sum_cons, List.length_cons, Nat.succ_mul]
    omega
theorem par_bd (s : ByteArray) : (parR s).length ≤ 1048576 ∧ tot (parR s) ≤ 1048576 := by
  rcases par_iff s with ⟨-, h, -⟩ | ⟨-, -, h, -⟩
  · have h1 := isT_bd h
    have h2 := tot_leQ (parR s) 5 (fun r hr => by
      obtain ⟨k, hk, rfl⟩ := List.getElem_of_mem hr
      have := (isT_row h hk).1
      rw [List.getD_eq_getElem?_getD, List.getElem?_eq_getElem hk] at this
      simp only [Option.getD_some] at this
      omega)
    exact ⟨by omega, by omega⟩
  · rw [h]; simp [tot]
def RetPD (rc : Int) (d : List (List Int)) (ok : Bool) (w : World) (e : Ending) (w' : World) : Prop :=
  ∃ v, e = .returned (.tuple #[.agg #[.int .i64 rc, v], .bool ok]) ∧ OwnSS w' w.heap.size w'.heap.size v d ∧ Below w.heap.size w w'
end Go.Proofs.YtnbjcelfdppkcadGreat
namespace Go.Proofs.YtnbjcelfdppkcadGreat
open Go.RowKit

theorem same_grown {B C : Nat} {w w' : World} {c : Nat} (h : w.grownBy w' (some c)) (hC : C ≤ w.heap.size) (hc : c < B) : Same B C w w' := fun k x y => h.block k (by omega) (by simp; omega)
theorem BoxIs.grown {w w' : World} {T : Nat} {cc : Int} {u : Value} {row : Option Nat} (h : BoxIs w T cc u) (hg : w.grownBy w' row) (hT : row ≠ some T) : BoxIs w' T cc u := (hg.block T h.lt (Ne.symm hT)).trans h
theorem BoxIs.set0 {w : World} {T : Nat} {cc cc' : Int} {rv : Value} (h : BoxIs w T cc rv) : BoxIs (w.setCell ⟨T, 0, none⟩ (.int .i64 cc')) T cc' rv := by
  unfold BoxIs at *
  simp only [World.setCell, Array.getElem?_modify]
  rw [if_pos trivial, h]
  rfl
theorem own_news {w : World} {B g n cap : Nat} {l : List Int} (h : OwnI w B (.slice (some ⟨g, 0, none⟩) n cap) l) : ∀ (j : Nat) (u : Value), (intsV l)[j]? = some u → w.cell? ((⟨g, 0, none⟩ : Addr).add j) = some u := by
  intro j u hj
  have hlt : j < l.length := by have := (List.getElem?_eq_some_iff.1 hj).1; rwa [intsV_length] at this
  rw [intsV_get l j hlt] at hj
  cases hj
  rw [add_zero_off]; exact h.cell j hlt
theorem own_one (l : List Int) : ∀ u ∈ intsV l, u.oneCell' = true := by
  intro u hu; unfold intsV at hu; rw [List.mem_map] at hu; obtain ⟨x, -, rfl⟩ := hu; rfl
theorem own_some {w : World} {B : Nat} {v : Value} {l : List Int} (h : OwnI w B v l) (hl : 0 < l.length) : ∃ g cap, v = .slice (some ⟨g, 0, none⟩) l.length cap ∧ B ≤ g ∧ g < w.heap.size := by
  rcases h.shape with ⟨-, e⟩ | ⟨g, cap, e, -, a, b⟩
  · rw [e] at hl; simp at hl
  · exact ⟨g, cap, e, a, b⟩
def CurTab (m : Nat) (W : World) (v : Value) (n c : Nat) (w : World) (e : Ending) (w' : World) : Prop :=
  ∃ (cc : Int) (u : Value) (ll : List (List Int)), e = .returned (.agg #[.int .i64 cc, u]) ∧ ll.length ≤ m ∧ (∀ r ∈ ll, r.length ≤ 10) ∧ OwnSS w' w.heap.size w'.heap.size u ll ∧ w.grownBy w' (some c) ∧ Cur W v n c w'
set_option maxHeartbeats 1600000 in
theorem table_any (W : World) (v : Value) (n : Nat) (hn : n ≤ 1048576) (hcode : CodeAt W v n) (c : Nat) (w : World) (hcur : Cur W v n c w) :
    Calls Tryz.prog 72 #[.pointer (some ⟨c, 0, none⟩)] w (CurTab 12 W v n c w) := by
  have HB := Lib.hid (below_any W v n hn hcode c)
  have HO := Lib.hid (once_any W v n hn hcode c)
  have HR := row_any W v n hn hcode c
  obtain ⟨i0, hi, hz0, hz1, hz2⟩ := info_parts infoSj
  have HI : Hid (_ ∧ _ ∧ _ ∧ _) := Lib.hid ⟨hi, hz0, hz1, hz2⟩
  clear hi hz0 hz1 hz2
  obtain ⟨j0, hi, hz0, hz1, hz2⟩ := info_parts info3j
  have HJ : Hid (_ ∧ _ ∧ _ ∧ _) := Lib.hid ⟨hi, hz0, hz1, hz2⟩
  clear hi hz0 hz1 hz2
  have hcw := hcur.lt
  have hWc : W.heap.size ≤ c := by obtain ⟨_, _, h, _⟩ := hcur; exact h
  have hcur0 := hcur.kept (World.grownBy_alloc w (.cells #[.int .i64 0, .slice none 0 0] 29) none) (by simp) (by simp)
  have hg0 : w.grownBy (w.alloc (.cells #[.int .i64 0, .slice none 0 0] 29)) (some c) := World.grownBy_alloc w _ _
  have hbx0 : BoxIs (w.alloc (.cells #[.int .i64 0, .slice none 0 0] 29)) w.heap.size 0 (.slice none 0 0) := by
    exact heap_alloc_new w _
  have hss0 : w.heap.size + 1 ≤ (w.alloc (.cells #[.int .i64 0, .slice none 0 0] 29)).heap.size := by simp
  have hne : w.heap.size ≠ c := by omega
  go_enter Tryz.func72, Tryz.ntmps72
  go_wp2_with fail
  refine (HB.out _ hcur0 3 (by omega) (by omega)).mono ?_
  rintro e w1 ⟨x, x0, x1, rfl, g1, hc1⟩
  have HRX : Hid (∀ w', Cur W v n c w' → ∀ wide : Int, 1 ≤ wide → wide ≤ 1000000 → Calls Tryz.prog 99 #[.pointer (some ⟨c, 0, none⟩), .int .i64 (2 + x), .int .i64 wide] w' (CurRow W v n c (2 + x.toNat) wide w')) :=
    Lib.hid (fun w' h wide a b => by have := HR w' h (2 + x.toNat) (by omega) wide a b; rwa [show ((2 + x.toNat : Nat) : Int) = 2 + x by omega] at this)
  clear HR
  have hz1 := hbx0.grown g1 (by simp; omega)
  have hg1 := grown_trans hg0 g1
  have hs1 : w.heap.size + 1 ≤ w1.heap.size := Nat.le_trans hss0 g1.size
  have hc2 := hc1.kept (World.grownBy_alloc w1 (.cells #[.int .i64 (2 + x), .slice none 0 0] 29) none) (by simp) (by simp)
  have hg2 := grown_trans hg1 (World.grownBy_alloc w1 (.cells #[.int .i64 (2 + x), .slice none 0 0] 29) (some c))
  have hz2 := hz1.grown (World.grownBy_alloc w1 (.cells #[.int .i64 (2 + x), .slice none 0 0] 29) none) (by simp)
  have hb2 : BoxIs (w1.alloc (.cells #[.int .i64 (2 + x), .slice none 0 0] 29)) w1.heap.size (2 + x) (.slice none 0 0) := heap_alloc_new w1 _
  have hs2 : w1.heap.size + 1 ≤ (w1.alloc (.cells #[.int .i64 (2 + x), .slice none 0 0] 29)).heap.size := by simp
  have hcw1 := hc1.lt
  clear hz1 hbx0 hcur0 g1 hc1 hg0 hg1 hss0
  go_wp2_with fail
  refine (HB.out _ hc2 3 (by omega) (by omega)).mono ?_
  rintro e w3 ⟨y, y0, y1, rfl, g3, hc3⟩
  replace hz2 := hz2.grown g3 (by simp; omega)
  replace hb2 := hb2.grown g3 (by simp; omega)
  replace hg2 := grown_trans hg2 g3
  replace hs2 := Nat.le_trans hs2 g3.size
  clear g3 hc2
  go_wp2_with fail
  refine (HB.out _ hc3 7 (by omega) (by omega)).mono ?_
  rintro e w4 ⟨m0, m1, m2, rfl, g4, hc4⟩
  replace hz2 := Lib.hid (hz2.grown g4 (by simp; omega))
  replace hb2 := Lib.hid (hb2.grown g4 (by simp; omega))
  replace hg2 := grown_trans hg2 g4
  replace hs2 := Nat.le_trans hs2 g4.size
  clear g4 hc3
  go_wp2_with fail
  obtain ⟨T, hT⟩ : ∃ T, T = w1.heap.size := ⟨_, rfl⟩
  rw [← hT] at hb2 hs2 hs1 hcw1 ⊢
  clear hT
  go_loopw [5] (fun nv wr => ∃ (m : Int) (ll : List (List Int)) (u : Value), 0 ≤ m ∧ m ≤ 6 ∧ nv = .int .i64 m ∧ Hid ((ll.length : Int) + 2 * m ≤ 12 ∧ ∀ r ∈ ll, r.length ≤ 10) ∧ Hid (BoxIs wr w.heap.size 0 (.slice none 0 0)) ∧ Hid (BoxIs wr T (2 + x) u) ∧ Hid (OwnSS wr (T + 1) wr.heap.size u ll) ∧ w.grownBy wr (some c) ∧ Cur W v n c wr) (fun nv _ => (intOf nv).toNat)
  case atStart => exact ⟨m0, [], .slice none 0 0, by omega, by omega, rfl, Lib.hid ⟨by simp; omega, by simp⟩, hz2, hb2, Lib.hid (OwnSS.nil _ _ _), hg2, hc4⟩
  case round =>
    clear hz2 hb2 hg2 hc4 hs2
    obtain ⟨m, ll, u, hm0, hm6, rfl, hL, hz, hbx, hss, hg, hc⟩ := hrel
    have hTw := hbx.out.lt
    by_cases hm : 0 < m
    · obtain ⟨⟨c0, c1⟩, f0, f1⟩ := hbx.out.cells
      go_wp2_with fail
      refine (HRX.out _ hc (2 + y) (by omega) (by omega)).mono ?_
      rintro e w5 ⟨ur, lr, rfl, hlr, -, hor, g5, hc5⟩
      have hz5 := Lib.hid (hz.out.grown g5 (by simp; omega))
      have hbx5 := Lib.hid (hbx.out.grown g5 (by simp; omega))
      have hss5 := hss.out.same (same_grown g5 (Nat.le_refl _) (by omega))
      have hg5 := grown_trans hg g5
      have s5 := g5.size
      clear c0 c1 f0 f1 hz hbx hss hg hc g5
      obtain ⟨⟨c0, c1⟩, f0, f1⟩ := hbx5.out.cells
      obtain ⟨gr, capr, rfl, hgr⟩ : ∃ g cap, ur = .slice (some ⟨g, 0, none⟩) lr.length cap ∧ wr.heap.size ≤ g ∧ g < w5.heap.size := by
        rcases hor.shape with ⟨-, h⟩ | ⟨g, cap, h, -, a, b⟩
        · rw [h] at hlr; simp at hlr; omega
        · exact ⟨g, cap, h, a, b⟩
      have hos := hss5.same (w' := w5.alloc (.cells #[.slice (some ⟨gr, 0, none⟩) lr.length capr] 40)) (fun g _ hg => Below.heap_alloc _ _ _ (by omega))
      obtain ⟨V, o1, o2, o3, o4⟩ := hos
      obtain ⟨ra, rcap, hrv⟩ := row_form o1
      subst hrv
      have hou : OwnI (w5.alloc (.cells #[.slice (some ⟨gr, 0, none⟩) lr.length capr] 40)) (T + 1) (.slice (some ⟨gr, 0, none⟩) lr.length capr) lr := OwnI.base (World.ownsRow.alloc hor _) (by omega)
      have HGR := Lib.hid (fun g h => hor.lt g h)
      have O1 := Lib.hid o1
      have O2 := Lib.hid o2
      have O3 := Lib.hid o3
      have O4 := Lib.hid o4
      have hll : ll.length ≤ 20 := by have := hL.out.1; omega
      have HLR := Lib.hid hlr
      clear o1 o2 o3 o4 hss5 hlr
      go_wp2_with (at_builtin; refine wpList_append_own _ rfl _ _ 27 rfl (T + 1) 40 i0 (.slice none 0 0) 1 24 Tryz.underlying27 HI.out.1 HI.out.2.1 HI.out.2.2.1 HI.out.2.2.2 rfl (by decide) _ _ _ rfl O1.out ⟨w5.heap.size, 0, none⟩ 1 1 [.slice (some ⟨gr, 0, none⟩) lr.length capr] rfl rfl (cell_one_new _ _ _) (one_slice _ _ _) (by unfold maxLen; omega) (by omega) (by simp; omega) ?_; intro v' w8 hown' hgrow _; have hbx8 := Lib.hid (box_grown hbx5.out hgrow O1.out); obtain ⟨⟨d0, d1⟩, g0, g1⟩ := hbx8.out.cells; have hos8 := Lib.hid (OwnSS.snocV O1.out O2.out O3.out O4.out hou (fun g h => by have hh := HGR.out g h; have h2 := hgrow.size; simp at h2; exact ⟨hh.1, Nat.lt_of_lt_of_le hh.2 (by omega)⟩) hown' hgrow (by have h2 := hgrow.size; simp at h2; omega) (fun g hg => (World.ownsRow.lt hown' g hg).2)); have hz8 := Lib.hid ((hz5.out.grown (World.grownBy_alloc w5 (.cells #[.slice (some ⟨gr, 0, none⟩) lr.length capr] 40) none) (by simp)).grown hgrow (fun e => by have := (World.ownsRow.lt O1.out _ e).1; omega)); have hg8 := grown_above (grown_trans hg5 (World.grownBy_alloc w5 (.cells #[.slice (some ⟨gr, 0, none⟩) lr.length capr] 40) _)) hgrow (fun g h => by have := (World.ownsRow.lt O1.out g h).1; omega); have hc8 := (hc5.kept (World.grownBy_alloc w5 (.cells #[.slice (some ⟨gr, 0, none⟩) lr.length capr] 40) none) (by simp) (by simp)).kept hgrow (fun g h => by have := (World.ownsRow.lt O1.out g h).1; omega) (fun h => by have := (World.ownsRow.lt O1.out c h).1; omega); have hor8 := Lib.hid (hou.keptBy hgrow (row_apart O1.out hou)); obtain ⟨av, cv, hvv⟩ := row_form hown'; clear hown' hgrow; subst hvv)
      have hbx9 := hbx8.out.set (rv' := .slice av (ll.length + 1) cv)
      have hss9 : OwnSS (w8.setCell ⟨T, 1, none⟩ (.slice av (ll.length + 1) cv)) (T + 1) w8.heap.size (.slice av (ll.length + 1) cv) (ll ++ [lr]) := hos8.out.same ((Same.refl _ _ _).setCell (.inl (by simp)) _)
      have hz9 := hz8.out.grown (grown_cell w8 ⟨T, 1, none⟩ (.slice av (ll.length + 1) cv)) (by simp; omega)
      have hg9 := grown_set hg8 (p := ⟨T, 1, none⟩) (by show w.heap.size ≤ T; omega) (.slice av (ll.length + 1) cv)
      have hc9 := hc8.set (p := ⟨T, 1, none⟩) (by show W.heap.size ≤ T; omega) (by show T ≠ c; omega) (.slice av (ll.length + 1) cv)
      have hor9 := hor8.out.same (w' := w8.setCell ⟨T, 1, none⟩ (.slice av (ll.length + 1) cv)) (fun g h => Below.heap_setCell _ _ _ _ (by have := hor8.out.lt g h; show g ≠ T; omega))
      have hsz9 : w8.heap.size ≤ (w8.setCell ⟨T, 1, none⟩ (.slice av (ll.length + 1) cv)).heap.size := by simp
      clear d0 d1 g0 g1 hbx8 hos8 hz8 hg8 hc8 hor8 c0 c1 f0 f1 hou HGR hor hbx5 hz5 hg5 hc5 O1 O2 O3 O4
      obtain ⟨w9, hw9⟩ : ∃ w9, w9 = w8.setCell ⟨T, 1, none⟩ (.slice av (ll.length + 1) cv) := ⟨_, rfl⟩
      rw [← hw9] at hbx9 hss9 hz9 hg9 hc9 hor9 hsz9 ⊢
      clear hw9
      refine (HO.out _ hc9 3 (by omega) (by omega)).mono ?_
      rintro e w10 ⟨b, rfl, g10, hc10⟩
      have hbx10 := Lib.hid (hbx9.grown g10 (by simp; omega))
      have hz10 := Lib.hid (hz9.grown g10 (by simp; omega))
      have hss10 := Lib.hid ((hss9.same (same_grown g10 hsz9 (by omega))).base (Nat.le_refl _) (Nat.le_trans hsz9 g10.size))
      have hor10 := Lib.hid (hor9.same (w' := w10) (fun g h => g10.block g (hor9.lt g h).2 (fun e => by cases e; have := hor9.lt c h; omega)))
      have hg10 := grown_trans hg9 g10
      clear g10 hbx9 hz9 hss9 hor9 hg9 hc9 hsz9
      cases b with
      | false =>
        go_wp2_with fail
        go_roundw
        case rel => exact ⟨m - 1, ll ++ [lr], _, by omega, by omega, rfl, Lib.hid ⟨by have := hL.out.1; simp; omega, fun r hr => by
          rcases List.mem_append.1 hr with h | h
          · exact hL.out.2 r h
          · simp at h; subst h; have := HLR.out; omega⟩, hz10, hbx10, hss10, hg10, hc10⟩
        case measure => simp [intOf]; omega
      | true =>
        have hlp : 0 < lr.length := by have := HLR.out; omega
        have hl12 : lr.length ≤ 12 := by have := HLR.out; omega
        have HO1 := Lib.hid (World.ownsRow_made w10 #[] 0 (e := 3) (size := 1) (Nat.le_refl _) (by unfold maxLen; omega) rfl)
        have hT10 := hbx10.out.lt
        have HGA := Lib.hid (fun g h => hor10.out.lt g h)
        have hor10a : OwnI (w10.alloc (.cells #[] 3)) (T + 1) (.slice (some ⟨gr, 0, none⟩) lr.length capr) lr := World.ownsRow.alloc hor10.out _
        have HNW := Lib.hid (own_news hor10a)
        clear hor10a
        go_wp2_with (at_builtin; refine wpList_append_own _ rfl _ _ 40 rfl w10.heap.size 3 j0 (.int .i64 0) 1 8 Tryz.underlying40 HJ.out.1 HJ.out.2.1 HJ.out.2.2.1 HJ.out.2.2.2 rfl (by decide) _ _ _ rfl HO1.out ⟨gr, 0, none⟩ lr.length capr (intsV lr) rfl (by rw [intsV_length]; simp) HNW.out (own_one lr) (by unfold maxLen; omega) (by omega) (by simp) ?_; intro v' w11 hown' (hgrow : World.grownBy _ w11 (some w10.heap.size)) _; have hox : OwnI w11 w10.heap.size v' lr := (by unfold OwnI; simpa using hown'); have hbx11 := Lib.hid ((hbx10.out.grown (World.grownBy_alloc w10 (.cells #[] 3) none) (by simp)).grown hgrow (by simp; omega)); have hz11 := Lib.hid ((hz10.out.grown (World.grownBy_alloc w10 (.cells #[] 3) none) (by simp)).grown hgrow (by simp; omega)); have hg11 := grown_above (grown_trans hg10 (World.grownBy_alloc w10 (.cells #[] 3) _)) hgrow (fun g h => by cases h; omega); have hc11 := (hc10.kept (World.grownBy_alloc w10 (.cells #[] 3) none) (by simp) (by simp)).kept hgrow (fun g h => by cases h; omega) (fun h => by cases h; omega); have hss11 := Lib.hid (hss10.out.same (w' := w11) (fun g _ hg => (hgrow.block g (by simp; omega) (by simp; omega)).trans (Below.heap_alloc _ _ _ (by omega)))); have s11 : w10.heap.size ≤ w11.heap.size := (by have := hgrow.size; simp at this; omega); obtain ⟨gx, capx, rfl, hgx⟩ := own_some hox hlp; have hox11 := Lib.hid hox; obtain ⟨⟨d0, d1⟩, g0, g1⟩ := hbx11.out.cells; clear hown' hgrow hox)
        clear d0 d1 g0 g1 HO1 HGA HNW hbx10 hz10 hss10 hor10 hg10 hc10
        refine (HB.out _ hc11 (2 + x) (by omega) (by omega)).mono ?_
        rintro e w12 ⟨p, p0, p1, rfl, g12, hc12⟩
        have hbx12 := Lib.hid (hbx11.out.grown g12 (by simp; omega))
        have hz12 := Lib.hid (hz11.out.grown g12 (by simp; omega))
        have hss12 := Lib.hid (hss11.out.same (same_grown g12 s11 (by omega)))
        have hox12 := Lib.hid (hox11.out.same (w' := w12) (fun g h => g12.block g (hox11.out.lt g h).2 (fun e => by cases e; have := hox11.out.lt c h; omega)))
        have hg12 := grown_trans hg11 g12
        have s12 := g12.size
        clear g12 hbx11 hz11 hss11 hox11 hg11 hc11
        go_wp2_with fail
        refine (HB.out _ hc12 (2 + y) (by omega) (by omega)).mono ?_
        rintro e w13 ⟨q, q0, q1, rfl, g13, hc13⟩
        have hbx13 := Lib.hid (hbx12.out.grown g13 (by simp; omega))
        have hz13 := Lib.hid (hz12.out.grown g13 (by simp; omega))
        have hss13 := Lib.hid (hss12.out.same (same_grown g13 (by omega) (by omega)))
        have hox13 := hox12.out.same (w' := w13) (fun g h => g13.block g (hox12.out.lt g h).2 (fun e => by cases e; have := hox12.out.lt c h; omega))
        have hg13 := grown_trans hg12 g13
        have s13 := g13.size
        clear g13 hbx12 hz12 hss12 hox12 hg12 hc12
        obtain ⟨P, rfl⟩ : ∃ P : Nat, p = P := ⟨p.toNat, by omega⟩
        have hP : P < lr.length := by have := HLR.out; omega
        have hcell := hox13.cell P hP
        have hfr := hox13.frozen P
        obtain ⟨hox14, g14⟩ := hox13.store P q
        have z0 : (0 : Int) ≤ (P : Int) := by omega
        have z1 : (P : Int) < (lr.length : Int) := by omega
        obtain ⟨r0, hr0⟩ : ∃ r0, lr[P] = r0 := ⟨_, rfl⟩
        rw [hr0] at hcell
        have HLS : Hid ((lr.set P q).length ≤ 10) := Lib.hid (by rw [List.length_set]; have := HLR.out; omega)
        obtain ⟨l2, hl2⟩ : ∃ l2, lr.set P q = l2 := ⟨_, rfl⟩
        rw [hl2] at hox14 HLS
        have hbx14 := Lib.hid (hbx13.out.grown g14 (by simp; omega))
        have hz14 := Lib.hid (hz13.out.grown g14 (by simp; omega))
        have hss14 := hss13.out.same (w' := w13.setCell ⟨gx, P, none⟩ (.int .i64 q)) ((Same.refl _ _ _).setCell (.inr (by show _ ≤ gx; omega)) _)
        have hg14 := grown_set hg13 (p := ⟨gx, P, none⟩) (by show w.heap.size ≤ gx; omega) (.int .i64 q)
        have hc14 := hc13.set (p := ⟨gx, P, none⟩) (by show W.heap.size ≤ gx; omega) (by show gx ≠ c; omega) (.int .i64 q)
        have s14 : (w13.setCell ⟨gx, P, none⟩ (.int .i64 q)).heap.size = w13.heap.size := by simp
        obtain ⟨⟨d0, d1⟩, g0, g1⟩ := hbx14.out.cells
        clear hr0 hl2 g14 hbx13 hz13 hss13 hox13 hg13 hc13
        have hos := hss14.same (w' := (w13.setCell ⟨gx, P, none⟩ (.int .i64 q)).alloc (.cells #[.slice (some ⟨gx, 0, none⟩) lr.length capx] 40)) (fun g _ hg => Below.heap_alloc _ _ _ (by omega))
        obtain ⟨V, o1, o2, o3, o4⟩ := hos
        have hou : OwnI ((w13.setCell ⟨gx, P, none⟩ (.int .i64 q)).alloc (.cells #[.slice (some ⟨gx, 0, none⟩) lr.length capx] 40)) (T + 1) (.slice (some ⟨gx, 0, none⟩) lr.length capx) l2 := OwnI.base (World.ownsRow.alloc hox14 _) (by omega)
        have HGX := Lib.hid (fun g h => hox14.lt g h)
        have O1 := Lib.hid o1
        have O2 := Lib.hid o2
        have O3 := Lib.hid o3
        have O4 := Lib.hid o4
        have hlla : (ll ++ [lr]).length = ll.length + 1 := by simp
        have HLA := Lib.hid hlla
        clear o1 o2 o3 o4 hss14 hox14 hlla
        go_wp2_with (at_builtin; refine wpList_append_own _ rfl _ _ 27 rfl (T + 1) 40 i0 (.slice none 0 0) 1 24 Tryz.underlying27 HI.out.1 HI.out.2.1 HI.out.2.2.1 HI.out.2.2.2 rfl (by decide) _ _ _ rfl O1.out ⟨w13.heap.size, 0, none⟩ 1 1 [.slice (some ⟨gx, 0, none⟩) lr.length capx] rfl rfl (by rw [← s14]; exact cell_one_new _ _ _) (one_slice _ _ _) (by unfold maxLen; have := HLA.out; omega) (by have := HLA.out; omega) (by simp; omega) ?_; intro v' w15 hown' hgrow _; have hbx15 := Lib.hid (box_grown hbx14.out hgrow O1.out); have hos15 := Lib.hid (OwnSS.snocV O1.out O2.out O3.out O4.out hou (fun g h => by have hh := HGX.out g h; have h2 := hgrow.size; simp at h2; exact ⟨hh.1, Nat.lt_of_lt_of_le hh.2 (by omega)⟩) hown' hgrow (by have h2 := hgrow.size; simp at h2; omega) (fun g hg => (World.ownsRow.lt hown' g hg).2)); have hz15 := Lib.hid ((hz14.out.grown (World.grownBy_alloc _ (.cells #[.slice (some ⟨gx, 0, none⟩) lr.length capx] 40) none) (by simp)).grown hgrow (fun e => by have := (World.ownsRow.lt O1.out _ e).1; omega)); have hg15 := grown_above (grown_trans hg14 (World.grownBy_alloc _ (.cells #[.slice (some ⟨gx, 0, none⟩) lr.length capx] 40) _)) hgrow (fun g h => by have := (World.ownsRow.lt O1.out g h).1; omega); have hc15 := (hc14.kept (World.grownBy_alloc _ (.cells #[.slice (some ⟨gx, 0, none⟩) lr.length capx] 40) none) (by simp) (by simp)).kept hgrow (fun g h => by have := (World.ownsRow.lt O1.out g h).1; omega) (fun h => by have := (World.ownsRow.lt O1.out c h).1; omega); obtain ⟨aw, cw, hvv⟩ := row_form hown'; clear hown' hgrow; subst hvv; clear d0 d1 g0 g1; obtain ⟨⟨d0, d1⟩, g0, g1⟩ := hbx15.out.cells)
        have hss16 : OwnSS (w15.setCell ⟨T, 1, none⟩ (.slice aw (ll.length + 1 + 1) cw)) (T + 1) (w15.setCell ⟨T, 1, none⟩ (.slice aw (ll.length + 1 + 1) cw)).heap.size (.slice aw (ll.length + 1 + 1) cw) ((ll ++ [lr]) ++ [l2]) := by
          have h := (hos15.out.same ((Same.refl _ _ _).setCell (p := ⟨T, 1, none⟩) (.inl (by simp)) (.slice aw (ll.length + 1 + 1) cw))).base (B' := T + 1) (C' := (w15.setCell ⟨T, 1, none⟩ (.slice aw (ll.length + 1 + 1) cw)).heap.size) (Nat.le_refl _) (by simp)
          rwa [HLA.out] at h
        have hz16 := hz15.out.grown (grown_cell w15 ⟨T, 1, none⟩ (.slice aw (ll.length + 1 + 1) cw)) (by simp; omega)
        have hg16 := grown_set hg15 (p := ⟨T, 1, none⟩) (by show w.heap.size ≤ T; omega) (.slice aw (ll.length + 1 + 1) cw)
        have hc16 := hc15.set (p := ⟨T, 1, none⟩) (by show W.heap.size ≤ T; omega) (by show T ≠ c; omega) (.slice aw (ll.length + 1 + 1) cw)
        go_roundw
        case rel => exact ⟨m - 1, (ll ++ [lr]) ++ [l2], _, by omega, by omega, rfl, Lib.hid ⟨by have := hL.out.1; simp; omega, fun r hr => by
          rcases List.mem_append.1 hr with h | h
          · rcases List.mem_append.1 h with h | h
            · exact hL.out.2 r h
            · simp at h; subst h; have := HLR.out; omega
          · simp at h; subst h; exact HLS.out⟩, Lib.hid hz16, Lib.hid (hbx15.out.set (rv' := .slice aw (ll.length + 1 + 1) cw)), Lib.hid hss16, hg16, hc16⟩
        case measure => simp [intOf]; omega
    · obtain rfl : m = 0 := by omega
      obtain ⟨⟨c0, c1⟩, f0, f1⟩ := hbx.out.cells
      obtain ⟨⟨d0, d1⟩, g0, g1⟩ := hz.out.cells
      obtain ⟨a, cap, rfl, -⟩ := hss.out.read
      have hzs := Lib.hid (((hz.out.set0 (cc' := 2 + x)).set (rv' := .slice a ll.length cap)).cells)
      have hg2 := grown_set (grown_set hg (p := ⟨w.heap.size, 0, none⟩) (Nat.le_refl _) (.int .i64 (2 + x))) (p := ⟨w.heap.size, 1, none⟩) (Nat.le_refl _) (.slice a ll.length cap)
      have hc2 := (hc.set (p := ⟨w.heap.size, 0, none⟩) (by show W.heap.size ≤ w.heap.size; omega) (by show w.heap.size ≠ c; omega) (.int .i64 (2 + x))).set (p := ⟨w.heap.size, 1, none⟩) (by show W.heap.size ≤ w.heap.size; omega) (by show w.heap.size ≠ c; omega) (.slice a ll.length cap)
      have hss2 := (hss.out.same (((Same.refl _ _ _).setCell (p := ⟨w.heap.size, 0, none⟩) (.inl (by show w.heap.size < T + 1; omega)) (.int .i64 (2 + x))).setCell (p := ⟨w.heap.size, 1, none⟩) (.inl (by show w.heap.size < T + 1; omega)) (.slice a ll.length cap))).base (B' := w.heap.size) (C' := ((wr.setCell ⟨w.heap.size, 0, none⟩ (.int .i64 (2 + x))).setCell ⟨w.heap.size, 1, none⟩ (.slice a ll.length cap)).heap.size) (by omega) (by simp)
      go_wp2_with fail
      exact bodyPost_ret (v := .agg #[.int .i64 (2 + x), .slice a ll.length cap]) (by simp [results, Tryz.results72, go_sem, hzs.out.1.1, hzs.out.1.2]) rfl ⟨_, _, ll, rfl, by have := hL.out.1; omega, hL.out.2, hss2, hg2, hc2⟩
end Go.Proofs.YtnbjcelfdppkcadGreat
