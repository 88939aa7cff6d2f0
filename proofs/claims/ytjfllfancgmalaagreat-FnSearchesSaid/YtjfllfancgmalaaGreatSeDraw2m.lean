/- The draw of a search, by contract. Conditions: the code is a readable slice of at most 1048576 bytes. -/
import Derived.Test.YtjfllfancgmalaaGreatSc36
import Derived.Deep.CutBlock
import Derived.Deep.DeepCutAuto
namespace Go.Proofs.YtjfllfancgmalaaGreat
open Go.RowKit

theorem six_off (w : World) (p : Nat) (b0 b1 b2 b3 b4 b5 : Value) {T : Nat} (h : T ≠ p) : ((((((w.setCell ⟨p, 0, none⟩ b0).setCell ⟨p, 1, none⟩ b1).setCell ⟨p, 2, none⟩ b2).setCell ⟨p, 3, none⟩ b3).setCell ⟨p, 4, none⟩ b4).setCell ⟨p, 5, none⟩ b5).heap[T]? = w.heap[T]? :=
  six_same (B := T) (C := T + 1) w (p := p) b0 b1 b2 b3 b4 b5 (by omega) T (Nat.le_refl _) (Nat.lt_succ_self _)
/-- The state ahead of the search: the result's box, the table and its box, the growth, the cursor. -/
structure P8 (W : World) (v : Value) (n c : Nat) (w : World) (T : Nat) (cc : Int) (u : Value) (ll : List (List Int)) (x : World) : Prop where
  z : SBI x w.heap.size (.int .i64 0) (.slice none 0 0) (.int .i64 0) (.int .i64 0) (.slice none 0 0) (.int .i64 0)
  b : BoxIs x T cc u
  s : OwnSS x (w.heap.size + 1) T u ll
  g : w.grownBy x (some c)
  cr : Cur W v n c x
  e1 : c < w.heap.size
  e2 : w.heap.size < T
  e3 : W.heap.size ≤ c
section
variable {W w x y : World} {v : Value} {n c T : Nat} {cc : Int} {u : Value} {ll : List (List Int)}
theorem P8.ltT (h : P8 W v n c w T cc u ll x) : T < x.heap.size := h.b.lt
theorem P8.lt (h : P8 W v n c w T cc u ll x) : w.heap.size + 1 ≤ x.heap.size := by have := h.b.lt; have := h.e2; omega
theorem P8.cell0 (h : P8 W v n c w T cc u ll x) : x.cell? ⟨T, 0, none⟩ = some (.int .i64 cc) := h.b.cells.1.1
theorem P8.cell1 (h : P8 W v n c w T cc u ll x) : x.cell? ⟨T, 1, none⟩ = some u := h.b.cells.1.2
theorem P8.grown (h : P8 W v n c w T cc u ll x) (hg : x.grownBy y (some c)) (hc : Cur W v n c y) : P8 W v n c w T cc u ll y :=
  ⟨h.z.eqb (hg.block _ h.z.lt (by have := h.e1; simp; omega)), h.b.grown hg (by have := h.e1; have := h.e2; simp; omega), h.s.same (same_grown hg (Nat.le_of_lt h.b.lt) (by have := h.e1; omega)), grown_trans h.g hg, hc, h.e1, h.e2, h.e3⟩
theorem P8.still (h : P8 W v n c w T cc u ll x) (hb : Below x.heap.size x y) : P8 W v n c w T cc u ll y :=
  h.grown ⟨hb.os, hb.tape, hb.output, hb.size, fun j hj _ => hb.block j hj⟩ (h.cr.kept (grown_belowN hb) (by simp) (by simp))
/-- A box for the search. -/
theorem P8.box (h : P8 W v n c w T cc u ll x) : S8 W v n c w x.heap.size 0 0 0 0 (.slice none 0 0) (.slice none 0 0) [] [] (x.alloc (.cells #[.int .i64 0, .slice none 0 0, .int .i64 0, .int .i64 0, .slice none 0 0, .int .i64 0] 29)) := by
  have hk := h.still ((Below.refl x.heap.size x).alloc (Nat.le_refl _) (.cells #[.int .i64 0, .slice none 0 0, .int .i64 0, .int .i64 0, .slice none 0 0, .int .i64 0] 29))
  exact ⟨hk.z, SBI.new x (.int .i64 0) (.slice none 0 0) (.int .i64 0) (.int .i64 0) (.slice none 0 0) (.int .i64 0), OwnSS.nil _ _ _, OwnD.nil _ _, hk.g, hk.cr, h.e1, by have := h.b.lt; have := h.e2; omega, h.e3⟩
/-- The search laid into a new box. -/
theorem P8.laid (h : P8 W v n c w T cc u ll x) {cc' m at_ t : Int} {u' g' : Value} {ll' : List (List Int)} {F' : List (Int × Int)} (ss : OwnSS x (w.heap.size + 1) x.heap.size u' ll') (dd : OwnD x (w.heap.size + 1) g' F') :
    S8 W v n c w x.heap.size cc' m at_ t u' g' ll' F' (x.alloc (.cells #[.int .i64 cc', u', .int .i64 m, .int .i64 at_, g', .int .i64 t] 29)) := by
  have hal := (Below.refl x.heap.size x).alloc (Nat.le_refl _) (.cells #[.int .i64 cc', u', .int .i64 m, .int .i64 at_, g', .int .i64 t] 29)
  have hk := h.still hal
  exact ⟨hk.z, SBI.new x _ _ _ _ _ _, (ss.same (Below.keeps hal (Nat.le_refl _))).base (Nat.le_refl _) hal.size, dd.below hal (fun q hq => (dd.lt q hq).2), hk.g, hk.cr, h.e1, by have := h.b.lt; have := h.e2; omega, h.e3⟩
end
theorem S8.lt {W w x : World} {v : Value} {n c p : Nat} {cc m at_ t : Int} {u g : Value} {ll : List (List Int)} {F : List (Int × Int)} (h : S8 W v n c w p cc m at_ t u g ll F x) : w.heap.size + 1 ≤ x.heap.size := by have := h.b.lt; have := h.e2; omega
theorem pick5i (w : World) (C : Array Value) (x1 x2 x3 x4 x5 : Int) (hC : C = #[.int .i64 x1, .int .i64 x2, .int .i64 x3, .int .i64 x4, .int .i64 x5]) (h1 : -1 ≤ x1 ∧ x1 ≤ 200) (h2 : -1 ≤ x2 ∧ x2 ≤ 200) (h3 : -1 ≤ x3 ∧ x3 ≤ 200) (h4 : -1 ≤ x4 ∧ x4 ≤ 200) (h5 : -1 ≤ x5 ∧ x5 ≤ 200) (t : TypeId) :
    ∀ i, i < 5 → ∃ y : Int, -1 ≤ y ∧ y ≤ 200 ∧ (w.alloc (.cells C t)).cell? ⟨w.heap.size, i, none⟩ = some (.int .i64 y) := by
  intro i hi
  have e : (w.alloc (.cells C t)).cell? ⟨w.heap.size, i, none⟩ = C[i]? := World.cell?_alloc_mark w C t (0, 0) i
  rw [e, hC]
  rcases (show i = 0 ∨ i = 1 ∨ i = 2 ∨ i = 3 ∨ i = 4 by omega) with rfl | rfl | rfl | rfl | rfl
  · exact ⟨_, h1.1, h1.2, rfl⟩
  · exact ⟨_, h2.1, h2.2, rfl⟩
  · exact ⟨_, h3.1, h3.2, rfl⟩
  · exact ⟨_, h4.1, h4.2, rfl⟩
  · exact ⟨_, h5.1, h5.2, rfl⟩
section
set_option maxRecDepth 20000
set_option maxHeartbeats 3200000
theorem search8_any (W : World) (v : Value) (n : Nat) (hn : n ≤ 1048576) (hcode : CodeAt W v n) (c : Nat) (w : World) (hcur : Cur W v n c w) :
    Calls Tryz.prog 25 #[.pointer (some ⟨c, 0, none⟩)] w (CurSea W v n c w) := by
  obtain ⟨i0, hi, hz0, hz1, hz2⟩ := info_parts infoDp
  have HI : Hid (_ ∧ _ ∧ _ ∧ _) := Lib.hid ⟨hi, hz0, hz1, hz2⟩
  clear hi hz0 hz1 hz2
  have HTB := Lib.hid (table_any W v n hn hcode c)
  have HBL := Lib.hid (below_any W v n hn hcode)
  have HDP := Lib.hid (dep6_any W v n hn hcode)
  have HPI := Lib.hid (pick_any W v n hn hcode)
  have hcw := hcur.lt
  have hW : W.heap.size ≤ c := by obtain ⟨_, _, h, _⟩ := hcur; exact h
  have g0 := World.grownBy_alloc w (.cells #[.int .i64 0, .slice none 0 0, .int .i64 0, .int .i64 0, .slice none 0 0, .int .i64 0] 29) none
  have hc0 := hcur.kept g0 (by simp) (by simp)
  have hz := SBI.new w (.int .i64 0) (.slice none 0 0) (.int .i64 0) (.int .i64 0) (.slice none 0 0) (.int .i64 0)
  have HZ0 := Lib.hid hz
  have HC0 := Lib.hid hc0
  clear g0 hc0 hz
  go_enter Tryz.func25, Tryz.ntmps25
  go_wp2_with fail
  refine (HTB.out _ HC0.out).mono ?_
  rintro e w2 ⟨cc, u, ll, rfl, hll, hlr, hss, g2, hc2⟩
  have s2 := g2.size
  obtain ⟨au, cu, rfl, -⟩ := hss.read
  have hp : P8 W v n c w w2.heap.size cc (.slice au ll.length cu) ll (w2.alloc (.cells #[.int .i64 cc, .slice au ll.length cu] 26)) := by
    have hal := (Below.refl w2.heap.size w2).alloc (Nat.le_refl _) (.cells #[.int .i64 cc, .slice au ll.length cu] 26)
    rw [World.size_alloc] at s2 hss
    exact ⟨(HZ0.out.eqb (g2.block _ (by simp) (by simp; omega))).kept hal, heap_alloc_new w2 _, hss.same (Below.keeps hal (Nat.le_refl _)), grown_trans (grown_trans (World.grownBy_alloc w _ _) g2) (World.grownBy_alloc w2 _ _), hc2.kept (World.grownBy_alloc w2 _ none) (by simp) (by simp), hcw, by omega, hW⟩
  clear s2 hss g2 hc2 HZ0 HC0
  have HP := Lib.hid hp
  have HNS := Lib.hid (fun (md : Int) (u : Value) w' (h : ReadSS w' u ll) => newSearch8_any cc md u ll w' h (by omega) (fun i hi => by
    have := hlr (ll.getD i []) (by rw [List.getD_eq_getElem?_getD, List.getElem?_eq_getElem hi]; exact List.getElem_mem hi)
    omega))
  have HLN : Hid (∀ md, (nsL cc ll md).length ≤ 20 ∧ ∀ r ∈ nsL cc ll md, r.length ≤ 10) := Lib.hid (fun md => by unfold nsL; split; exact ⟨by omega, hlr⟩; exact ⟨Nat.zero_le _, fun r hr => by cases hr⟩)
  obtain ⟨T, hT⟩ : ∃ T, T = w2.heap.size := ⟨_, rfl⟩
  obtain ⟨w3, hw3⟩ : ∃ w3, w3 = w2.alloc (.cells #[.int .i64 cc, .slice au ll.length cu] 26) := ⟨_, rfl⟩
  go_upto_region 2 with fail
  rw [← hw3] at HP ⊢
  rw [← hT] at HP ⊢
  clear hp hT hw3 hlr HTB
  have HPD := Lib.hid (HP.out.still (Below.refl _ _).drew)
  have t0 := HPD.out.cell0
  have t1 := HPD.out.cell1
  have HCT : Hid (c < T) := Lib.hid (by have := HP.out.e1; have := HP.out.e2; omega)
  go_cut [4] (fun s4 wx => ∃ (p : Nat) (C m : Int) (u' g' : Value) (L : List (List Int)), Hid (S8 W v n c w p C m 0 0 u' g' L [] wx ∧ L.length ≤ 20 ∧ ∀ r ∈ L, r.length ≤ 10) ∧ s4 = .pointer (some ⟨p, 0, none⟩))
  case first =>
    refine wp_region_noPanic ?_
    refine wp_region_held_drew (S := (fun w' => w'.cell? ⟨T, 0, none⟩ = some (.int .i64 cc) ∧ w'.cell? ⟨T, 1, none⟩ = some (.slice au ll.length cu))) (by kernel_rfl) ?_ (fun hHeld => ?_)
    · ((try dsimp only); exact ⟨HPD.out.cell0, HPD.out.cell1⟩)
    refine wpAnyH_take (i := 0) (v := ?_) rfl (by kernel_rfl) (by kernel_rfl) (by kernel_rfl) (fun _ _ _ h => h) (Or.inl ⟨by rfl, ?_⟩) (by assumption) ?_
    rotate_left
    · (intro w hSw; (try dsimp only at hSw); go_simp; (try with_reducible rfl))
    (try simp only [Act.put, List.getElem_toArray, List.getElem_cons_zero, List.setIfInBounds_toArray, List.set_cons_zero, List.set_cons_succ])
    refine wpAnyH_take (i := 1) (v := ?_) rfl (by kernel_rfl) (by kernel_rfl) (by kernel_rfl) (fun _ _ _ h => h) (Or.inl ⟨by rfl, ?_⟩) (by assumption) ?_
    rotate_left
    · (intro w hSw; (try dsimp only at hSw); go_simp; (try with_reducible rfl))
    (try simp only [Act.put, List.getElem_toArray, List.getElem_cons_succ, List.getElem_cons_zero, List.setIfInBounds_toArray, List.set_cons_zero, List.set_cons_succ])
    refine wpAnyH_ready (rs := [2, 7]) (by kernel_rfl) (by simp) (AllReadyH.cons rfl (fun K hK => ?_) (AllReadyH.cons rfl (fun K hK => ?_) AllReadyH.nil))
    · (first | (go_at_call 49; refine (HBL.out c _ HPD.out.cr 2 (by omega) (by omega)).mono ?_; rintro e w4 ⟨md, md0, md1, rfl, g4, hc4⟩; have HP4 := Lib.hid (HPD.out.grown g4 hc4)) | (go_simp; go_at_call 49; refine (HBL.out c _ HPD.out.cr 2 (by omega) (by omega)).mono ?_; rintro e w4 ⟨md, md0, md1, rfl, g4, hc4⟩; have HP4 := Lib.hid (HPD.out.grown g4 hc4)))
      (try (go_wp2_with fail))
      refine hK.out _ _ ?_ (fun hHeld => ?_)
      · ((try dsimp only); exact ⟨HP4.out.cell0, HP4.out.cell1⟩)
      clear hK K
      (try simp only [Act.put, List.getElem_toArray, List.getElem_cons_succ, List.getElem_cons_zero, List.setIfInBounds_toArray, List.set_cons_zero, List.set_cons_succ])
      refine wpAnyH_ready (rs := [3, 7]) (by kernel_rfl) (by simp) (AllReadyH.cons rfl (fun K hK => ?_) (AllReadyH.cons rfl (fun K hK => ?_) AllReadyH.nil))
      · (first | (go_at_call 22; refine (HNS.out md _ _ HP4.out.s.read).mono ?_; rintro e w5 ⟨u5, g5, C5, rfl, ou5, og5, hc51, hc52, b5⟩; have HP5 := Lib.hid (HP4.out.still b5); have OU5 := Lib.hid ou5; have OG5 := Lib.hid og5; obtain ⟨au5, cu5, rfl, -⟩ := OU5.out.read; obtain ⟨ag5, cg5, rfl⟩ := OG5.out.shape; unfold srcV; have HB4 : Hid (w.heap.size + 1 ≤ w4.heap.size) := Lib.hid HP4.out.lt; clear ou5 og5) | (go_simp; go_at_call 22; refine (HNS.out md _ _ HP4.out.s.read).mono ?_; rintro e w5 ⟨u5, g5, C5, rfl, ou5, og5, hc51, hc52, b5⟩; have HP5 := Lib.hid (HP4.out.still b5); have OU5 := Lib.hid ou5; have OG5 := Lib.hid og5; obtain ⟨au5, cu5, rfl, -⟩ := OU5.out.read; obtain ⟨ag5, cg5, rfl⟩ := OG5.out.shape; unfold srcV; have HB4 : Hid (w.heap.size + 1 ≤ w4.heap.size) := Lib.hid HP4.out.lt; clear ou5 og5))
        (try (go_wp2_with fail))
        refine hK.out _ _ ?_ (fun hHeld => ?_)
        · ((try dsimp only); exact ⟨HP5.out.cell0, HP5.out.cell1⟩)
        clear hK K
        (try simp only [Act.put, List.getElem_toArray, List.getElem_cons_succ, List.getElem_cons_zero, List.setIfInBounds_toArray, List.set_cons_zero, List.set_cons_succ])
        refine wpAnyH_take (i := 4) (v := ?_) rfl (by kernel_rfl) (by kernel_rfl) (by kernel_rfl) (fun _ _ _ h => h) (Or.inl ⟨by rfl, ?_⟩) (by assumption) ?_
        rotate_left
        · (intro w hSw; (try dsimp only at hSw); go_simp; (try with_reducible rfl))
        (try simp only [Act.put, List.getElem_toArray, List.getElem_cons_succ, List.getElem_cons_zero, List.setIfInBounds_toArray, List.set_cons_zero, List.set_cons_succ])
        refine wpAnyH_take (i := 5) (v := ?_) rfl (by kernel_rfl) (by kernel_rfl) (by kernel_rfl) (fun _ _ _ h => h) (Or.inl ⟨by rfl, ?_⟩) (by assumption) ?_
        rotate_left
        · (intro w hSw; (try dsimp only at hSw); go_simp; (try with_reducible rfl))
        (try simp only [Act.put, List.getElem_toArray, List.getElem_cons_succ, List.getElem_cons_zero, List.setIfInBounds_toArray, List.set_cons_zero, List.set_cons_succ])
        refine wpAnyH_take (i := 6) (v := ?_) rfl (by kernel_rfl) (by kernel_rfl) (by kernel_rfl) (fun _ _ _ h => h) (Or.inl ⟨by rfl, ?_⟩) (by assumption) ?_
        rotate_left
        · (intro w hSw; (try dsimp only at hSw); go_simp; (try with_reducible rfl))
        (try simp only [Act.put, List.getElem_toArray, List.getElem_cons_succ, List.getElem_cons_zero, List.setIfInBounds_toArray, List.set_cons_zero, List.set_cons_succ])
        refine wpAnyH_ready (rs := [7]) (by kernel_rfl) (by simp) (AllReadyH.cons rfl (fun K hK => ?_) AllReadyH.nil)
        go_simp
        refine hK.out _ _ ?_ (fun hHeld => ?_)
        · ((try dsimp only); exact ⟨cell_inB HP5.out.cell0 ((Below.refl _ _).alloc (Nat.le_refl _) _), cell_inB HP5.out.cell1 ((Below.refl _ _).alloc (Nat.le_refl _) _)⟩)
        clear hK K
        (try simp only [Act.put, List.getElem_toArray, List.getElem_cons_succ, List.getElem_cons_zero, List.setIfInBounds_toArray, List.set_cons_zero, List.set_cons_succ])
        refine wpAnyH_ready (rs := [8]) (by kernel_rfl) (by simp) (AllReadyH.cons rfl (fun K hK => ?_) AllReadyH.nil)
        go_simp
        refine hK.out _ _ ?_ (fun hHeld => ?_)
        · ((try dsimp only); exact ⟨cell_inB HP5.out.cell0 ((Below.refl _ _).alloc (Nat.le_refl _) _), cell_inB HP5.out.cell1 ((Below.refl _ _).alloc (Nat.le_refl _) _)⟩)
        clear hK K
        (try simp only [Act.put, List.getElem_toArray, List.getElem_cons_succ, List.getElem_cons_zero, List.setIfInBounds_toArray, List.set_cons_zero, List.set_cons_succ])
        refine wpAnyH_take (i := 9) (v := ?_) rfl (by kernel_rfl) (by kernel_rfl) (by kernel_rfl) (fun _ _ _ h => h) (Or.inl ⟨by rfl, ?_⟩) (by assumption) ?_
        rotate_left
        · (intro w hSw; (try dsimp only at hSw); go_simp; (try with_reducible rfl))
        (try simp only [Act.put, List.getElem_toArray, List.getElem_cons_succ, List.getElem_cons_zero, List.setIfInBounds_toArray, List.set_cons_zero, List.set_cons_succ])
        refine wpAnyH_done (by kernel_rfl) ?_ _
        refine NoPanic.normal ?_
        have HFIN := Lib.hid (HP5.out.laid (cc' := nsC cc ll md) (m := nsM cc ll md) (at_ := 0) (t := 0) (OU5.out.base HB4.out hc52) (OG5.out.base (Nat.le_trans HB4.out hc51)))
        clear hHeld
        go_wp2_with fail
        go_meet
        case rel => exact ⟨_, _, _, _, _, _, Lib.hid ⟨HFIN.out, HLN.out md⟩, rfl⟩
      · go_simp
        refine hK.out _ _ ?_ (fun hHeld => ?_)
        · ((try dsimp only); exact ⟨cell_inB HP4.out.cell0 ((Below.refl _ _).alloc (Nat.le_refl _) _), cell_inB HP4.out.cell1 ((Below.refl _ _).alloc (Nat.le_refl _) _)⟩)
        clear hK K
        (try simp only [Act.put, List.getElem_toArray, List.getElem_cons_succ, List.getElem_cons_zero, List.setIfInBounds_toArray, List.set_cons_zero, List.set_cons_succ])
        have HZ4 := Lib.hid HP4.out.box
        have HP4a := Lib.hid (HP4.out.still ((Below.refl _ _).alloc (Nat.le_refl _) (.cells #[.int .i64 0, .slice none 0 0, .int .i64 0, .int .i64 0, .slice none 0 0, .int .i64 0] 29)))
        refine wpAnyH_ready (rs := [3]) (by kernel_rfl) (by simp) (AllReadyH.cons rfl (fun K hK => ?_) AllReadyH.nil)
        (first | (go_at_call 22; refine (HNS.out md _ _ HP4a.out.s.read).mono ?_; rintro e w5 ⟨u5, g5, C5, rfl, ou5, og5, hc51, hc52, b5⟩; have HP5 := Lib.hid (HP4a.out.still b5); have OU5 := Lib.hid ou5; have OG5 := Lib.hid og5; obtain ⟨au5, cu5, rfl, -⟩ := OU5.out.read; obtain ⟨ag5, cg5, rfl⟩ := OG5.out.shape; unfold srcV; have HZ5 := Lib.hid (HZ4.out.still b5); have HB4 : Hid (w.heap.size + 1 ≤ (w4.alloc (.cells #[.int .i64 0, .slice none 0 0, .int .i64 0, .int .i64 0, .slice none 0 0, .int .i64 0] 29)).heap.size) := Lib.hid HP4a.out.lt; have HTP : Hid (w4.heap.size ≠ T) := Lib.hid (Nat.ne_of_gt HP4.out.ltT); clear ou5 og5) | (go_simp; go_at_call 22; refine (HNS.out md _ _ HP4a.out.s.read).mono ?_; rintro e w5 ⟨u5, g5, C5, rfl, ou5, og5, hc51, hc52, b5⟩; have HP5 := Lib.hid (HP4a.out.still b5); have OU5 := Lib.hid ou5; have OG5 := Lib.hid og5; obtain ⟨au5, cu5, rfl, -⟩ := OU5.out.read; obtain ⟨ag5, cg5, rfl⟩ := OG5.out.shape; unfold srcV; have HZ5 := Lib.hid (HZ4.out.still b5); have HB4 : Hid (w.heap.size + 1 ≤ (w4.alloc (.cells #[.int .i64 0, .slice none 0 0, .int .i64 0, .int .i64 0, .slice none 0 0, .int .i64 0] 29)).heap.size) := Lib.hid HP4a.out.lt; have HTP : Hid (w4.heap.size ≠ T) := Lib.hid (Nat.ne_of_gt HP4.out.ltT); clear ou5 og5))
        (try (go_wp2_with fail))
        refine hK.out _ _ ?_ (fun hHeld => ?_)
        · ((try dsimp only); exact ⟨HP5.out.cell0, HP5.out.cell1⟩)
        clear hK K
        (try simp only [Act.put, List.getElem_toArray, List.getElem_cons_succ, List.getElem_cons_zero, List.setIfInBounds_toArray, List.set_cons_zero, List.set_cons_succ])
        refine wpAnyH_take (i := 4) (v := ?_) rfl (by kernel_rfl) (by kernel_rfl) (by kernel_rfl) (fun _ _ _ h => h) (Or.inl ⟨by rfl, ?_⟩) (by assumption) ?_
        rotate_left
        · (intro w hSw; (try dsimp only at hSw); go_simp; (try with_reducible rfl))
        (try simp only [Act.put, List.getElem_toArray, List.getElem_cons_succ, List.getElem_cons_zero, List.setIfInBounds_toArray, List.set_cons_zero, List.set_cons_succ])
        refine wpAnyH_take (i := 5) (v := ?_) rfl (by kernel_rfl) (by kernel_rfl) (by kernel_rfl) (fun _ _ _ h => h) (Or.inl ⟨by rfl, ?_⟩) (by assumption) ?_
        rotate_left
        · (intro w hSw; (try dsimp only at hSw); go_simp; (try with_reducible rfl))
        (try simp only [Act.put, List.getElem_toArray, List.getElem_cons_succ, List.getElem_cons_zero, List.setIfInBounds_toArray, List.set_cons_zero, List.set_cons_succ])
        refine wpAnyH_take (i := 6) (v := ?_) rfl (by kernel_rfl) (by kernel_rfl) (by kernel_rfl) (fun _ _ _ h => h) (Or.inl ⟨by rfl, ?_⟩) (by assumption) ?_
        rotate_left
        · (intro w hSw; (try dsimp only at hSw); go_simp; (try with_reducible rfl))
        (try simp only [Act.put, List.getElem_toArray, List.getElem_cons_succ, List.getElem_cons_zero, List.setIfInBounds_toArray, List.set_cons_zero, List.set_cons_succ])
        obtain ⟨⟨d0, d1, d2, d3, d4, d5⟩, f0, f1, f2, f3, f4, f5⟩ := HZ5.out.b.cells
        refine wpAnyH_ready (rs := [8]) (by kernel_rfl) (by simp) (AllReadyH.cons rfl (fun K hK => ?_) AllReadyH.nil)
        go_simp
        refine hK.out _ _ ?_ (fun hHeld => ?_)
        · ((try dsimp only); exact ⟨cell_eqb HP5.out.cell0 (six_off _ _ _ _ _ _ _ _ (Ne.symm (HTP.out))), cell_eqb HP5.out.cell1 (six_off _ _ _ _ _ _ _ _ (Ne.symm (HTP.out)))⟩)
        clear hK K
        (try simp only [Act.put, List.getElem_toArray, List.getElem_cons_succ, List.getElem_cons_zero, List.setIfInBounds_toArray, List.set_cons_zero, List.set_cons_succ])
        refine wpAnyH_take (i := 9) (v := ?_) rfl (by kernel_rfl) (by kernel_rfl) (by kernel_rfl) (fun _ _ _ h => h) (Or.inl ⟨by rfl, ?_⟩) (by assumption) ?_
        rotate_left
        · (intro w hSw; (try dsimp only at hSw); go_simp; (try with_reducible rfl))
        (try simp only [Act.put, List.getElem_toArray, List.getElem_cons_succ, List.getElem_cons_zero, List.setIfInBounds_toArray, List.set_cons_zero, List.set_cons_succ])
        refine wpAnyH_done (by kernel_rfl) ?_ _
        refine NoPanic.normal ?_
        have HFIN := Lib.hid (HZ5.out.put (cc' := nsC cc ll md) (m' := nsM cc ll md) (at' := 0) (t' := 0) HZ5.out.b.six (six_grown _ _ _ _ _ _ _ _) (OU5.out.base HB4.out hc52) (OG5.out.base (Nat.le_trans HB4.out hc51)))
        clear hHeld d0 d1 d2 d3 d4 d5 f0 f1 f2 f3 f4 f5
        go_wp2_with fail
        go_meet
        case rel => exact ⟨_, _, _, _, _, _, Lib.hid ⟨HFIN.out, HLN.out md⟩, rfl⟩
    · go_simp
      refine hK.out _ _ ?_ (fun hHeld => ?_)
      · ((try dsimp only); exact ⟨cell_inB HPD.out.cell0 ((Below.refl _ _).alloc (Nat.le_refl _) _), cell_inB HPD.out.cell1 ((Below.refl _ _).alloc (Nat.le_refl _) _)⟩)
      clear hK K
      (try simp only [Act.put, List.getElem_toArray, List.getElem_cons_succ, List.getElem_cons_zero, List.setIfInBounds_toArray, List.set_cons_zero, List.set_cons_succ])
      have HZ3 : Hid (S8 W v n c w w3.heap.size 0 0 0 0 (.slice none 0 0) (.slice none 0 0) [] [] (w3.drew.alloc (.cells #[.int .i64 0, .slice none 0 0, .int .i64 0, .int .i64 0, .slice none 0 0, .int .i64 0] 29))) := Lib.hid HPD.out.box
      have HP3 := Lib.hid (HPD.out.still ((Below.refl _ _).alloc (Nat.le_refl _) (.cells #[.int .i64 0, .slice none 0 0, .int .i64 0, .int .i64 0, .slice none 0 0, .int .i64 0] 29)))
      refine wpAnyH_ready (rs := [2]) (by kernel_rfl) (by simp) (AllReadyH.cons rfl (fun K hK => ?_) AllReadyH.nil)
      (first | (go_at_call 49; refine (HBL.out c _ HZ3.out.cr 2 (by omega) (by omega)).mono ?_; rintro e w4 ⟨md, md0, md1, rfl, g4, hc4⟩; have HZ4 := Lib.hid (HZ3.out.grown g4 hc4); have HP4 := Lib.hid (HP3.out.grown g4 hc4)) | (go_simp; go_at_call 49; refine (HBL.out c _ HZ3.out.cr 2 (by omega) (by omega)).mono ?_; rintro e w4 ⟨md, md0, md1, rfl, g4, hc4⟩; have HZ4 := Lib.hid (HZ3.out.grown g4 hc4); have HP4 := Lib.hid (HP3.out.grown g4 hc4)))
      (try (go_wp2_with fail))
      refine hK.out _ _ ?_ (fun hHeld => ?_)
      · ((try dsimp only); exact ⟨HP4.out.cell0, HP4.out.cell1⟩)
      clear hK K
      (try simp only [Act.put, List.getElem_toArray, List.getElem_cons_succ, List.getElem_cons_zero, List.setIfInBounds_toArray, List.set_cons_zero, List.set_cons_succ])
      refine wpAnyH_ready (rs := [3]) (by kernel_rfl) (by simp) (AllReadyH.cons rfl (fun K hK => ?_) AllReadyH.nil)
      (first | (go_at_call 22; refine (HNS.out md _ _ HP4.out.s.read).mono ?_; rintro e w5 ⟨u5, g5, C5, rfl, ou5, og5, hc51, hc52, b5⟩; have HP5 := Lib.hid (HP4.out.still b5); have OU5 := Lib.hid ou5; have OG5 := Lib.hid og5; obtain ⟨au5, cu5, rfl, -⟩ := OU5.out.read; obtain ⟨ag5, cg5, rfl⟩ := OG5.out.shape; unfold srcV; have HZ5 := Lib.hid (HZ4.out.still b5); have HB4 : Hid (w.heap.size + 1 ≤ w4.heap.size) := Lib.hid HP4.out.lt; have HTP : Hid (w3.heap.size ≠ T) := Lib.hid (Nat.ne_of_gt HPD.out.ltT); clear ou5 og5) | (go_simp; go_at_call 22; refine (HNS.out md _ _ HP4.out.s.read).mono ?_; rintro e w5 ⟨u5, g5, C5, rfl, ou5, og5, hc51, hc52, b5⟩; have HP5 := Lib.hid (HP4.out.still b5); have OU5 := Lib.hid ou5; have OG5 := Lib.hid og5; obtain ⟨au5, cu5, rfl, -⟩ := OU5.out.read; obtain ⟨ag5, cg5, rfl⟩ := OG5.out.shape; unfold srcV; have HZ5 := Lib.hid (HZ4.out.still b5); have HB4 : Hid (w.heap.size + 1 ≤ w4.heap.size) := Lib.hid HP4.out.lt; have HTP : Hid (w3.heap.size ≠ T) := Lib.hid (Nat.ne_of_gt HPD.out.ltT); clear ou5 og5))
      (try (go_wp2_with fail))
      refine hK.out _ _ ?_ (fun hHeld => ?_)
      · ((try dsimp only); exact ⟨HP5.out.cell0, HP5.out.cell1⟩)
      clear hK K
      (try simp only [Act.put, List.getElem_toArray, List.getElem_cons_succ, List.getElem_cons_zero, List.setIfInBounds_toArray, List.set_cons_zero, List.set_cons_succ])
      refine wpAnyH_take (i := 4) (v := ?_) rfl (by kernel_rfl) (by kernel_rfl) (by kernel_rfl) (fun _ _ _ h => h) (Or.inl ⟨by rfl, ?_⟩) (by assumption) ?_
      rotate_left
      · (intro w hSw; (try dsimp only at hSw); go_simp; (try with_reducible rfl))
      (try simp only [Act.put, List.getElem_toArray, List.getElem_cons_succ, List.getElem_cons_zero, List.setIfInBounds_toArray, List.set_cons_zero, List.set_cons_succ])
      refine wpAnyH_take (i := 5) (v := ?_) rfl (by kernel_rfl) (by kernel_rfl) (by kernel_rfl) (fun _ _ _ h => h) (Or.inl ⟨by rfl, ?_⟩) (by assumption) ?_
      rotate_left
      · (intro w hSw; (try dsimp only at hSw); go_simp; (try with_reducible rfl))
      (try simp only [Act.put, List.getElem_toArray, List.getElem_cons_succ, List.getElem_cons_zero, List.setIfInBounds_toArray, List.set_cons_zero, List.set_cons_succ])
      refine wpAnyH_take (i := 6) (v := ?_) rfl (by kernel_rfl) (by kernel_rfl) (by kernel_rfl) (fun _ _ _ h => h) (Or.inl ⟨by rfl, ?_⟩) (by assumption) ?_
      rotate_left
      · (intro w hSw; (try dsimp only at hSw); go_simp; (try with_reducible rfl))
      (try simp only [Act.put, List.getElem_toArray, List.getElem_cons_succ, List.getElem_cons_zero, List.setIfInBounds_toArray, List.set_cons_zero, List.set_cons_succ])
      obtain ⟨⟨d0, d1, d2, d3, d4, d5⟩, f0, f1, f2, f3, f4, f5⟩ := HZ5.out.b.cells
      refine wpAnyH_ready (rs := [8]) (by kernel_rfl) (by simp) (AllReadyH.cons rfl (fun K hK => ?_) AllReadyH.nil)
      go_simp
      refine hK.out _ _ ?_ (fun hHeld => ?_)
      · ((try dsimp only); exact ⟨cell_eqb HP5.out.cell0 (six_off _ _ _ _ _ _ _ _ (Ne.symm (HTP.out))), cell_eqb HP5.out.cell1 (six_off _ _ _ _ _ _ _ _ (Ne.symm (HTP.out)))⟩)
      clear hK K
      (try simp only [Act.put, List.getElem_toArray, List.getElem_cons_succ, List.getElem_cons_zero, List.setIfInBounds_toArray, List.set_cons_zero, List.set_cons_succ])
      refine wpAnyH_take (i := 9) (v := ?_) rfl (by kernel_rfl) (by kernel_rfl) (by kernel_rfl) (fun _ _ _ h => h) (Or.inl ⟨by rfl, ?_⟩) (by assumption) ?_
      rotate_left
      · (intro w hSw; (try dsimp only at hSw); go_simp; (try with_reducible rfl))
      (try simp only [Act.put, List.getElem_toArray, List.getElem_cons_succ, List.getElem_cons_zero, List.setIfInBounds_toArray, List.set_cons_zero, List.set_cons_succ])
      refine wpAnyH_done (by kernel_rfl) ?_ _
      refine NoPanic.normal ?_
      have HFIN := Lib.hid (HZ5.out.put (cc' := nsC cc ll md) (m' := nsM cc ll md) (at' := 0) (t' := 0) HZ5.out.b.six (six_grown _ _ _ _ _ _ _ _) (OU5.out.base HB4.out hc52) (OG5.out.base (Nat.le_trans HB4.out hc51)))
      clear hHeld d0 d1 d2 d3 d4 d5 f0 f1 f2 f3 f4 f5
      go_wp2_with fail
      go_meet
      case rel => exact ⟨_, _, _, _, _, _, Lib.hid ⟨HFIN.out, HLN.out md⟩, rfl⟩
  case rest =>
    clear HP HPD t0 t1 HCT HNS
    obtain ⟨p, C, m, u', g', L, HS, rfl⟩ := hcut
    obtain ⟨au', cu', rfl, -⟩ := HS.out.1.s.read
    obtain ⟨ag', cg', rfl⟩ := HS.out.1.d.shape
    go_upto_region 3 with fail
    have HSD := Lib.hid HS.out.1.drew
    have HRN := Lib.hid (fun (bd : Int) (u g : Value) w' (h1 : ReadSS w' u L) (h2 : ReadD w' g []) => runSearch8_any C m 0 0 bd u g L [] w' h1 (by have := HS.out.2.1; omega) (fun i hi => by
      have := HS.out.2.2 (L.getD i []) (by rw [List.getD_eq_getElem?_getD, List.getElem?_eq_getElem hi]; exact List.getElem_mem hi)
      omega) h2 (Nat.zero_le _))
    have HL := Lib.hid HS.out.2
    obtain ⟨⟨x0, x1, x2, x3, x4, x5⟩, -⟩ := HSD.out.b.cells
    go_cut [] (fun wx => ∃ (AT TT : Int) (u' g' : Value) (FF : List (Int × Int)), FF.length ≤ 170 ∧ Hid (S8 W v n c w p C m AT TT u' g' L FF wx))
    case first =>
      refine wp_region_noPanic ?_
      refine wp_region_held_drew (S := (fun _ => True)) (by kernel_rfl) ?_ (fun hHeld => ?_)
      · ((try dsimp only); all_goals trivial)
      refine wpAnyH_take (i := 1) (v := ?_) rfl (by kernel_rfl) (by kernel_rfl) (by kernel_rfl) (fun _ _ _ h => h) (Or.inl ⟨by rfl, ?_⟩) (by assumption) ?_
      rotate_left
      · (intro w hSw; (try dsimp only at hSw); go_simp; (try with_reducible rfl))
      (try simp only [Act.put, List.getElem_toArray, List.getElem_cons_succ, List.getElem_cons_zero, List.setIfInBounds_toArray, List.set_cons_zero, List.set_cons_succ])
      refine wpAnyH_ready (rs := [0, 2]) (by kernel_rfl) (by simp) (AllReadyH.cons rfl (fun K hK => ?_) (AllReadyH.cons rfl (fun K hK => ?_) AllReadyH.nil))
      · go_simp
        refine hK.out _ _ ?_ (fun hHeld => ?_)
        · ((try dsimp only); all_goals trivial)
        clear hK K
        (try simp only [Act.put, List.getElem_toArray, List.getElem_cons_succ, List.getElem_cons_zero, List.setIfInBounds_toArray, List.set_cons_zero, List.set_cons_succ])
        refine wpAnyH_ready (rs := [2]) (by kernel_rfl) (by simp) (AllReadyH.cons rfl (fun K hK => ?_) AllReadyH.nil)
        (first | (go_at_call 49; refine (HBL.out c _ HSD.out.cr 30 (by omega) (by omega)).mono ?_; rintro e w7 ⟨bd, bd0, bd1, rfl, g7, hc7⟩; have HS7 := Lib.hid (HSD.out.grown g7 hc7); skip) | (go_simp; go_at_call 49; refine (HBL.out c _ HSD.out.cr 30 (by omega) (by omega)).mono ?_; rintro e w7 ⟨bd, bd0, bd1, rfl, g7, hc7⟩; have HS7 := Lib.hid (HSD.out.grown g7 hc7); skip))
        (try (go_wp2_with fail))
        refine hK.out _ _ ?_ (fun hHeld => ?_)
        · ((try dsimp only); all_goals trivial)
        clear hK K
        (try simp only [Act.put, List.getElem_toArray, List.getElem_cons_succ, List.getElem_cons_zero, List.setIfInBounds_toArray, List.set_cons_zero, List.set_cons_succ])
        refine wpAnyH_ready (rs := [3]) (by kernel_rfl) (by simp) (AllReadyH.cons rfl (fun K hK => ?_) AllReadyH.nil)
        (first | (go_at_call 8; refine (HRN.out bd _ _ _ HS7.out.s.read HS7.out.d.read).mono ?_; rintro e w8 ⟨u8, g8, rfl, ou8, og8, b8⟩; have HS8 := Lib.hid (HS7.out.still b8); have OU8 := Lib.hid ou8; have OG8 := Lib.hid og8; obtain ⟨au8, cu8, rfl, -⟩ := OU8.out.read; obtain ⟨ag8, cg8, rfl⟩ := OG8.out.shape; obtain ⟨⟨d0, d1, d2, d3, d4, d5⟩, f0, f1, f2, f3, f4, f5⟩ := HS8.out.b.cells; unfold srcV; have HB8 : Hid (w.heap.size + 1 ≤ w7.heap.size) := Lib.hid HS7.out.lt; clear ou8 og8) | (go_simp; go_at_call 8; refine (HRN.out bd _ _ _ HS7.out.s.read HS7.out.d.read).mono ?_; rintro e w8 ⟨u8, g8, rfl, ou8, og8, b8⟩; have HS8 := Lib.hid (HS7.out.still b8); have OU8 := Lib.hid ou8; have OG8 := Lib.hid og8; obtain ⟨au8, cu8, rfl, -⟩ := OU8.out.read; obtain ⟨ag8, cg8, rfl⟩ := OG8.out.shape; obtain ⟨⟨d0, d1, d2, d3, d4, d5⟩, f0, f1, f2, f3, f4, f5⟩ := HS8.out.b.cells; unfold srcV; have HB8 : Hid (w.heap.size + 1 ≤ w7.heap.size) := Lib.hid HS7.out.lt; clear ou8 og8))
        (try (go_wp2_with fail))
        refine hK.out _ _ ?_ (fun hHeld => ?_)
        · ((try dsimp only); all_goals trivial)
        clear hK K
        (try simp only [Act.put, List.getElem_toArray, List.getElem_cons_succ, List.getElem_cons_zero, List.setIfInBounds_toArray, List.set_cons_zero, List.set_cons_succ])
        refine wpAnyH_ready (rs := [4]) (by kernel_rfl) (by simp) (AllReadyH.cons rfl (fun K hK => ?_) AllReadyH.nil)
        go_simp
        refine hK.out _ _ ?_ (fun hHeld => ?_)
        · ((try dsimp only); all_goals trivial)
        clear hK K
        (try simp only [Act.put, List.getElem_toArray, List.getElem_cons_succ, List.getElem_cons_zero, List.setIfInBounds_toArray, List.set_cons_zero, List.set_cons_succ])
        refine wpAnyH_done (by kernel_rfl) ?_ _
        refine NoPanic.normal ?_
        have HFIN := Lib.hid (HS8.out.put (cc' := C) (m' := m) (at' := rsA C L m 0 [] 0 bd) (t' := rsT C L m 0 [] 0 bd) HS8.out.b.six (six_grown _ _ _ _ _ _ _ _) (OU8.out.base HB8.out (Nat.le_refl _)) (OG8.out.base HB8.out))
        clear hHeld d0 d1 d2 d3 d4 d5 f0 f1 f2 f3 f4 f5
        go_wp2_with fail
        go_meet
        case rel => exact ⟨_, _, _, _, _, rsF_small _ _ _ _ _ _ _ (Nat.zero_le _), HFIN⟩
      · (first | (go_at_call 49; refine (HBL.out c _ HSD.out.cr 30 (by omega) (by omega)).mono ?_; rintro e w7 ⟨bd, bd0, bd1, rfl, g7, hc7⟩; have HS7 := Lib.hid (HSD.out.grown g7 hc7); obtain ⟨⟨x0, x1, x2, x3, x4, x5⟩, -⟩ := HS7.out.b.cells) | (go_simp; go_at_call 49; refine (HBL.out c _ HSD.out.cr 30 (by omega) (by omega)).mono ?_; rintro e w7 ⟨bd, bd0, bd1, rfl, g7, hc7⟩; have HS7 := Lib.hid (HSD.out.grown g7 hc7); obtain ⟨⟨x0, x1, x2, x3, x4, x5⟩, -⟩ := HS7.out.b.cells))
        (try (go_wp2_with fail))
        refine hK.out _ _ ?_ (fun hHeld => ?_)
        · ((try dsimp only); all_goals trivial)
        clear hK K
        (try simp only [Act.put, List.getElem_toArray, List.getElem_cons_succ, List.getElem_cons_zero, List.setIfInBounds_toArray, List.set_cons_zero, List.set_cons_succ])
        refine wpAnyH_ready (rs := [0]) (by kernel_rfl) (by simp) (AllReadyH.cons rfl (fun K hK => ?_) AllReadyH.nil)
        go_simp
        refine hK.out _ _ ?_ (fun hHeld => ?_)
        · ((try dsimp only); all_goals trivial)
        clear hK K
        (try simp only [Act.put, List.getElem_toArray, List.getElem_cons_succ, List.getElem_cons_zero, List.setIfInBounds_toArray, List.set_cons_zero, List.set_cons_succ])
        clear x0 x1 x2 x3 x4 x5
        refine wpAnyH_ready (rs := [3]) (by kernel_rfl) (by simp) (AllReadyH.cons rfl (fun K hK => ?_) AllReadyH.nil)
        (first | (go_at_call 8; refine (HRN.out bd _ _ _ HS7.out.s.read HS7.out.d.read).mono ?_; rintro e w8 ⟨u8, g8, rfl, ou8, og8, b8⟩; have HS8 := Lib.hid (HS7.out.still b8); have OU8 := Lib.hid ou8; have OG8 := Lib.hid og8; obtain ⟨au8, cu8, rfl, -⟩ := OU8.out.read; obtain ⟨ag8, cg8, rfl⟩ := OG8.out.shape; obtain ⟨⟨d0, d1, d2, d3, d4, d5⟩, f0, f1, f2, f3, f4, f5⟩ := HS8.out.b.cells; unfold srcV; have HB8 : Hid (w.heap.size + 1 ≤ w7.heap.size) := Lib.hid HS7.out.lt; clear ou8 og8) | (go_simp; go_at_call 8; refine (HRN.out bd _ _ _ HS7.out.s.read HS7.out.d.read).mono ?_; rintro e w8 ⟨u8, g8, rfl, ou8, og8, b8⟩; have HS8 := Lib.hid (HS7.out.still b8); have OU8 := Lib.hid ou8; have OG8 := Lib.hid og8; obtain ⟨au8, cu8, rfl, -⟩ := OU8.out.read; obtain ⟨ag8, cg8, rfl⟩ := OG8.out.shape; obtain ⟨⟨d0, d1, d2, d3, d4, d5⟩, f0, f1, f2, f3, f4, f5⟩ := HS8.out.b.cells; unfold srcV; have HB8 : Hid (w.heap.size + 1 ≤ w7.heap.size) := Lib.hid HS7.out.lt; clear ou8 og8))
        (try (go_wp2_with fail))
        refine hK.out _ _ ?_ (fun hHeld => ?_)
        · ((try dsimp only); all_goals trivial)
        clear hK K
        (try simp only [Act.put, List.getElem_toArray, List.getElem_cons_succ, List.getElem_cons_zero, List.setIfInBounds_toArray, List.set_cons_zero, List.set_cons_succ])
        refine wpAnyH_ready (rs := [4]) (by kernel_rfl) (by simp) (AllReadyH.cons rfl (fun K hK => ?_) AllReadyH.nil)
        go_simp
        refine hK.out _ _ ?_ (fun hHeld => ?_)
        · ((try dsimp only); all_goals trivial)
        clear hK K
        (try simp only [Act.put, List.getElem_toArray, List.getElem_cons_succ, List.getElem_cons_zero, List.setIfInBounds_toArray, List.set_cons_zero, List.set_cons_succ])
        refine wpAnyH_done (by kernel_rfl) ?_ _
        refine NoPanic.normal ?_
        have HFIN := Lib.hid (HS8.out.put (cc' := C) (m' := m) (at' := rsA C L m 0 [] 0 bd) (t' := rsT C L m 0 [] 0 bd) HS8.out.b.six (six_grown _ _ _ _ _ _ _ _) (OU8.out.base HB8.out (Nat.le_refl _)) (OG8.out.base HB8.out))
        clear hHeld d0 d1 d2 d3 d4 d5 f0 f1 f2 f3 f4 f5
        go_wp2_with fail
        go_meet
        case rel => exact ⟨_, _, _, _, _, rsF_small _ _ _ _ _ _ _ (Nat.zero_le _), HFIN⟩
    case rest =>
      clear HS HSD HRN x0 x1 x2 x3 x4 x5
      obtain ⟨AT, TT, u6, g6, FF, hFF, HS6⟩ := hcut
      obtain ⟨au6, cu6, rfl, -⟩ := HS6.out.s.read
      obtain ⟨ag6, cg6, rfl⟩ := HS6.out.d.shape
      go_wp2_with fail
      refine (HBL.out c _ HS6.out.cr 14 (by omega) (by omega)).mono ?_
      rintro e w9 ⟨sw, sw0, sw1, rfl, g9, hc9⟩
      have HS9 := Lib.hid (HS6.out.grown g9 hc9)
      clear g9 hc9 HS6
      have hsw : sw = 0 ∨ sw = 1 ∨ sw = 2 ∨ (sw ≠ 0 ∧ sw ≠ 1 ∧ sw ≠ 2) := by omega
      rcases hsw with rfl | rfl | rfl | ⟨h0, h1, h2⟩
      · have HBA := Lib.hid (HS9.out.still ((Below.refl _ _).alloc (Nat.le_refl _) (.cells #[.int .i64 (-1), .int .i64 0, .int .i64 5, .int .i64 160, .int .i64 161] 3)))
        go_wp2_with fail
        refine (HPI.out c _ HBA.out.cr w9.heap.size 5 (-1) 200 (by omega) (by omega) (by have := HS9.out.cr.lt; omega) (by simp) (pick5i w9 _ _ _ _ _ _ rfl (by omega) (by omega) (by omega) (by omega) (by omega) _)).mono ?_
        rintro e wa ⟨ya, ya0, ya1, rfl, ga, hca⟩
        have HSA := Lib.hid (HBA.out.grown ga hca)
        obtain ⟨⟨x0, x1, x2, x3, x4, x5⟩, k0, k1, k2, k3, k4, k5⟩ := HSA.out.b.cells
        have HFD := Lib.hid (HSA.out.put (at' := ya) HSA.out.b.one3 (grown_cell wa ⟨p, 3, none⟩ (.int .i64 ya)) HSA.out.s HSA.out.d)
        go_upto_region 11 with fail
        clear x0 x1 x2 x3 x4 x5 k0 k1 k2 k3 k4 k5 ga hca
        obtain ⟨⟨n0, n1, n2, n3, n4, n5⟩, -⟩ := HFD.out.b.cells
        obtain ⟨⟨r0, r1, r2, r3, r4, r5⟩, s0, s1, s2, s3, s4, s5⟩ := HFD.out.z.cells
        go_wp2_with fail
        exact bodyPost_ret (v := srcV C (.slice au6 L.length cu6) m ya (.slice ag6 FF.length cg6) TT) (by simp [srcV, results, Tryz.results25, go_sem, r0, r1, r2, r3, r4, r5]) rfl ⟨_, _, _, _, _, _, _, _, rfl, HL.out.1, HL.out.2, by omega, HFD.out.fin _ _ _ _ _ _⟩
      · go_upto_region 8 with fail
        have HSE := Lib.hid HS9.out.drew
        obtain ⟨⟨-, -, -, -, n4, -⟩, -⟩ := HSE.out.b.cells
        refine wp_region_noPanic ?_
        refine wp_region_held_drew (S := (fun _ => True)) (by kernel_rfl) ?_ (fun hHeld => ?_)
        · ((try dsimp only); all_goals trivial)
        refine wpAnyH_take (i := 0) (v := ?_) rfl (by kernel_rfl) (by kernel_rfl) (by kernel_rfl) (fun _ _ _ h => h) (Or.inl ⟨by rfl, ?_⟩) (by assumption) ?_
        rotate_left
        · (intro w hSw; (try dsimp only at hSw); go_simp; (try with_reducible rfl))
        (try simp only [Act.put, List.getElem_toArray, List.getElem_cons_zero, List.setIfInBounds_toArray, List.set_cons_zero, List.set_cons_succ])
        refine wpAnyH_take (i := 2) (v := ?_) rfl (by kernel_rfl) (by kernel_rfl) (by kernel_rfl) (fun _ _ _ h => h) (Or.inl ⟨by rfl, ?_⟩) (by assumption) ?_
        rotate_left
        · (intro w hSw; (try dsimp only at hSw); go_simp; (try with_reducible rfl))
        (try simp only [Act.put, List.getElem_toArray, List.getElem_cons_succ, List.getElem_cons_zero, List.setIfInBounds_toArray, List.set_cons_zero, List.set_cons_succ])
        refine wpAnyH_ready (rs := [1, 3]) (by kernel_rfl) (by simp) (AllReadyH.cons rfl (fun K hK => ?_) (AllReadyH.cons rfl (fun K hK => ?_) AllReadyH.nil))
        · go_simp
          refine hK.out _ _ ?_ (fun hHeld => ?_)
          · ((try dsimp only); all_goals trivial)
          clear hK K
          (try simp only [Act.put, List.getElem_toArray, List.getElem_cons_succ, List.getElem_cons_zero, List.setIfInBounds_toArray, List.set_cons_zero, List.set_cons_succ])
          refine wpAnyH_ready (rs := [3]) (by kernel_rfl) (by simp) (AllReadyH.cons rfl (fun K hK => ?_) AllReadyH.nil)
          (first | (go_at_call 50; refine (HDP.out c _ HSE.out.cr 3 (by omega) (by omega)).mono ?_; rintro e wa ⟨dl, dr, dl0, dl1, dr0, dr1, rfl, ga, hca⟩; have HSA := Lib.hid (HSE.out.grown ga hca); have HSB := Lib.hid (HSA.out.still ((Below.refl _ _).alloc (Nat.le_refl _) (.cells #[.int .i64 dl, .int .i64 dr] 38))); obtain ⟨⟨-, -, -, -, x4, -⟩, -⟩ := HSA.out.b.cells; obtain ⟨⟨-, -, -, -, z4, -⟩, -⟩ := HSB.out.b.cells) | (go_simp; go_at_call 50; refine (HDP.out c _ HSE.out.cr 3 (by omega) (by omega)).mono ?_; rintro e wa ⟨dl, dr, dl0, dl1, dr0, dr1, rfl, ga, hca⟩; have HSA := Lib.hid (HSE.out.grown ga hca); have HSB := Lib.hid (HSA.out.still ((Below.refl _ _).alloc (Nat.le_refl _) (.cells #[.int .i64 dl, .int .i64 dr] 38))); obtain ⟨⟨-, -, -, -, x4, -⟩, -⟩ := HSA.out.b.cells; obtain ⟨⟨-, -, -, -, z4, -⟩, -⟩ := HSB.out.b.cells))
          (try (go_wp2_with fail))
          refine hK.out _ _ ?_ (fun hHeld => ?_)
          · ((try dsimp only); all_goals trivial)
          clear hK K
          (try simp only [Act.put, List.getElem_toArray, List.getElem_cons_succ, List.getElem_cons_zero, List.setIfInBounds_toArray, List.set_cons_zero, List.set_cons_succ])
          refine wpAnyH_ready (rs := [4]) (by kernel_rfl) (by simp) (AllReadyH.cons rfl (fun K hK => ?_) AllReadyH.nil)
          go_simp
          refine hK.out _ _ ?_ (fun hHeld => ?_)
          · ((try dsimp only); all_goals trivial)
          clear hK K
          (try simp only [Act.put, List.getElem_toArray, List.getElem_cons_succ, List.getElem_cons_zero, List.setIfInBounds_toArray, List.set_cons_zero, List.set_cons_succ])
          refine wpAnyH_ready (rs := [5]) (by kernel_rfl) (by simp) (AllReadyH.cons rfl (fun K hK => ?_) AllReadyH.nil)
          (refine step_append_all (by rfl) _ _ _ (by rfl) (w.heap.size + 1) 38 i0 (.agg #[.int .i64 0, .int .i64 0]) 2 16 Tryz.underlying27 HI.out.1 HI.out.2.1 HI.out.2.2.1 HI.out.2.2.2 rfl (by decide) _ _ _ (by rfl) HSB.out.d (some ⟨wa.heap.size, 0, none⟩) 1 1 [.int .i64 dl, .int .i64 dr] (by rfl) (by rfl) (fun j k hu => ⟨_, rfl, cell_two_new _ _ _ _ j k hu⟩) (two_i64 _ _) (by unfold maxLen; omega) (by omega) HSB.out.lt ?_; intro vb wb hownb hgrowb; obtain ⟨ab, cb, hb⟩ := (OwnD.snoc hownb).shape; rw [List.length_append, List.length_singleton] at hb; subst hb; have HNX := Lib.hid (HSB.out.nxg hgrowb); have HFD := Lib.hid (HSB.out.app hgrowb (OwnD.snoc hownb)); clear hownb hgrowb; obtain ⟨⟨y0, y1, y2, y3, y4, y5⟩, k0, k1, k2, k3, k4, k5⟩ := HNX.out.cells)
          (try (go_wp2_with fail))
          refine hK.out _ _ ?_ (fun hHeld => ?_)
          · ((try dsimp only); all_goals trivial)
          clear hK K
          (try simp only [Act.put, List.getElem_toArray, List.getElem_cons_succ, List.getElem_cons_zero, List.setIfInBounds_toArray, List.set_cons_zero, List.set_cons_succ])
          refine wpAnyH_take (i := 6) (v := ?_) rfl (by kernel_rfl) (by kernel_rfl) (by kernel_rfl) (fun _ _ _ h => h) (Or.inl ⟨by rfl, ?_⟩) (by assumption) ?_
          rotate_left
          · (intro w hSw; (try dsimp only at hSw); go_simp; (try with_reducible rfl))
          (try simp only [Act.put, List.getElem_toArray, List.getElem_cons_succ, List.getElem_cons_zero, List.setIfInBounds_toArray, List.set_cons_zero, List.set_cons_succ])
          refine wpAnyH_ready (rs := [7]) (by kernel_rfl) (by simp) (AllReadyH.cons rfl (fun K hK => ?_) AllReadyH.nil)
          go_simp
          refine hK.out _ _ ?_ (fun hHeld => ?_)
          · ((try dsimp only); all_goals trivial)
          clear hK K
          (try simp only [Act.put, List.getElem_toArray, List.getElem_cons_succ, List.getElem_cons_zero, List.setIfInBounds_toArray, List.set_cons_zero, List.set_cons_succ])
          refine wpAnyH_done (by kernel_rfl) ?_ _
          refine NoPanic.normal ?_
          clear hHeld x4 z4 y0 y1 y2 y3 y4 y5 k0 k1 k2 k3 k4 k5
          obtain ⟨⟨n0, n1, n2, n3, n4, n5⟩, -⟩ := HFD.out.b.cells
          obtain ⟨⟨r0, r1, r2, r3, r4, r5⟩, s0, s1, s2, s3, s4, s5⟩ := HFD.out.z.cells
          go_wp2_with fail
          exact bodyPost_ret (v := srcV C (.slice au6 L.length cu6) m AT (.slice ab (FF.length + 1) cb) TT) (by simp [srcV, results, Tryz.results25, go_sem, r0, r1, r2, r3, r4, r5]) rfl ⟨_, _, _, _, _, _, _, _, rfl, HL.out.1, HL.out.2, by rw [List.length_append, List.length_singleton]; omega, HFD.out.fin _ _ _ _ _ _⟩
        · (first | (go_at_call 50; refine (HDP.out c _ HSE.out.cr 3 (by omega) (by omega)).mono ?_; rintro e wa ⟨dl, dr, dl0, dl1, dr0, dr1, rfl, ga, hca⟩; have HSA := Lib.hid (HSE.out.grown ga hca); have HSB := Lib.hid (HSA.out.still ((Below.refl _ _).alloc (Nat.le_refl _) (.cells #[.int .i64 dl, .int .i64 dr] 38))); obtain ⟨⟨-, -, -, -, x4, -⟩, -⟩ := HSA.out.b.cells; obtain ⟨⟨-, -, -, -, z4, -⟩, -⟩ := HSB.out.b.cells) | (go_simp; go_at_call 50; refine (HDP.out c _ HSE.out.cr 3 (by omega) (by omega)).mono ?_; rintro e wa ⟨dl, dr, dl0, dl1, dr0, dr1, rfl, ga, hca⟩; have HSA := Lib.hid (HSE.out.grown ga hca); have HSB := Lib.hid (HSA.out.still ((Below.refl _ _).alloc (Nat.le_refl _) (.cells #[.int .i64 dl, .int .i64 dr] 38))); obtain ⟨⟨-, -, -, -, x4, -⟩, -⟩ := HSA.out.b.cells; obtain ⟨⟨-, -, -, -, z4, -⟩, -⟩ := HSB.out.b.cells))
          (try (go_wp2_with fail))
          refine hK.out _ _ ?_ (fun hHeld => ?_)
          · ((try dsimp only); all_goals trivial)
          clear hK K
          (try simp only [Act.put, List.getElem_toArray, List.getElem_cons_succ, List.getElem_cons_zero, List.setIfInBounds_toArray, List.set_cons_zero, List.set_cons_succ])
          refine wpAnyH_ready (rs := [1, 4]) (by kernel_rfl) (by simp) (AllReadyH.cons rfl (fun K hK => ?_) (AllReadyH.cons rfl (fun K hK => ?_) AllReadyH.nil))
          · go_simp
            refine hK.out _ _ ?_ (fun hHeld => ?_)
            · ((try dsimp only); all_goals trivial)
            clear hK K
            (try simp only [Act.put, List.getElem_toArray, List.getElem_cons_succ, List.getElem_cons_zero, List.setIfInBounds_toArray, List.set_cons_zero, List.set_cons_succ])
            refine wpAnyH_ready (rs := [4]) (by kernel_rfl) (by simp) (AllReadyH.cons rfl (fun K hK => ?_) AllReadyH.nil)
            go_simp
            refine hK.out _ _ ?_ (fun hHeld => ?_)
            · ((try dsimp only); all_goals trivial)
            clear hK K
            (try simp only [Act.put, List.getElem_toArray, List.getElem_cons_succ, List.getElem_cons_zero, List.setIfInBounds_toArray, List.set_cons_zero, List.set_cons_succ])
            refine wpAnyH_ready (rs := [5]) (by kernel_rfl) (by simp) (AllReadyH.cons rfl (fun K hK => ?_) AllReadyH.nil)
            (refine step_append_all (by rfl) _ _ _ (by rfl) (w.heap.size + 1) 38 i0 (.agg #[.int .i64 0, .int .i64 0]) 2 16 Tryz.underlying27 HI.out.1 HI.out.2.1 HI.out.2.2.1 HI.out.2.2.2 rfl (by decide) _ _ _ (by rfl) HSB.out.d (some ⟨wa.heap.size, 0, none⟩) 1 1 [.int .i64 dl, .int .i64 dr] (by rfl) (by rfl) (fun j k hu => ⟨_, rfl, cell_two_new _ _ _ _ j k hu⟩) (two_i64 _ _) (by unfold maxLen; omega) (by omega) HSB.out.lt ?_; intro vb wb hownb hgrowb; obtain ⟨ab, cb, hb⟩ := (OwnD.snoc hownb).shape; rw [List.length_append, List.length_singleton] at hb; subst hb; have HNX := Lib.hid (HSB.out.nxg hgrowb); have HFD := Lib.hid (HSB.out.app hgrowb (OwnD.snoc hownb)); clear hownb hgrowb; obtain ⟨⟨y0, y1, y2, y3, y4, y5⟩, k0, k1, k2, k3, k4, k5⟩ := HNX.out.cells)
            (try (go_wp2_with fail))
            refine hK.out _ _ ?_ (fun hHeld => ?_)
            · ((try dsimp only); all_goals trivial)
            clear hK K
            (try simp only [Act.put, List.getElem_toArray, List.getElem_cons_succ, List.getElem_cons_zero, List.setIfInBounds_toArray, List.set_cons_zero, List.set_cons_succ])
            refine wpAnyH_take (i := 6) (v := ?_) rfl (by kernel_rfl) (by kernel_rfl) (by kernel_rfl) (fun _ _ _ h => h) (Or.inl ⟨by rfl, ?_⟩) (by assumption) ?_
            rotate_left
            · (intro w hSw; (try dsimp only at hSw); go_simp; (try with_reducible rfl))
            (try simp only [Act.put, List.getElem_toArray, List.getElem_cons_succ, List.getElem_cons_zero, List.setIfInBounds_toArray, List.set_cons_zero, List.set_cons_succ])
            refine wpAnyH_ready (rs := [7]) (by kernel_rfl) (by simp) (AllReadyH.cons rfl (fun K hK => ?_) AllReadyH.nil)
            go_simp
            refine hK.out _ _ ?_ (fun hHeld => ?_)
            · ((try dsimp only); all_goals trivial)
            clear hK K
            (try simp only [Act.put, List.getElem_toArray, List.getElem_cons_succ, List.getElem_cons_zero, List.setIfInBounds_toArray, List.set_cons_zero, List.set_cons_succ])
            refine wpAnyH_done (by kernel_rfl) ?_ _
            refine NoPanic.normal ?_
            clear hHeld x4 z4 y0 y1 y2 y3 y4 y5 k0 k1 k2 k3 k4 k5
            obtain ⟨⟨n0, n1, n2, n3, n4, n5⟩, -⟩ := HFD.out.b.cells
            obtain ⟨⟨r0, r1, r2, r3, r4, r5⟩, s0, s1, s2, s3, s4, s5⟩ := HFD.out.z.cells
            go_wp2_with fail
            exact bodyPost_ret (v := srcV C (.slice au6 L.length cu6) m AT (.slice ab (FF.length + 1) cb) TT) (by simp [srcV, results, Tryz.results25, go_sem, r0, r1, r2, r3, r4, r5]) rfl ⟨_, _, _, _, _, _, _, _, rfl, HL.out.1, HL.out.2, by rw [List.length_append, List.length_singleton]; omega, HFD.out.fin _ _ _ _ _ _⟩
          · go_simp
            refine hK.out _ _ ?_ (fun hHeld => ?_)
            · ((try dsimp only); all_goals trivial)
            clear hK K
            (try simp only [Act.put, List.getElem_toArray, List.getElem_cons_succ, List.getElem_cons_zero, List.setIfInBounds_toArray, List.set_cons_zero, List.set_cons_succ])
            refine wpAnyH_ready (rs := [1]) (by kernel_rfl) (by simp) (AllReadyH.cons rfl (fun K hK => ?_) AllReadyH.nil)
            go_simp
            refine hK.out _ _ ?_ (fun hHeld => ?_)
            · ((try dsimp only); all_goals trivial)
            clear hK K
            (try simp only [Act.put, List.getElem_toArray, List.getElem_cons_succ, List.getElem_cons_zero, List.setIfInBounds_toArray, List.set_cons_zero, List.set_cons_succ])
            refine wpAnyH_ready (rs := [5]) (by kernel_rfl) (by simp) (AllReadyH.cons rfl (fun K hK => ?_) AllReadyH.nil)
            (refine step_append_all (by rfl) _ _ _ (by rfl) (w.heap.size + 1) 38 i0 (.agg #[.int .i64 0, .int .i64 0]) 2 16 Tryz.underlying27 HI.out.1 HI.out.2.1 HI.out.2.2.1 HI.out.2.2.2 rfl (by decide) _ _ _ (by rfl) HSB.out.d (some ⟨wa.heap.size, 0, none⟩) 1 1 [.int .i64 dl, .int .i64 dr] (by rfl) (by rfl) (fun j k hu => ⟨_, rfl, cell_two_new _ _ _ _ j k hu⟩) (two_i64 _ _) (by unfold maxLen; omega) (by omega) HSB.out.lt ?_; intro vb wb hownb hgrowb; obtain ⟨ab, cb, hb⟩ := (OwnD.snoc hownb).shape; rw [List.length_append, List.length_singleton] at hb; subst hb; have HNX := Lib.hid (HSB.out.nxg hgrowb); have HFD := Lib.hid (HSB.out.app hgrowb (OwnD.snoc hownb)); clear hownb hgrowb; obtain ⟨⟨y0, y1, y2, y3, y4, y5⟩, k0, k1, k2, k3, k4, k5⟩ := HNX.out.cells)
            (try (go_wp2_with fail))
            refine hK.out _ _ ?_ (fun hHeld => ?_)
            · ((try dsimp only); all_goals trivial)
            clear hK K
            (try simp only [Act.put, List.getElem_toArray, List.getElem_cons_succ, List.getElem_cons_zero, List.setIfInBounds_toArray, List.set_cons_zero, List.set_cons_succ])
            refine wpAnyH_take (i := 6) (v := ?_) rfl (by kernel_rfl) (by kernel_rfl) (by kernel_rfl) (fun _ _ _ h => h) (Or.inl ⟨by rfl, ?_⟩) (by assumption) ?_
            rotate_left
            · (intro w hSw; (try dsimp only at hSw); go_simp; (try with_reducible rfl))
            (try simp only [Act.put, List.getElem_toArray, List.getElem_cons_succ, List.getElem_cons_zero, List.setIfInBounds_toArray, List.set_cons_zero, List.set_cons_succ])
            refine wpAnyH_ready (rs := [7]) (by kernel_rfl) (by simp) (AllReadyH.cons rfl (fun K hK => ?_) AllReadyH.nil)
            go_simp
            refine hK.out _ _ ?_ (fun hHeld => ?_)
            · ((try dsimp only); all_goals trivial)
            clear hK K
            (try simp only [Act.put, List.getElem_toArray, List.getElem_cons_succ, List.getElem_cons_zero, List.setIfInBounds_toArray, List.set_cons_zero, List.set_cons_succ])
            refine wpAnyH_done (by kernel_rfl) ?_ _
            refine NoPanic.normal ?_
            clear hHeld x4 z4 y0 y1 y2 y3 y4 y5 k0 k1 k2 k3 k4 k5
            obtain ⟨⟨n0, n1, n2, n3, n4, n5⟩, -⟩ := HFD.out.b.cells
            obtain ⟨⟨r0, r1, r2, r3, r4, r5⟩, s0, s1, s2, s3, s4, s5⟩ := HFD.out.z.cells
            go_wp2_with fail
            exact bodyPost_ret (v := srcV C (.slice au6 L.length cu6) m AT (.slice ab (FF.length + 1) cb) TT) (by simp [srcV, results, Tryz.results25, go_sem, r0, r1, r2, r3, r4, r5]) rfl ⟨_, _, _, _, _, _, _, _, rfl, HL.out.1, HL.out.2, by rw [List.length_append, List.length_singleton]; omega, HFD.out.fin _ _ _ _ _ _⟩
      · obtain ⟨⟨x0, x1, x2, x3, x4, x5⟩, k0, k1, k2, k3, k4, k5⟩ := HS9.out.b.cells
        obtain ⟨T1, hT1⟩ : ∃ T1, T1 = wrap64 (TT + 1) := ⟨_, rfl⟩
        have HFD := Lib.hid (HS9.out.put (t' := T1) HS9.out.b.one5 (grown_cell w9 ⟨p, 5, none⟩ (.int .i64 T1)) HS9.out.s HS9.out.d)
        rw [hT1] at HFD
        clear hT1
        go_upto_region 11 with fail
        clear x0 x1 x2 x3 x4 x5 k0 k1 k2 k3 k4 k5
        obtain ⟨⟨n0, n1, n2, n3, n4, n5⟩, -⟩ := HFD.out.b.cells
        obtain ⟨⟨r0, r1, r2, r3, r4, r5⟩, s0, s1, s2, s3, s4, s5⟩ := HFD.out.z.cells
        go_wp2_with fail
        exact bodyPost_ret (v := srcV C (.slice au6 L.length cu6) m AT (.slice ag6 FF.length cg6) (wrap64 (TT + 1))) (by simp [srcV, results, Tryz.results25, go_sem, r0, r1, r2, r3, r4, r5]) rfl ⟨_, _, _, _, _, _, _, _, rfl, HL.out.1, HL.out.2, by omega, HFD.out.fin _ _ _ _ _ _⟩
      · go_upto_region 11 with fail
        obtain ⟨⟨n0, n1, n2, n3, n4, n5⟩, -⟩ := HS9.out.b.cells
        obtain ⟨⟨r0, r1, r2, r3, r4, r5⟩, s0, s1, s2, s3, s4, s5⟩ := HS9.out.z.cells
        go_wp2_with fail
        exact bodyPost_ret (v := srcV C (.slice au6 L.length cu6) m AT (.slice ag6 FF.length cg6) TT) (by simp [srcV, results, Tryz.results25, go_sem, r0, r1, r2, r3, r4, r5]) rfl ⟨_, _, _, _, _, _, _, _, rfl, HL.out.1, HL.out.2, by omega, HS9.out.fin _ _ _ _ _ _⟩
end
end Go.Proofs.YtjfllfancgmalaaGreat
