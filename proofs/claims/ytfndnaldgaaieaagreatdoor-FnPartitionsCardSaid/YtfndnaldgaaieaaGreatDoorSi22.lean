/- Texts of this claim, merged: L5Draw. Conditions: as stated. -/
import Derived.Test.YtfndnaldgaaieaaGreatDoorTabDrawVm
import Derived.Test.YtfndnaldgaaieaaGreatDoorSi11
import Derived.Test.YtfndnaldgaaieaaGreatDoorParDm
import Derived.Test.YtfndnaldgaaieaaGreatDoorSi19
import Derived.Test.YtfndnaldgaaieaaGreatDoorDepDm
import Derived.Test.YtfndnaldgaaieaaGreatDoorTabDraw3m
import Derived.Deep.RegionLaw
import Derived.Deep.AppendLies
namespace Go.Proofs.YtfndnaldgaaieaaGreatDoor
open Go.RowKit

/-- The state: the table in its box and its rows, the growth, the cursor. -/
structure L5 (W : World) (v : Value) (n c : Nat) (w : World) (T : Nat) (cc : Int) (u : Value) (ll : List (List Int)) (x : World) : Prop where
  b : BoxIs x T cc u
  s : OwnSS x w.heap.size T u ll
  g : w.grownBy x (some c)
  c : Cur W v n c x
  t : w.heap.size ≤ T
theorem L5.grown {W w x y : World} {v u : Value} {n c T : Nat} {cc : Int} {ll : List (List Int)} (h : L5 W v n c w T cc u ll x) (hg : x.grownBy y (some c)) (hc : Cur W v n c y) (hcw : c < w.heap.size) : L5 W v n c w T cc u ll y :=
  ⟨h.b.grown hg (by have := h.t; simp; omega), h.s.same (same_grown hg (Nat.le_of_lt h.b.lt) hcw), grown_trans h.g hg, hc, h.t⟩
theorem L5.still {W w x y : World} {v u : Value} {n c T : Nat} {cc : Int} {ll : List (List Int)} (h : L5 W v n c w T cc u ll x) (hg : x.grownBy y none) (hcw : c < w.heap.size) : L5 W v n c w T cc u ll y :=
  h.grown (hg.but _) (h.c.kept hg (by simp) (by simp)) hcw
theorem grown_of_below {w w' : World} (hb : Below w.heap.size w w') : w.grownBy w' none := ⟨hb.os, hb.tape, hb.output, hb.size, fun i hi _ => hb.block i hi⟩
/-- What is said of the classes that were drawn. -/
def Cls5 (P : List (List Int)) : Prop := P.length ≤ 41 ∧ tot P ≤ 1700 ∧ I64ss P
def Cls4 (P : List (List Int)) : Prop := P.length ≤ 40 ∧ tot P ≤ 1690 ∧ I64ss P
theorem Cls4.five {P : List (List Int)} (h : Cls4 P) : Cls5 P := ⟨by have := h.1; omega, by have := h.2.1; omega, h.2.2⟩
theorem cls5_st {c : Nat} {ll : List (List Int)} {m s : Int} (h12 : ll.length ≤ 12) : Cls4 (clSt c ll m s ll.length).1 := by
  have h1 := (clSt_len c ll m s ll.length (Nat.le_refl _)).1
  have h2 := clSt_tot c ll m s (by omega) ll.length (Nat.le_refl _)
  refine ⟨by omega, by omega, fun i hi x hx => ?_⟩
  obtain ⟨k, hk, rfl⟩ := List.mem_iff_getElem.1 hx
  obtain ⟨q, hq, hql⟩ := clSt_rows (c := c) (ll := ll) (m := m) (s := s) (i := i) (k := k) hi hk
  rw [← get_getD _ k hk] at hq
  rw [hq]
  omega
/-- Two lists of classes and a number of rows of the call's own. -/
def CurL5 (W : World) (v : Value) (n c : Nat) (w : World) (e : Ending) (w' : World) : Prop :=
  ∃ (pv qv : Value) (P Q : List (List Int)) (N : Nat), e = .returned (.tuple #[pv, qv, .int .i64 (N : Int)]) ∧ N ≤ 12 ∧ Cls5 P ∧ Cls5 Q ∧ OwnSS w' w.heap.size w'.heap.size pv P ∧ OwnSS w' w.heap.size w'.heap.size qv Q ∧ w.grownBy w' (some c) ∧ Cur W v n c w'
theorem L5.own {W w x y : World} {v u : Value} {n c T : Nat} {cc : Int} {ll : List (List Int)} {row : Option Nat} (h : L5 W v n c w T cc u ll x) (hg : x.grownBy y row) (hr : ∀ g, row = some g → T < g) (hcw : c < w.heap.size) (hW : W.heap.size ≤ w.heap.size) : L5 W v n c w T cc u ll y := by
  have ht := h.t
  have hb := h.b.lt
  exact ⟨h.b.grown hg (fun e => by have := hr T e; omega), h.s.same (fun g _ h2 => hg.block g (by omega) (fun e => by have := hr g e.symm; omega)), grown_above h.g hg (fun g e => by have := hr g e; omega), h.c.kept hg (fun g e => by have := hr g e; omega) (fun e => by have := hr c e; omega), h.t⟩
theorem cls5_snoc {P : List (List Int)} (h : Cls5 P) {x y : Int} (x0 : 0 ≤ x) (x1 : x ≤ 4) (y0 : 0 ≤ y) (y1 : y ≤ 8) (hl : P.length ≤ 40) (ht : tot P ≤ 1690) : Cls5 (P ++ [[x, y]]) := by
  obtain ⟨h1, h2, h3⟩ := h
  refine ⟨by rw [List.length_append]; simp; omega, ?_, fun i hi z hz => ?_⟩
  · have : tot (P ++ [[x, y]]) = tot P + 2 := by unfold tot; simp
    omega
  · by_cases hip : i < P.length
    · have e : (P ++ [[x, y]]).getD i [] = P.getD i [] := by rw [List.getD_eq_getElem?_getD, List.getD_eq_getElem?_getD, List.getElem?_append_left hip]
      rw [e] at hz
      exact h3 i hip z hz
    · rw [List.length_append, List.length_singleton] at hi
      obtain rfl : i = P.length := by omega
      have e : (P ++ [[x, y]]).getD P.length [] = [x, y] := by rw [List.getD_eq_getElem?_getD, List.getElem?_append_right (Nat.le_refl _), Nat.sub_self]; rfl
      rw [e] at hz
      simp at hz
      rcases hz with rfl | rfl <;> omega
theorem l5_still (w : World) (k : Nat) : w.grownBy (w.drewN k) none := grown_of_below (below_drewN (Below.refl _ _) k)
theorem l5_end {w w7 : World} {B C : Nat} {v : Value} {P : List (List Int)} {W : World} {v' : Value} {n c T : Nat} {cc : Int} {u : Value} {ll : List (List Int)} (_h : L5 W v' n c w T cc u ll w7) (hp : OwnSS w7 B C v P) (hB : w.heap.size ≤ B) (hC : C ≤ w7.heap.size) (k : Nat) : OwnSS (w7.drewN k) w.heap.size (w7.drewN k).heap.size v P :=
  (hp.same (fun g _ hg => (l5_still w7 k).block g (by omega) (by simp))).base hB (Nat.le_trans hC (l5_still w7 k).size)
set_option maxHeartbeats 3200000 in
set_option maxRecDepth 20000 in
theorem l5Draw_any (W : World) (v : Value) (n : Nat) (hn : n ≤ 1048576) (hcode : CodeAt W v n) (c : Nat) (w : World) (hcur : Cur W v n c w) :
    Calls Tryz.prog 49 #[.pointer (some ⟨c, 0, none⟩)] w (CurL5 W v n c w) := by
  have HT := Lib.hid (tableV_any W v n hn hcode c)
  have HB := Lib.hid (below_any W v n hn hcode c)
  have HO := Lib.hid (once_any W v n hn hcode c)
  have HCW := Lib.hid hcur.lt
  have HWW : Hid (W.heap.size ≤ w.heap.size) := Lib.hid (by obtain ⟨_, _, h, _⟩ := hcur; have := HCW.out; omega)
  go_enter Tryz.func49, Tryz.ntmps49
  go_wp2_with fail
  refine (HT.out _ hcur).mono ?_
  rintro e w1 ⟨cc, u, ll, rfl, hT, hll, hss, g1, hc1⟩
  have s1 := g1.size
  obtain ⟨au, cu, rfl, -⟩ := hss.read
  have HST : Hid (L5 W v n c w w1.heap.size cc (.slice au ll.length cu) ll (w1.alloc (.cells #[.int .i64 cc, .slice au ll.length cu] 26))) := Lib.hid
    ⟨heap_alloc_new w1 _, hss.same (fun g _ hg => Below.heap_alloc _ _ _ hg), grown_trans g1 (World.grownBy_alloc w1 _ _), hc1.kept (World.grownBy_alloc w1 _ none) (by simp) (by simp), s1⟩
  have HC := Lib.hid (fun (s : Int) w' (hr : ReadSS w' (.slice au ll.length cu) ll) => classes5_any cc 0 s _ ll w' hr hT)
  have HCL := Lib.hid (fun (s : Int) => cls5_st (c := cc.toNat) (ll := ll) (m := 0) (s := s) hll)
  have HLL := Lib.hid hll
  clear hss g1 hc1 hT hll
  obtain ⟨w2, hw2⟩ : ∃ w2, w2 = w1.alloc (.cells #[.int .i64 cc, .slice au ll.length cu] 26) := ⟨_, rfl⟩
  obtain ⟨⟨c0, c1⟩, -, -⟩ := HST.out.b.cells
  go_wp2_with fail
  rw [← hw2] at HST c0 c1 ⊢
  obtain ⟨T, hTT⟩ : ∃ T, T = w1.heap.size := ⟨_, rfl⟩
  rw [← hTT] at HST c0 c1 s1 ⊢
  clear hw2 hTT
  have HSD := Lib.hid (HST.out.still (y := w2.drew) ⟨rfl, rfl, rfl, Nat.le_refl _, fun _ _ _ => rfl⟩ HCW.out)
  go_region_law (first
    | (go_simp; go_at_call 74; refine (HB.out _ HSD.out.c 4 (by omega) (by omega)).mono ?_; rintro e w3 ⟨s, s0, s1', rfl, g3, hc3⟩; have HS3 := Lib.hid (HSD.out.grown g3 hc3 HCW.out); obtain ⟨⟨d0, d1⟩, -, -⟩ := HS3.out.b.cells; clear g3 hc3)
    | (go_simp; go_at_call 38; refine (HC.out s _ HS3.out.s.read).mono ?_; rintro e w4 ⟨pv, rfl, op, b4⟩; have HS4 := Lib.hid (HS3.out.still (grown_of_below b4) HCW.out); have s3 := HS3.out.g.size; have hT3 := HS3.out.b.lt; have HP4 := Lib.hid op; have s34 := b4.size; clear op b4))
  all_goals
    obtain ⟨P, hP⟩ : ∃ P, P = (clSt cc.toNat ll 0 s ll.length).1 := ⟨_, rfl⟩
    have s4 := HS4.out.g.size
    have HCP4 : Hid (Cls4 P) := Lib.hid (by rw [hP]; exact HCL.out s)
    have HCP : Hid (Cls5 P) := Lib.hid HCP4.out.five
    rw [← hP] at HP4
    clear hP HS3 HSD HST c0 c1 d0 d1
    obtain ⟨⟨c0, c1⟩, -, -⟩ := HS4.out.b.cells
    have HSD := Lib.hid (HS4.out.still (y := w4.drew) ⟨rfl, rfl, rfl, Nat.le_refl _, fun _ _ _ => rfl⟩ HCW.out)
    have HPD : Hid (OwnSS w4.drew w3.heap.size w4.heap.size pv P) := Lib.hid (HP4.out.same (fun _ _ _ => rfl))
    go_wp2_with fail
    go_region_law (first
      | (go_simp; go_at_call 74; refine (HB.out _ HSD.out.c 4 (by omega) (by omega)).mono ?_; rintro e w5 ⟨s', s0', s1'', rfl, g5, hc5⟩; have HS5 := Lib.hid (HSD.out.grown g5 hc5 HCW.out); have HP5 := Lib.hid (HPD.out.same (same_grown g5 (Nat.le_refl _) (by have := HCW.out; omega))); have s5 : w4.heap.size ≤ w5.heap.size := g5.size; obtain ⟨⟨d0, d1⟩, -, -⟩ := HS5.out.b.cells; clear g5 hc5)
      | (go_simp; go_at_call 38; refine (HC.out s' _ HS5.out.s.read).mono ?_; rintro e w6 ⟨qv, rfl, oq, b6⟩; have HS6 := Lib.hid (HS5.out.still (grown_of_below b6) HCW.out); have HP6 := Lib.hid (HP5.out.same (fun g _ hg => b6.block g (by omega))); have HQ6 := Lib.hid oq; have s6 := b6.size; clear oq b6))
    all_goals
      obtain ⟨Q, hQ⟩ : ∃ Q, Q = (clSt cc.toNat ll 0 s' ll.length).1 := ⟨_, rfl⟩
      have HCQ : Hid (Cls5 Q) := Lib.hid (by rw [hQ]; exact (HCL.out s').five)
      rw [← hQ] at HQ6
      clear hQ HS5 HSD HS4 HP4 HPD HP5 c0 c1 d0 d1
      obtain ⟨⟨c0, c1⟩, -, -⟩ := HS6.out.b.cells
      go_wp2_with fail
      refine (HO.out _ HS6.out.c 14 (by omega) (by omega)).mono ?_
      rintro e w7 ⟨b, rfl, g7, hc7⟩
      have hw5 : w.heap.size ≤ w5.heap.size := by omega
      have HS7 := Lib.hid (HS6.out.grown g7 hc7 HCW.out)
      have HP7 := Lib.hid (HP6.out.same (same_grown g7 (by omega) (by have := HCW.out; omega)))
      have HQ7 := Lib.hid (HQ6.out.same (same_grown g7 (Nat.le_refl _) (by have := HCW.out; omega)))
      have s7 := g7.size
      obtain ⟨ap, cp, rfl, -⟩ := HP7.out.read
      obtain ⟨aq, cq, rfl, -⟩ := HQ7.out.read
      clear g7 hc7 HS6 HP6 HQ6 c0 c1
      obtain ⟨⟨c0, c1⟩, -, -⟩ := HS7.out.b.cells
      cases b with
      | false =>
        go_wp2_with fail
        go_quiet (fail)
        go_wp2_with fail
        go_ret3
        exact ⟨_, _, P, Q, ll.length, rfl, HLL.out, HCP.out, HCQ.out, l5_end HS7.out HP7.out s3 (by omega) _, l5_end HS7.out HQ7.out hw5 s7 _, (L5.still HS7.out (l5_still _ _) HCW.out).g, (L5.still HS7.out (l5_still _ _) HCW.out).c⟩
      | true =>
        obtain ⟨i0, hi, hz0, hz1, hz2⟩ := info_parts infoSj
        have HI : Hid (_ ∧ _ ∧ _ ∧ _) := Lib.hid ⟨hi, hz0, hz1, hz2⟩
        have hP40 : P.length ≤ 41 := HCP.out.1
        have hP40' : P.length ≤ 40 := HCP4.out.1
        clear hi hz0 hz1 hz2
        go_wp2_with fail
        refine (HB.out _ HS7.out.c 5 (by omega) (by omega)).mono ?_
        rintro e w8 ⟨x, x0, x1, rfl, g8, hc8⟩
        have HS8 := Lib.hid (HS7.out.grown g8 hc8 HCW.out)
        have HP8 := Lib.hid (HP7.out.same (same_grown g8 (by omega) (by have := HCW.out; omega)))
        have HQ8 := Lib.hid (HQ7.out.same (same_grown g8 s7 (by have := HCW.out; omega)))
        have s8 := g8.size
        clear g8 hc8 HS7 HP7 HQ7 c0 c1
        obtain ⟨⟨c0, c1⟩, -, -⟩ := HS8.out.b.cells
        go_wp2_with fail
        refine (HB.out _ HS8.out.c 9 (by omega) (by omega)).mono ?_
        rintro e w9 ⟨y, y0, y1, rfl, g9, hc9⟩
        have HS9 := Lib.hid (HS8.out.grown g9 hc9 HCW.out)
        have HP9 := Lib.hid (HP8.out.same (same_grown g9 (by omega) (by have := HCW.out; omega)))
        have HQ9 := Lib.hid (HQ8.out.same (same_grown g9 (by omega) (by have := HCW.out; omega)))
        have s9 := g9.size
        clear g9 hc9 HS8 HP8 HQ8 c0 c1
        have HSX := Lib.hid ((HS9.out.still (World.grownBy_alloc w9 (.cells #[.int .i64 x, .int .i64 y] 3) none) HCW.out).still (World.grownBy_alloc (w9.alloc (.cells #[.int .i64 x, .int .i64 y] 3)) (.cells #[.slice (some ⟨w9.heap.size, 0, none⟩) 2 2] 50) none) HCW.out)
        have hba : Below w9.heap.size w9 ((w9.alloc (.cells #[.int .i64 x, .int .i64 y] 3)).alloc (.cells #[.slice (some ⟨w9.heap.size, 0, none⟩) 2 2] 50)) := ((Below.refl _ w9).alloc (Nat.le_refl _) _).alloc (by simp) _
        have HPX := HP9.out.same (w' := ((w9.alloc (.cells #[.int .i64 x, .int .i64 y] 3)).alloc (.cells #[.slice (some ⟨w9.heap.size, 0, none⟩) 2 2] 50))) (fun g _ hg => hba.block g (by omega))
        have HQX := Lib.hid (HQ9.out.same (w' := ((w9.alloc (.cells #[.int .i64 x, .int .i64 y] 3)).alloc (.cells #[.slice (some ⟨w9.heap.size, 0, none⟩) 2 2] 50))) (fun g _ hg => hba.block g (by omega)))
        have HNI : Hid (OwnI ((w9.alloc (.cells #[.int .i64 x, .int .i64 y] 3)).alloc (.cells #[.slice (some ⟨w9.heap.size, 0, none⟩) 2 2] 50)) w9.heap.size (.slice (some ⟨w9.heap.size, 0, none⟩) 2 2) [x, y]) := Lib.hid (World.ownsRow.alloc (World.ownsRow_lit w9 #[.int .i64 x, .int .i64 y] 2 (Nat.le_refl _) (by unfold maxLen; omega) rfl) _)
        have HNW : Hid (∀ (j : Nat) (u : Value), [Value.slice (some ⟨w9.heap.size, 0, none⟩) 2 2][j]? = some u → ((w9.alloc (.cells #[.int .i64 x, .int .i64 y] 3)).alloc (.cells #[.slice (some ⟨w9.heap.size, 0, none⟩) 2 2] 50)).cell? ((⟨w9.heap.size + 1, 0, none⟩ : Addr).add j) = some u) := Lib.hid (by have h := cell_one_new (w9.alloc (.cells #[.int .i64 x, .int .i64 y] 3)) (.slice (some ⟨w9.heap.size, 0, none⟩) 2 2) 50; rwa [World.size_alloc] at h)
        have hsx : ((w9.alloc (.cells #[.int .i64 x, .int .i64 y] 3)).alloc (.cells #[.slice (some ⟨w9.heap.size, 0, none⟩) 2 2] 50)).heap.size = w9.heap.size + 2 := by rw [World.size_alloc, World.size_alloc]
        obtain ⟨V, o1, o2, o3, o4⟩ := HPX
        have O1 := Lib.hid o1
        have O2 := Lib.hid o2
        have O3 := Lib.hid o3
        have O4 := Lib.hid o4
        clear o1 o2 o3 o4 hba
        go_wp2_with (at_builtin; refine wpList_append_lies _ rfl _ _ 24 rfl w3.heap.size 50 i0 (.slice none 0 0) 1 24 Tryz.underlying24 HI.out.1 HI.out.2.1 HI.out.2.2.1 HI.out.2.2.2 rfl (by decide) _ _ _ rfl O1.out ⟨w9.heap.size + 1, 0, none⟩ 1 1 [.slice (some ⟨w9.heap.size, 0, none⟩) 2 2] rfl rfl HNW.out (one_slice _ _ _) (by omega) (by unfold maxLen; omega) (by omega) (by rw [hsx]; omega) (w9.heap.size + 2) hsx ?_; intro gg gcap w10 hown' hgrow hat hltg; have HW := Lib.hid hown'; have HG := Lib.hid hgrow; have HSY := Lib.hid (L5.own HSX.out hgrow (fun g hg => by have := (World.ownsRow.lt O1.out g hg).1; omega) HCW.out HWW.out); obtain ⟨⟨c0, c1⟩, -, -⟩ := HSY.out.b.cells; clear hown' hgrow hat)
        have s10 : w9.heap.size + 2 ≤ w10.heap.size := by rw [← hsx]; exact HG.out.size
        have HPY : Hid (OwnSS w10 w3.heap.size w10.heap.size (.slice (some ⟨gg, 0, none⟩) (P.length + 1) gcap) (P ++ [[x, y]])) := Lib.hid (OwnSS.snocV O1.out O2.out O3.out O4.out (OwnI.base HNI.out (by omega)) (C' := w10.heap.size) (fun g h => by have hh := HNI.out.lt g h; rw [hsx] at hh; exact ⟨by omega, by omega⟩) HW.out HG.out (by omega) (fun g hg => (World.ownsRow.lt HW.out g hg).2))
        have HQY : Hid (OwnSS w10 w5.heap.size w6.heap.size (.slice aq Q.length cq) Q) := Lib.hid (HQX.out.same (fun g h1 h2 => HG.out.block g (by rw [hsx]; omega) (fun e => by have := O2.out g e.symm; omega)))
        have HCP2 : Hid (Cls5 (P ++ [[x, y]])) := Lib.hid (cls5_snoc HCP.out x0 (by omega) y0 (by omega) hP40' HCP4.out.2.1)
        clear HSX HQX HNI HNW O1 O2 O3 O4 HW HG
        go_wp2_with fail
        go_quiet (fail)
        go_wp2_with fail
        go_ret3
        exact ⟨_, _, P ++ [[x, y]], Q, ll.length, rfl, HLL.out, HCP2.out, HCQ.out, by
          have h := l5_end HSY.out HPY.out s3 (Nat.le_refl _)
          exact h _, l5_end HSY.out HQY.out hw5 (by omega) _, (L5.still HSY.out (l5_still _ _) HCW.out).g, (L5.still HSY.out (l5_still _ _) HCW.out).c⟩
end Go.Proofs.YtfndnaldgaaieaaGreatDoor
