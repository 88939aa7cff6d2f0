/- The draws of FnArmstrong, by contract. Conditions: the code is a readable slice of at most 1048576 bytes. -/
import Derived.Test.YtnbjcelfdppkcadGreatXz22
import Derived.Test.YtnbjcelfdppkcadGreatXz29
import Derived.Test.YtnbjcelfdppkcadGreatXz26
import Derived.Test.YtnbjcelfdppkcadGreatXz9
import Derived.Test.YtnbjcelfdppkcadGreatXz19
import Derived.Test.YtnbjcelfdppkcadGreatXz16
namespace Go.Proofs.YtnbjcelfdppkcadGreat
open Go.RowKit

/-- A drawn number and list. -/
def DrawnNI (w : World) (e : Ending) (w' : World) : Prop := ∃ k u q, e = .returned (.tuple #[.int .i64 k, u]) ∧ q.length ≤ 1600 ∧ I64s q ∧ ReadI w' u q ∧ Below w.heap.size w w'
/-- A drawn table, mode and list of dependencies. -/
def DrawnTMD (w : World) (e : Ending) (w' : World) : Prop :=
  ∃ (cc : Int) (u : Value) (ll : List (List Int)) (m : Int) (ud : Value) (q : List (Int × Int)), -1 ≤ m ∧ m ≤ 2 ∧ e = .returned (.tuple #[.agg #[.int .i64 cc, u], .int .i64 m, ud]) ∧ ll.length ≤ 20 ∧ (∀ r ∈ ll, r.length ≤ 10) ∧ ReadSS w' u ll ∧
    q.length ≤ 200 ∧ (∀ d ∈ q, (-1 ≤ d.1 ∧ d.1 ≤ 33) ∧ (-1 ≤ d.2 ∧ d.2 ≤ 5)) ∧ ReadD w' ud q ∧ Below w.heap.size w w'
theorem TmSt.below {W w x y : World} {v u uz : Value} {n c T B : Nat} {cc cz : Int} {ll : List (List Int)} (h : TmSt W v n c w T B cc u ll cz uz x) (hb : Below x.heap.size x y) : TmSt W v n c w T B cc u ll cz uz y :=
  h.still ⟨hb.os, hb.tape, hb.output, hb.size, fun j hj _ => hb.block j hj⟩
theorem TmSt.off {W w x y : World} {v u uz : Value} {n c T B : Nat} {cc cz : Int} {ll : List (List Int)} {row : Option Nat} (h : TmSt W v n c w T B cc u ll cz uz x) (hg : x.grownBy y row) (hr : ∀ k, row = some k → T < k) : TmSt W v n c w T B cc u ll cz uz y := by
  have h1 := h.e1
  have h2 := h.e2
  have h3 := h.e3
  have h4 := h.e4
  have hb := h.b.lt
  have hne : ∀ k, k ≤ T → row ≠ some k := fun k hk e => by have := hr k e; omega
  exact ⟨h.z.grown hg (hne _ (by omega)), h.b.grown hg (hne _ (Nat.le_refl _)), h.s.same (fun g _ hT => hg.block g (by omega) (fun e => hne g (by omega) e.symm)), grown_above h.g hg (fun k e => by have := hr k e; omega), h1, h2, h3, h4, h.cur.kept hg (fun k e => by have := hr k e; omega) (hne _ (by omega))⟩
theorem OwnD.set12 {w : World} {B : Nat} {v u : Value} {l : List (Int × Int)} {p : Addr} (h : OwnD w B v l) (hp : p.block < B) : OwnD (w.setCell p u) B v l :=
  h.keptBy (grown_cell w p u) (fun g e1 e2 => by cases e1; have := (h.lt _ e2).1; omega)
section
set_option maxRecDepth 20000
set_option maxHeartbeats 6400000
theorem drawArmstrong_any (W : World) (v : Value) (n : Nat) (hn : n ≤ 1048576) (hcode : CodeAt W v n) (w : World) (hb : Below W.heap.size W w) :
    Calls Tryz.prog 5 #[v] w (DrawnND w) := by
  have H1 := Lib.hid (new_any W v n hn hcode w hb)
  have H2 := Lib.hid (draw10_any W v n hn hcode)
  obtain ⟨a, cap, rfl⟩ := code_slice hcode
  go_enter Tryz.func5, Tryz.ntmps5
  go_wp2_with fail
  refine H1.out.mono ?_
  rintro e w1 ⟨c, hc, rfl, g1, hc1⟩
  have B1 := (Below.refl w.heap.size w).grown g1 (Nat.le_refl _) (by simp)
  have hcw := hc1.lt
  clear g1
  go_wp2_with fail
  refine (H2.out c w1 hc1).mono ?_
  rintro e w2 ⟨m, u, q, rfl, m0, m1, hq, ho, g2, hc2⟩
  have B2 := B1.grown g2 B1.size (fun k e => by cases e; exact hc)
  have HL := Lib.hid (DrL.of m0 m1 hq ho)
  clear g2 hc1 hc2 ho hq
  go_wp2_with fail
  exact bodyPost_ret (v := .tuple #[.int .i64 m, u]) (by simp [results, Tryz.results5, go_sem]) rfl ⟨m, u, q, rfl, HL.out, B2⟩
theorem drawDas_any (W : World) (v : Value) (n : Nat) (hn : n ≤ 1048576) (hcode : CodeAt W v n) (w : World) (hb : Below W.heap.size W w) :
    Calls Tryz.prog 13 #[v] w (DrawnNI w) := by
  have H1 := Lib.hid (new_any W v n hn hcode w hb)
  have H2 := Lib.hid (draw4_any W v n hn hcode)
  have H3 := Lib.hid (once_any W v n hn hcode)
  have H4 := Lib.hid (below_any W v n hn hcode)
  have H5 := Lib.hid (list4_any W v n hn hcode)
  obtain ⟨a, cap, rfl⟩ := code_slice hcode
  go_enter Tryz.func13, Tryz.ntmps13
  go_wp2_with fail
  refine H1.out.mono ?_
  rintro e w1 ⟨c, hc, rfl, g1, hc1⟩
  have B1 := (Below.refl w.heap.size w).grown g1 (Nat.le_refl _) (by simp)
  have hcw := hc1.lt
  clear g1
  go_wp2_with fail
  refine (H2.out c w1 hc1).mono ?_
  rintro e w2 ⟨cc, u, ll, md, md0, md1, rfl, hll, hlr, hss, g2, hc2⟩
  have B2 := B1.grown g2 B1.size (fun k e => by cases e; exact hc)
  obtain ⟨au, cu, rfl, -⟩ := hss.read
  have s2 := g2.size
  have hb0 : BxT (w2.alloc (.cells #[.int .i64 cc, .slice au ll.length cu] 29)) w2.heap.size cc (.slice au ll.length cu) := bxt_new w2 cc _
  have al := (Below.refl w2.heap.size w2).alloc (Nat.le_refl _) (.cells #[.int .i64 cc, .slice au ll.length cu] 29)
  have HO := Lib.hid (show OwnSS (w2.alloc (.cells #[.int .i64 cc, .slice au ll.length cu] 29)) w1.heap.size w2.heap.size (.slice au ll.length cu) ll from hss.same (Below.keeps al (Nat.le_refl _)))
  have hcT := hc2.below al
  have HB3 := Lib.hid (B2.trans (al.mono B2.size))
  have HX := Lib.hid hb0
  have HRL := Lib.hid (fun i (hi : i < ll.length) => show (ll.getD i []).length ≤ 1048576 from Nat.le_trans (hlr _ (by rw [List.getD_eq_getElem?_getD, List.getElem?_eq_getElem hi]; exact List.getElem_mem hi)) (by omega))
  have hcw2 : c < w2.heap.size := Nat.lt_of_lt_of_le hcw s2
  clear hc1 g2 hss hc2 B1 B2 al hb0 hlr
  go_wp2_with fail
  obtain ⟨T, hT⟩ : ∃ T, T = w2.heap.size := ⟨_, rfl⟩
  obtain ⟨w3, hw3⟩ : ∃ w3, w3 = w2.alloc (.cells #[.int .i64 cc, .slice au ll.length cu] 29) := ⟨_, rfl⟩
  rw [← hw3] at hcT HO HB3 HX ⊢
  rw [← hT] at HX HO hcw2 ⊢
  clear hw3 hT s2
  refine (H3.out c w3 hcT 4 (by omega) (by omega)).mono ?_
  rintro e w4 ⟨bb, rfl, g4, hc4⟩
  have HB4 := Lib.hid (HB3.out.grown g4 HB3.out.size (fun k e => by cases e; exact hc))
  have HO4 := Lib.hid (HO.out.same (same_grown g4 (Nat.le_of_lt HX.out.lt) hcw))
  have HX4 := Lib.hid (HX.out.grown g4 (by intro e; cases e; omega))
  have HC4 := Lib.hid hc4
  clear g4 hc4 hcT HO HX HB3
  cases bb with
  | true =>
    go_wp2_with fail
    refine (H4.out c w4 HC4.out 7 (by omega) (by omega)).mono ?_
    rintro e w5 ⟨x, x0, x1, rfl, g5, hc5⟩
    have hwx : IntKind.i64.wrap (5 - x) = 5 - x := by rw [IntKind.wrap_i64]; omega
    have hbk : ∀ k, (some c : Option Nat) = some k → w.heap.size ≤ k := fun k e => by cases e; exact hc
    have HB5 := Lib.hid (HB4.out.grown g5 HB4.out.size hbk)
    clear g5
    go_wp2_with fail
    refine (H5.out c w5 hc5).mono ?_
    rintro e w6 ⟨ul, q, rfl, hql, hqb, oq, g6, hc6⟩
    have HB6 := Lib.hid (HB5.out.grown g6 HB5.out.size hbk)
    have HQ := Lib.hid oq.read
    obtain ⟨aq, cq, rfl, -⟩ := oq.read
    clear g6 hc6 oq
    go_wp2_with fail
    exact bodyPost_ret (v := .tuple #[.int .i64 (5 - x), .slice aq q.length cq]) (by simp [results, Tryz.results13, go_sem]) rfl ⟨5 - x, _, q, rfl, by omega, fun y hy => by have := hqb y hy; omega, HQ.out, HB6.out⟩
  | false =>
    have d0 := HX4.out.c0
    have d1 := HX4.out.c1
    have HAG := Lib.hid (fun w' (hb : Below w4.heap.size w4 w') => agreeSets_any cc md (.slice au ll.length cu) ll w' (HO4.out.read.kept hb) (by omega) HRL.out)
    have hal := agrS_len cc ll md
    have HI := Lib.hid (show I64s (agrS cc ll md) from fun y hy => by obtain ⟨j, hj, -, rfl⟩ := (agF_mem cc ll md y).1 hy; omega)
    obtain ⟨q, hq⟩ : ∃ q, q = agrS cc ll md := ⟨_, rfl⟩
    rw [← hq] at HAG hal HI
    clear hq
    go_wp2_with fail
    go_region_law (go_simp; go_at_call 41; refine (HAG.out _ (Below.refl _ _).drew).mono ?_; rintro e w5 ⟨vq, rfl, oq, b5⟩; have b6 := (Below.refl w4.heap.size w4).drew.trans b5; have k0 := keep_in d0 b6; have k1 := keep_in d1 b6; have HB5 := Lib.hid (HB4.out.trans (b6.mono HB4.out.size)); have HQ := Lib.hid oq.read; obtain ⟨aq, cq, rfl, -⟩ := oq.read; clear b5 b6 oq)
    all_goals go_wp2_with fail
    all_goals exact bodyPost_ret (v := .tuple #[.int .i64 cc, .slice aq q.length cq]) (by simp [results, Tryz.results13, go_sem]) rfl ⟨cc, _, q, rfl, hal, HI.out, HQ.out, HB5.out⟩
theorem drawSat_any (W : World) (v : Value) (n : Nat) (hn : n ≤ 1048576) (hcode : CodeAt W v n) (w : World) (hb : Below W.heap.size W w) :
    Calls Tryz.prog 12 #[v] w (DrawnTMD w) := by
  have hg0 : Hid (w.grownBy (w.alloc (.cells #[.int .i64 0, .slice none 0 0] 29)) none) := Lib.hid (World.grownBy_alloc w _ _)
  have hz0 : Hid (BoxIs (w.alloc (.cells #[.int .i64 0, .slice none 0 0] 29)) w.heap.size 0 (.slice none 0 0)) := Lib.hid (heap_alloc_new w _)
  have hbs := hb.size
  have H1 := Lib.hid (new_any W v n hn hcode _ (hb.alloc hb.size (.cells #[.int .i64 0, .slice none 0 0] 29)))
  have H2 := Lib.hid (draw4_any W v n hn hcode)
  have H3 := Lib.hid (anyDep_any W v n hn hcode)
  have H4 := Lib.hid (once_any W v n hn hcode)
  obtain ⟨a, cap, rfl⟩ := code_slice hcode
  go_enter Tryz.func12, Tryz.ntmps12
  go_wp2_with fail
  refine H1.out.mono ?_
  rintro e w1 ⟨c, hc, rfl, g1, hc1⟩
  go_wp2_with fail
  refine (H2.out c w1 hc1).mono ?_
  rintro e w2 ⟨cc, u, ll, md, md0, md1, rfl, hll, hlr, hss, g2, hc2⟩
  have s2 := g2.size
  have hcw := hc1.lt
  have hc' : w.heap.size < c := by simp at hc; omega
  obtain ⟨au, cu, rfl, -⟩ := hss.read
  have HS : Hid (TmSt W (.slice a n cap) n c w w2.heap.size w1.heap.size cc (.slice au ll.length cu) ll 0 (.slice none 0 0) (w2.alloc (.cells #[.int .i64 cc, .slice au ll.length cu] 29))) := Lib.hid
    ⟨((hz0.out.grown g1 (by simp)).grown g2 (by simp; omega)).grown (World.grownBy_alloc w2 _ none) (by simp),
     heap_alloc_new w2 _, hss.same (fun g _ hg => Below.heap_alloc _ _ _ hg),
     grown_trans (grown_above (grown_trans hg0.out g1) g2 (fun g e => by simp at e; omega)) (World.grownBy_alloc w2 _ none), hc', hcw, s2, hbs, hc2.kept (World.grownBy_alloc w2 _ none) (by simp) (by simp)⟩
  clear hz0 hg0 g1 g2 hc2 hss hc1 hc
  have HM := Lib.hid (minimalDeps_any cc md (.slice au ll.length cu) ll _ HS.out.s.read (by omega) (fun i hi => Nat.le_trans (hlr _ (by rw [List.getD_eq_getElem?_getD, List.getElem?_eq_getElem hi]; exact List.getElem_mem hi)) (by omega)))
  have hml := mdL_len cc ll md
  have HSM := Lib.hid (fun d (h : d ∈ mdL cc ll md) => mdL_small h)
  obtain ⟨M, hM⟩ : ∃ M, M = mdL cc ll md := ⟨_, rfl⟩
  rw [← hM] at HM hml HSM
  clear hM
  obtain ⟨⟨z0, z1⟩, -, -⟩ := HS.out.b.cells
  go_wp2_with fail
  obtain ⟨T, hT⟩ : ∃ T, T = w2.heap.size := ⟨_, rfl⟩
  obtain ⟨w3, hw3⟩ : ∃ w3, w3 = w2.alloc (.cells #[.int .i64 cc, .slice au ll.length cu] 29) := ⟨_, rfl⟩
  rw [← hw3] at HS HM ⊢
  rw [← hT] at HS s2 ⊢
  clear hw3 hT z0 z1
  refine HM.out.mono ?_
  rintro e w4 ⟨vm, rfl, om, b4⟩
  have HS4 := Lib.hid (HS.out.below b4)
  have hc4 : c < w3.heap.size := by have := HS.out.b.lt; omega
  have HO4 := Lib.hid om
  have HW4 := Lib.hid b4.size
  have HTT := Lib.hid HS.out.b.lt
  obtain ⟨am, capm, rfl, -⟩ := om.read
  clear om b4 HS HM
  go_wp2_with fail
  refine (H4.out c w4 HS4.out.cur 2 (by omega) (by omega)).mono ?_
  rintro e w5 ⟨bb, rfl, g5, hc5⟩
  have HS5 := Lib.hid (HS4.out.grown g5 hc5)
  have HO5 := Lib.hid (HO4.out.cur g5 hc4)
  have HW5 := Lib.hid (Nat.le_trans HW4.out g5.size)
  clear HS4 HO4 g5 hc5 HW4
  have hw3 : w.heap.size < w3.heap.size := by have := HS5.out.e1; omega
  have hTw : T < w3.heap.size := HTT.out
  cases bb with
  | false =>
    have HLQ : Hid (M.length ≤ 200 ∧ ∀ d ∈ M, (-1 ≤ d.1 ∧ d.1 ≤ 33) ∧ (-1 ≤ d.2 ∧ d.2 ≤ 5)) := Lib.hid ⟨by omega, fun d hd => by have := HSM.out d hd; omega⟩
    have HF := Lib.hid (HS5.out.put0 (c' := cc) (u' := .slice au ll.length cu))
    have HLE := Lib.hid ((HO5.out.set12 (p := ⟨w.heap.size, 0, none⟩) (u := .int .i64 cc) hw3).set12 (p := ⟨w.heap.size, 1, none⟩) (u := .slice au ll.length cu) hw3)
    obtain ⟨⟨c0, c1⟩, -, -⟩ := HS5.out.b.cells
    obtain ⟨⟨d0, d1⟩, e0, e1⟩ := HS5.out.z.cells
    obtain ⟨⟨r0, r1⟩, -, -⟩ := HF.out.z.cells
    have HR := Lib.hid (And.intro r0 r1)
    have HBE := Lib.hid ((Below.refl w.heap.size w).grown HF.out.g (Nat.le_refl _) (by simp))
    have HSE := Lib.hid HF.out.s.read
    clear r0 r1
    go_wp2_with fail
    exact bodyPost_ret (v := .tuple #[.agg #[.int .i64 cc, .slice au ll.length cu], .int .i64 md, .slice am M.length capm]) (by simp [results, Tryz.results12, go_sem, HR.out.1, HR.out.2]) rfl ⟨cc, _, ll, md, _, _, md0, md1, rfl, hll, hlr, HSE.out, HLQ.out.1, HLQ.out.2, HLE.out.read, HBE.out⟩
  | true =>
    obtain ⟨⟨z0, z1⟩, -, -⟩ := HS5.out.b.cells
    obtain ⟨i0, hi, hz0, hz1, hz2⟩ := info_parts infoDp
    have HI : Hid (_ ∧ _ ∧ _ ∧ _) := Lib.hid ⟨hi, hz0, hz1, hz2⟩
    clear hi hz0 hz1 hz2
    go_wp2_with fail
    refine (H3.out c w5 HS5.out.cur cc).mono ?_
    rintro e w6 ⟨x, y, x0, x1, y0, y1, rfl, g6, hc6⟩
    have HS6 := Lib.hid ((HS5.out.grown g6 hc6).still (World.grownBy_alloc w6 (.cells #[.int .i64 x, .int .i64 y] 35) none))
    have HO6 := Lib.hid (HO5.out.cur g6 hc4)
    have hs6 : w3.heap.size ≤ w6.heap.size := Nat.le_trans HW5.out g6.size
    clear g6 hc6 HS5 HO5 z0 z1
    go_wp2_with (at_builtin; refine wpList_append_own _ rfl _ _ 24 rfl w3.heap.size 35 i0 (.agg #[.int .i64 0, .int .i64 0]) 2 16 Tryz.underlying24 HI.out.1 HI.out.2.1 HI.out.2.2.1 HI.out.2.2.2 rfl (by decide) _ _ _ rfl (World.ownsRow.alloc HO6.out _) ⟨w6.heap.size, 0, none⟩ 1 1 [.int .i64 x, .int .i64 y] rfl rfl (cell_two_new _ _ _ _) (two_i64 _ _) (by unfold maxLen; omega) (by omega) (by rw [World.size_alloc]; omega) ?_; intro v8 w8 hown8 hgrow8 _; have HO8 := Lib.hid (OwnD.snoc hown8); have HS8 := Lib.hid (HS6.out.off hgrow8 (fun k e => Nat.lt_of_lt_of_le hTw ((OwnD.lt HO6.out k e).1))); obtain ⟨a8, c8, hv8, -⟩ := HO8.out.read; subst hv8; have HLQ : Hid ((M ++ [(x, y)]).length ≤ 200 ∧ ∀ d ∈ M ++ [(x, y)], (-1 ≤ d.1 ∧ d.1 ≤ 33) ∧ (-1 ≤ d.2 ∧ d.2 ≤ 5)) := Lib.hid ⟨by rw [List.length_append, List.length_singleton]; omega, fun d hd => by (rcases List.mem_append.1 hd with h | h); (have := HSM.out d h; omega); (rw [List.mem_singleton.1 h]; exact ⟨⟨x0, x1⟩, y0, y1⟩)⟩; clear hown8 hgrow8; obtain ⟨⟨c0, c1⟩, -, -⟩ := HS8.out.b.cells; obtain ⟨⟨d0, d1⟩, e0, e1⟩ := HS8.out.z.cells)
    have HF := Lib.hid (HS8.out.put0 (c' := cc) (u' := .slice au ll.length cu))
    have HLE := Lib.hid ((HO8.out.set12 (p := ⟨w.heap.size, 0, none⟩) (u := .int .i64 cc) hw3).set12 (p := ⟨w.heap.size, 1, none⟩) (u := .slice au ll.length cu) hw3)
    obtain ⟨⟨r0, r1⟩, -, -⟩ := HF.out.z.cells
    have HR := Lib.hid (And.intro r0 r1)
    have HBE := Lib.hid ((Below.refl w.heap.size w).grown HF.out.g (Nat.le_refl _) (by simp))
    have HSE := Lib.hid HF.out.s.read
    clear r0 r1
    exact bodyPost_ret (v := .tuple #[.agg #[.int .i64 cc, .slice au ll.length cu], .int .i64 md, .slice a8 (M ++ [(x, y)]).length c8]) (by simp [results, Tryz.results12, go_sem, HR.out.1, HR.out.2]) rfl ⟨cc, _, ll, md, _, _, md0, md1, rfl, hll, hlr, HSE.out, HLQ.out.1, HLQ.out.2, HLE.out.read, HBE.out⟩
end
end Go.Proofs.YtnbjcelfdppkcadGreat
