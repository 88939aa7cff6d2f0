/- Texts of this claim, merged: ClT, RdDraw, RdDraw2, RdDraw3, RdDraw4, ClU. Conditions: as stated. -/
import Derived.Test.YtnbjcelfdppkcacGreatWd20
import Derived.Test.YtnbjcelfdppkcacGreatClNm
import Derived.Test.YtnbjcelfdppkcacGreatWd21
import Derived.Test.YtnbjcelfdppkcacGreatClQm
import Derived.Test.YtnbjcelfdppkcacGreatWd2
import Derived.Test.YtnbjcelfdppkcacGreatWd5
import Derived.Test.YtnbjcelfdppkcacGreatClPm
import Derived.Deep.CutBlock
import Derived.Test.YtnbjcelfdppkcacGreatWd10
namespace Go.Proofs.YtnbjcelfdppkcacGreat
open Go.RowKit

theorem ded_facts {C : Nat} {l : List (Int × Int)} (hC : C ≤ 5) (ha : arD (C : Int) l = true) (hl : DepsN C l) :
    arD (C : Int) (dedTo (C : Int) l l.length) = true ∧ ∀ y, y < 32 → (ClosedN (dedTo (C : Int) l l.length) y ↔ ClosedN l y) := by
  have hlen := dedTo_len (C : Int) l l.length
  have h32 := two5 hC
  refine ⟨?_, fun y hy => ⟨fun hc d hd => ?_, fun hc d hd => ?_⟩⟩
  · have ha' := ha
    unfold arD at ha ⊢
    rw [Bool.and_eq_true, Bool.and_eq_true, List.all_eq_true, decide_eq_true_iff, decide_eq_true_iff] at ha ⊢
    refine ⟨fun d hd => ?_, ha.2.1, Nat.le_trans hlen ha.2.2⟩
    obtain ⟨j, hj, e⟩ := (dedTo_mem _).1 hd
    obtain ⟨L, R, e1, hL, hL32, hR, hb, e2⟩ := red_of hC ha' hl hj
    have hdp := ha.1 _ (memD hj)
    rw [e1] at hdp
    obtain ⟨k0, k1, k2, k3⟩ := depB_iff.1 hdp
    have hr := (redN_facts hC hl hL32 (show R < 5 by omega) 5 (Nat.le_refl _)).2.2.2.2 hL
    rw [e, e2]
    refine depB_iff.2 ⟨k0, ?_, k2, k3⟩
    unfold isA at k1 ⊢
    rw [decide_eq_true_iff] at k1 ⊢
    have hz : ((2 ^ C : Nat) : Int) = (2 : Int) ^ C := by rw [Int.natCast_pow]; rfl
    rw [show ((C : Int)).toNat = C from rfl] at k1 ⊢
    omega
  · obtain ⟨j, hj, ej⟩ := mem_at11 hd
    obtain ⟨L, R, e1, hL, hL32, hR, hb, e2⟩ := red_of hC ha hl hj
    rw [← ej, e1]
    intro hs
    have h := hc _ ((dedTo_mem _).2 ⟨j, hj, rfl⟩)
    rw [e2] at h
    exact h (subN_trans (redN_facts hC hl hL32 (show R < 5 by omega) 5 (Nat.le_refl _)).2.1 hs)
  · obtain ⟨j, hj, e⟩ := (dedTo_mem _).1 hd
    obtain ⟨L, R, e1, hL, hL32, hR, hb, e2⟩ := red_of hC ha hl hj
    obtain ⟨r1, r2, r3, r4, r5⟩ := redN_facts hC hl hL32 (show R < 5 by omega) 5 (Nat.le_refl _)
    rw [e, e2]
    intro hs
    exact cls_imp hC hl r1 (by omega) hy (r3 hb) hc hs
theorem brd_same {f g : Nat → Bool} : ∀ n, (∀ x, x < n → f x = g x) → brdTo f n = brdTo g n
  | 0, _ => rfl
  | n + 1, h => by
    have e1 : brdTo f (n + 1) = if f n = true then brdTo f n ++ [(n : Int)] else brdTo f n := rfl
    have e2 : brdTo g (n + 1) = if g n = true then brdTo g n ++ [(n : Int)] else brdTo g n := rfl
    rw [e1, e2, h n (by omega), brd_same n (fun x hx => h x (by omega))]
theorem cover_facts {n : Int} {l : List (Int × Int)} (ha : arD n l = true) :
    arD n (coL11 n l) = true ∧ (coL11 n l).length ≤ l.length ∧ smB n l (coL11 n l) = true ∧ icB n (coL11 n l) = true := by
  have ha0 := ha
  obtain ⟨C, rfl, hC1, hC5, hl20, hl⟩ := arD_n ha
  have h32 := two5 hC5
  obtain ⟨hq, hcq⟩ := ded_facts hC5 ha hl
  have hlen := dedTo_len (C : Int) l l.length
  have e : coL11 (C : Int) l = rmL (C : Int) (dedTo (C : Int) l l.length).length (dedTo (C : Int) l l.length) 0 := by unfold coL11; rw [if_pos ha]
  obtain ⟨h1, h2, h3, h4⟩ := rm_facts (n := (C : Int)) (dedTo (C : Int) l l.length).length (dedTo (C : Int) l l.length) 0 (by omega) (Nat.zero_le _) hq (fun j hj => absurd hj (Nat.not_lt_zero _))
  rw [← e] at h1 h2 h3 h4
  have hc := arD_sub hq h1 h2
  obtain ⟨C', e', -, -, -, hcl⟩ := arD_n hc
  obtain rfl : C = C' := by omega
  have hcl2 : ∀ y, y < 32 → (ClosedN (coL11 (C : Int) l) y ↔ ClosedN l y) := fun y hy => (h3 y hy).trans (hcq y hy)
  refine ⟨hc, by omega, ?_, ?_⟩
  · unfold smB
    rw [ha, hc, Bool.true_and, Bool.true_and, decide_eq_true_iff]
    unfold clsL
    rw [if_pos ha, if_pos hc]
    refine brd_same _ (fun x hx => ?_)
    rw [show ((C : Int)).toNat = C from rfl] at hx
    rw [Bool.eq_iff_iff, clB_iff, clB_iff]
    exact (hcl2 x (by omega)).symm
  · refine ic_all hc (fun j hj => ?_)
    unfold icAt
    rw [h4 j hj, Bool.not_false, Bool.true_and, decide_eq_true_iff]
    obtain ⟨m, hm, em⟩ := (dedTo_mem _).1 (h1 _ (memD hj))
    obtain ⟨L, R, e1, hL, hL32, hR, hb, e2⟩ := red_of hC5 ha hl hm
    rw [em, e2]
    obtain ⟨r1, r2, r3, r4, r5⟩ := redN_facts hC5 hl hL32 (show R < 5 by omega) 5 (Nat.le_refl _)
    unfold redD
    split
    · have hst := redN_stay (l := coL11 (C : Int) l) (R := R) (X := redN l R L 5) (fun k hk hbk => by
        have hx := (clrN_bits ⟨_, r1⟩ ⟨k, hk⟩).2.1
        rw [clo_same hC5 hcl hl hcl2 hx]
        exact r4 k hk hbk) 5 (Nat.le_refl _)
      show (((redN (coL11 (C : Int) l) R (redN l R L 5) 5 : Nat) : Int), (R : Int)) = _
      rw [hst]
    · rfl
theorem coL11_len (n : Int) (l : List (Int × Int)) : (coL11 n l).length ≤ l.length := by
  cases h : arD n l with
  | true => exact (cover_facts h).2.1
  | false => unfold coL11; rw [h]; exact Nat.zero_le _
theorem pjL_len (n : Int) (l : List (Int × Int)) (s : Int) : (pjL n l s).length ≤ 160 := by
  unfold pjL
  split
  · rename_i hp
    rw [Bool.and_eq_true] at hp
    obtain ⟨C, rfl, hC1, hC5, -, hl⟩ := arD_n hp.1
    have h1 := pjOut_len l s.toNat (parts (C : Int)) ((C : Int)).toNat
    have h2 := parts_len32 hC5
    have h3 : ((C : Int)).toNat * (parts (C : Int)).length ≤ 5 * 32 := Nat.mul_le_mul (by omega) h2
    omega
  · exact Nat.zero_le _
end Go.Proofs.YtnbjcelfdppkcacGreat
namespace Go.Proofs.YtnbjcelfdppkcacGreat
open Go.RowKit

theorem OwnD.keptBy {w w' : World} {B : Nat} {v : Value} {l : List (Int × Int)} {row : Option Nat} (h : OwnD w B v l) (hg : w.grownBy w' row) (hr : ∀ g, row = some g → v.ownBlock ≠ some g) : OwnD w' B v l := by
  refine World.ownsRow.kept h hg ?_
  cases hv : v.ownBlock with
  | none => exact .inl rfl
  | some g => right; intro e; exact hr g e.symm hv
theorem OwnD.cur {w w' : World} {B c : Nat} {u : Value} {l : List (Int × Int)} (h : OwnD w B u l) (hg : w.grownBy w' (some c)) (hc : c < B) : OwnD w' B u l :=
  h.keptBy hg (fun g e1 e2 => by cases e1; have := (h.lt _ e2).1; omega)
/-- What a drawn list of dependencies is. -/
def DepsBd (q : List (Int × Int)) : Prop := q.length ≤ 20 ∧ ∀ d ∈ q, (-1 ≤ d.1 ∧ d.1 ≤ 33) ∧ (-1 ≤ d.2 ∧ d.2 ≤ 5)
theorem wf_sm {x : Int} (h1 : -1000 ≤ x) (h2 : x ≤ 1000) : (Lit.int .i64 x).wf = true := by
  unfold Lit.wf
  simp only [IntKind.min, IntKind.max, IntKind.signed, IntKind.bits, Bool.and_eq_true, decide_eq_true_iff]
  constructor <;> (simp; omega)
theorem DepsBd.wf {q : List (Int × Int)} (h : DepsBd q) : ∀ d ∈ q, (Lit.int .i64 d.1).wf = true ∧ (Lit.int .i64 d.2).wf = true := fun d hd => by
  obtain ⟨⟨a, b⟩, c, e⟩ := h.2 d hd
  exact ⟨wf_sm (by omega) (by omega), wf_sm (by omega) (by omega)⟩
def CurDeps (most : Nat) (W : World) (v : Value) (n c : Nat) (w : World) (e : Ending) (w' : World) : Prop :=
  ∃ (u : Value) (q : List (Int × Int)), e = .returned u ∧ q.length ≤ most ∧ DepsBd q ∧ OwnD w' w.heap.size u q ∧ w.grownBy w' (some c) ∧ Cur W v n c w'
theorem bd_snoc {q : List (Int × Int)} {x y : Int} (h : DepsBd q) (hl : q.length ≤ 10) (hx : -1 ≤ x ∧ x ≤ 33) (hy : -1 ≤ y ∧ y ≤ 5) : DepsBd (q ++ [(x, y)]) := by
  refine ⟨by rw [List.length_append, List.length_singleton]; omega, fun d hd => ?_⟩
  rcases List.mem_append.1 hd with h' | h'
  · exact h.2 d h'
  · rw [List.mem_singleton] at h'
    subst h'
    exact ⟨hx, hy⟩
section
set_option maxRecDepth 20000
set_option maxHeartbeats 1600000
theorem deps6_any (W : World) (v : Value) (n : Nat) (hn : n ≤ 1048576) (hcode : CodeAt W v n) (c : Nat) (w : World) (hcur : Cur W v n c w) (k : Int) (h1 : 1 ≤ k) (h2 : k ≤ 5) :
    Calls Tryz.prog 70 #[.pointer (some ⟨c, 0, none⟩), .int .i64 k] w (CurDeps 4 W v n c w) := by
  have HB := Lib.hid (below_any W v n hn hcode c)
  have HD := Lib.hid (fun w' (hc : Cur W v n c w') => dep6_any W v n hn hcode c w' hc k h1 h2)
  obtain ⟨i0, hi, hz0, hz1, hz2⟩ := info_parts infoDp
  have HI : Hid (_ ∧ _ ∧ _ ∧ _) := Lib.hid ⟨hi, hz0, hz1, hz2⟩
  clear hi hz0 hz1 hz2
  have hcw := hcur.lt
  have hWc : W.heap.size ≤ c := by obtain ⟨_, _, h, _⟩ := hcur; exact h
  have hcur0 := hcur.kept (World.grownBy_alloc w (.cells #[] 40) none) (by simp) (by simp)
  have hown0 : OwnD (w.alloc (.cells #[] 40)) w.heap.size (.slice (some ⟨w.heap.size, 0, none⟩) 0 0) [] := own_made w w.heap.size 40 2 (Nat.le_refl _)
  have hg0 : w.grownBy (w.alloc (.cells #[] 40)) (some c) := World.grownBy_alloc w _ _
  clear h1 h2
  go_enter Tryz.func70, Tryz.ntmps70
  go_wp2_with fail
  refine (HB.out _ hcur0 5 (by omega) (by omega)).mono ?_
  rintro e w1 ⟨m0, m1, m2, rfl, g1, hc1⟩
  have hown1 := hown0.cur g1 hcw
  have hg1 := grown_trans hg0 g1
  clear g1 hcur0 hown0 hg0
  go_wp2_with fail
  go_loopw [5, 6] (fun ov iv wr => ∃ (m : Int) (q : List (Int × Int)), 0 ≤ m ∧ m ≤ 4 ∧ iv = .int .i64 m ∧ Hid ((q.length : Int) + m ≤ 4 ∧ DepsBd q) ∧ Hid (OwnD wr w.heap.size ov q) ∧ w.grownBy wr (some c) ∧ Cur W v n c wr) (fun _ iv _ => (intOf iv).toNat)
  case atStart => exact ⟨m0, [], by omega, by omega, rfl, Lib.hid ⟨by simp; omega, by simp [DepsBd]⟩, Lib.hid hown1, hg1, hc1⟩
  case round =>
    clear hown1 hg1 hc1
    obtain ⟨m, q, hm0, hm6, rfl, hL, HO, hg, hc⟩ := hrel
    have hlm : q.length ≤ 4 := by have := hL.out.1; omega
    by_cases hlt : 0 < m
    · go_wp2_with fail
      refine (HD.out _ hc).mono ?_
      rintro e w2 ⟨x, y, x0, x1, y0, y1, rfl, g2, hc2⟩
      have HO2 := Lib.hid (HO.out.cur g2 hcw)
      have hg2 := grown_trans hg g2
      have HC2 := Lib.hid hc2
      have HG2 := Lib.hid hg2
      have HX := Lib.hid (bx_new w2 x y)
      have HBD := Lib.hid (bd_snoc hL.out.2 (by omega) (show -1 ≤ x ∧ x ≤ 33 by omega) (show -1 ≤ y ∧ y ≤ 5 by omega))
      obtain ⟨a3, c3, hov⟩ := HO2.out.shape
      subst hov
      clear g2 hc HO hg hg2 hc2
      go_upto_region 6 with fail
      obtain ⟨w3, hw3⟩ : ∃ w3, w3 = w2.alloc (.cells #[.int .i64 x, .int .i64 y] 40) := ⟨_, rfl⟩
      have HO3 : Hid (OwnD w3 w.heap.size (.slice a3 q.length c3) q) := Lib.hid (by rw [hw3]; exact World.ownsRow.alloc HO2.out _)
      have HC3 : Hid (Cur W v n c w3) := Lib.hid (by rw [hw3]; exact HC2.out.kept (World.grownBy_alloc w2 _ none) (by simp) (by simp))
      have HG3 : Hid (w.grownBy w3 (some c)) := Lib.hid (by rw [hw3]; exact grown_trans HG2.out (World.grownBy_alloc w2 _ (some c)))
      rw [← hw3] at HX ⊢
      obtain ⟨g, hgg⟩ : ∃ g, g = w2.heap.size := ⟨_, rfl⟩
      rw [← hgg] at HX ⊢
      clear hw3 hgg HO2 HC2 HG2
      have d0 := HX.out.c0
      have d1 := HX.out.c1
      have ho3 := HO3.out
      unfold OwnD at ho3
      go_wp2_with (at_builtin; refine wpList_append_own _ rfl _ _ 24 rfl w.heap.size 40 i0 (.agg #[.int .i64 0, .int .i64 0]) 2 16 Tryz.underlying24 HI.out.1 HI.out.2.1 HI.out.2.2.1 HI.out.2.2.2 rfl (by decide) _ _ _ rfl (World.ownsRow.alloc ho3 _) ⟨w3.heap.size, 0, none⟩ 1 1 [.int .i64 x, .int .i64 y] rfl rfl (cell_two_new _ _ _ _) (two_i64 _ _) (by unfold maxLen; omega) (by omega) (le_of_grown HG3.out _) ?_; intro v' w4 hown' hgrow _; have HO4 := Lib.hid (OwnD.snoc hown'); have HG4 := Lib.hid (grown_above (grown_trans HG3.out (World.grownBy_alloc w3 _ _)) hgrow (fun g h => (OwnD.lt HO3.out g h).1)); have HC4 := Lib.hid ((HC3.out.kept (World.grownBy_alloc w3 _ none) (by simp) (by simp)).kept hgrow (fun g h => by have := (OwnD.lt HO3.out g h).1; omega) (fun h => by have := (OwnD.lt HO3.out c h).1; omega)); clear hown' hgrow)
      go_roundw
      case rel => exact ⟨m - 1, _, by omega, by omega, by go_num, Lib.hid ⟨by have := hL.out.1; simp; omega, HBD.out⟩, HO4, HG4.out, HC4.out⟩
      case measure => simp [intOf]; omega
    · have hd : decide (0 < m) = false := by simp; omega
      go_wp2_with fail
      go_ret
      exact ⟨_, q, rfl, by omega, hL.out.2, HO.out, hg, hc⟩
end
end Go.Proofs.YtnbjcelfdppkcacGreat
namespace Go.Proofs.YtnbjcelfdppkcacGreat
open Go.RowKit

def Cur10 (W : World) (v : Value) (n c : Nat) (w : World) (e : Ending) (w' : World) : Prop :=
  ∃ (m : Int) (u : Value) (q : List (Int × Int)), e = .returned (.tuple #[.int .i64 m, u]) ∧ 0 ≤ m ∧ m ≤ 6 ∧ DepsBd q ∧ OwnD w' w.heap.size u q ∧ w.grownBy w' (some c) ∧ Cur W v n c w'
theorem pick4d (w : World) (C : Array Value) (hC : C = #[.int .i64 0, .int .i64 1, .int .i64 5, .int .i64 6]) (t : TypeId) :
    ∀ i, i < 4 → ∃ y : Int, 0 ≤ y ∧ y ≤ 6 ∧ (w.alloc (.cells C t)).cell? ⟨w.heap.size, i, none⟩ = some (.int .i64 y) := by
  intro i hi
  have e : (w.alloc (.cells C t)).cell? ⟨w.heap.size, i, none⟩ = C[i]? := World.cell?_alloc_mark w C t (0, 0) i
  rw [e, hC]
  rcases (show i = 0 ∨ i = 1 ∨ i = 2 ∨ i = 3 by omega) with rfl | rfl | rfl | rfl
  all_goals (refine ⟨_, ?_, ?_, rfl⟩ <;> decide)
section
set_option maxRecDepth 20000
set_option maxHeartbeats 3200000
theorem draw10_any (W : World) (v : Value) (n : Nat) (hn : n ≤ 1048576) (hcode : CodeAt W v n) (c : Nat) (w : World) (hcur : Cur W v n c w) :
    Calls Tryz.prog 29 #[.pointer (some ⟨c, 0, none⟩)] w (Cur10 W v n c w) := by
  have HB := Lib.hid (below_any W v n hn hcode c)
  have HD := Lib.hid (fun k h1 h2 w' (hc : Cur W v n c w') => deps6_any W v n hn hcode c w' hc k h1 h2)
  have HA := Lib.hid (anyDep_any W v n hn hcode c)
  have HP := Lib.hid (pick_any W v n hn hcode c)
  obtain ⟨i0, hi, hz0, hz1, hz2⟩ := info_parts infoDp
  have HI : Hid (_ ∧ _ ∧ _ ∧ _) := Lib.hid ⟨hi, hz0, hz1, hz2⟩
  clear hi hz0 hz1 hz2
  have hcw := hcur.lt
  go_enter Tryz.func29, Tryz.ntmps29
  go_wp2_with fail
  refine (HB.out _ hcur 3 (by omega) (by omega)).mono ?_
  rintro e w1 ⟨x, x0, x1, rfl, g1, hc1⟩
  have hw1 : IntKind.i64.wrap (2 + x) = 2 + x := IntWalk.i64_in _ (by omega)
  have hw2 : wrap64 (2 + x) = 2 + x := by rw [← IntWalk.i64_left]; exact hw1
  have HC1 := Lib.hid hc1
  have HG1 := Lib.hid g1
  have s1 := g1.size
  clear g1 hc1
  go_wp2_with fail
  refine (HD.out (2 + x) (by omega) (by omega) _ HC1.out).mono ?_
  rintro e w2 ⟨u, q, rfl, hq4, hqb, ho2, g2, hc2⟩
  have HO2 := Lib.hid (ho2.base s1)
  have HG2 := Lib.hid (grown_trans HG1.out g2)
  have HC2 := Lib.hid hc2
  have HQB := Lib.hid hqb
  have s2 := HG2.out.size
  clear g2 hc2 ho2 hqb HG1 HC1
  go_wp2_with fail
  refine (HB.out _ HC2.out 14 (by omega) (by omega)).mono ?_
  rintro e w3 ⟨z, z0, z1, rfl, g3, hc3⟩
  have HO3 := Lib.hid (HO2.out.cur g3 hcw)
  have HG3 := Lib.hid (grown_trans HG2.out g3)
  have HC3 := Lib.hid hc3
  have s3 := HG3.out.size
  clear g3 hc3 HO2 HG2 HC2
  obtain ⟨a3, c3, hov⟩ := HO3.out.shape
  subst hov
  by_cases hz : z = 0
  · subst hz
    go_wp2_with fail
    refine (HA.out _ HC3.out _).mono ?_
    rintro e w4 ⟨l, r, l0, l1, r0, r1, rfl, g4, hc4⟩
    have HO4 := Lib.hid (HO3.out.cur g4 hcw)
    have HG4 := Lib.hid (grown_trans HG3.out g4)
    have HC4 := Lib.hid hc4
    have HBD := Lib.hid (bd_snoc HQB.out (by omega) (show -1 ≤ l ∧ l ≤ 33 by omega) (show -1 ≤ r ∧ r ≤ 5 by omega))
    have ho4 := HO4.out
    unfold OwnD at ho4
    clear g4 hc4 HO3 HG3 HC3
    go_wp2_with (at_builtin; refine wpList_append_own _ rfl _ _ 24 rfl w.heap.size 40 i0 (.agg #[.int .i64 0, .int .i64 0]) 2 16 Tryz.underlying24 HI.out.1 HI.out.2.1 HI.out.2.2.1 HI.out.2.2.2 rfl (by decide) _ _ _ rfl (World.ownsRow.alloc ho4 _) ⟨w4.heap.size, 0, none⟩ 1 1 [.int .i64 l, .int .i64 r] rfl rfl (cell_two_new _ _ _ _) (two_i64 _ _) (by unfold maxLen; omega) (by omega) (le_of_grown HG4.out _) ?_; intro v' w5 hown' hgrow _; have HO5 := Lib.hid (OwnD.snoc hown'); have HG5 := Lib.hid (grown_above (grown_trans HG4.out (World.grownBy_alloc w4 _ _)) hgrow (fun g h => (OwnD.lt HO4.out g h).1)); have HC5 := Lib.hid ((HC4.out.kept (World.grownBy_alloc w4 _ none) (by simp) (by simp)).kept hgrow (fun g h => by have := (OwnD.lt HO4.out g h).1; have h2 := HC4.out; obtain ⟨_, _, h3, _⟩ := h2; omega) (fun h => by have := (OwnD.lt HO4.out c h).1; omega)); clear hown' hgrow)
    exact bodyPost_ret (v := .tuple #[.int .i64 (2 + x), v']) (by simp [results, Tryz.results29, go_sem]) rfl ⟨2 + x, _, _, rfl, by omega, by omega, HBD.out, HO5.out, HG5.out, HC5.out⟩
  · by_cases hz' : z = 1
    · subst hz'
      have HCA := Lib.hid (fun o => HC3.out.kept (World.grownBy_alloc w3 o none) (by simp) (by simp))
      have hcl := HC3.out.lt
      go_wp2_with fail
      refine (HP.out _ (HCA.out _) w3.heap.size 4 0 6 (by omega) (by omega) (by omega) (by simp) (pick4d w3 _ rfl _)).mono ?_
      rintro e w4 ⟨m, m0, m1, rfl, g4, hc4⟩
      have HO4 := Lib.hid (OwnD.cur (World.ownsRow.alloc HO3.out _) g4 hcw)
      have HG4 := Lib.hid (grown_trans (grown_trans HG3.out (World.grownBy_alloc w3 _ (some c))) g4)
      have HC4 := Lib.hid hc4
      clear g4 hc4 HO3 HG3 HC3
      go_wp2_with fail
      exact bodyPost_ret (v := .tuple #[.int .i64 m, .slice a3 q.length c3]) (by simp [results, Tryz.results29, go_sem]) rfl ⟨m, _, _, rfl, by omega, by omega, HQB.out, HO4.out, HG4.out, HC4.out⟩
    · go_wp2_with fail
      exact bodyPost_ret (v := .tuple #[.int .i64 (2 + x), .slice a3 q.length c3]) (by simp [results, Tryz.results29, go_sem]) rfl ⟨2 + x, _, _, rfl, by omega, by omega, HQB.out, HO3.out, HG3.out, HC3.out⟩
end
end Go.Proofs.YtnbjcelfdppkcacGreat
namespace Go.Proofs.YtnbjcelfdppkcacGreat
open Go.RowKit

/-- A number of columns and dependencies, readable, and as they are drawn. -/
def DrL (w' : World) (m : Int) (u : Value) (q : List (Int × Int)) : Prop := (-100 ≤ m ∧ m ≤ 100) ∧ DepsBd q ∧ ReadD w' u q ∧ CapOk u
def DrawnND (w : World) (e : Ending) (w' : World) : Prop := ∃ m u q, e = .returned (.tuple #[.int .i64 m, u]) ∧ DrL w' m u q ∧ Below w.heap.size w w'
def DrawnNDI (w : World) (e : Ending) (w' : World) : Prop := ∃ m u q s, e = .returned (.tuple #[.int .i64 m, u, .int .i64 s]) ∧ (-1 ≤ s ∧ s ≤ 40) ∧ DrL w' m u q ∧ Below w.heap.size w w'
def DrawnNDD (w : World) (e : Ending) (w' : World) : Prop := ∃ m u q l r, e = .returned (.tuple #[.int .i64 m, u, .agg #[.int .i64 l, .int .i64 r]]) ∧ (-1 ≤ l ∧ l ≤ 33) ∧ (-1 ≤ r ∧ r ≤ 5) ∧ (0 ≤ m ∧ m ≤ 6) ∧ DepsBd q ∧ OwnD w' w.heap.size u q ∧ Below w.heap.size w w'
def DrawnNDS (w : World) (e : Ending) (w' : World) : Prop := ∃ m u q u2 q2, e = .returned (.tuple #[.int .i64 m, u, u2]) ∧ DrL w' m u q ∧ DepsBd q2 ∧ ReadD w' u2 q2 ∧ CapOk u2 ∧ Below w.heap.size w w'
theorem DrL.of {w' : World} {m : Int} {u : Value} {q : List (Int × Int)} {B : Nat} (h0 : 0 ≤ m) (h1 : m ≤ 6) (hb : DepsBd q) (ho : OwnD w' B u q) : DrL w' m u q := ⟨by omega, hb, ho.read, ho.capOk⟩
theorem col_bd {n : Int} {l : List (Int × Int)} (h : l.length ≤ 20) : DepsBd (coL11 n l) := by
  cases ha : arD n l with
  | false =>
    have e : coL11 n l = [] := by unfold coL11; rw [ha]; rfl
    rw [e]
    exact ⟨by simp, fun d hd => by cases hd⟩
  | true =>
    obtain ⟨h1, h2, -, -⟩ := cover_facts ha
    obtain ⟨C, -, h1C, hC, -, hd⟩ := arD_n h1
    have h32 := two5 hC
    refine ⟨by omega, fun d hdm => ?_⟩
    obtain ⟨L, R, rfl, hL, hR⟩ := hd d hdm
    exact ⟨⟨by show (-1 : Int) ≤ (L : Int); omega, by show (L : Int) ≤ 33; omega⟩, by show (-1 : Int) ≤ (R : Int); omega, by show (R : Int) ≤ 5; omega⟩
theorem Cur.below {W w w' : World} {v : Value} {n c : Nat} (h : Cur W v n c w) (b : Below w.heap.size w w') : Cur W v n c w' :=
  h.kept (row := none) ⟨b.os, b.tape, b.output, b.size, fun k hk _ => b.block k hk⟩ (by simp) (by simp)
section
set_option maxRecDepth 20000
set_option maxHeartbeats 3200000
theorem drawCoverOf_any (W : World) (v : Value) (n : Nat) (hn : n ≤ 1048576) (hcode : CodeAt W v n) (w : World) (hb : Below W.heap.size W w) :
    Calls Tryz.prog 5 #[v] w (DrawnND w) := by
  have H1 := Lib.hid (new_any W v n hn hcode w hb)
  have H2 := Lib.hid (draw10_any W v n hn hcode)
  obtain ⟨a, cap, rfl⟩ := code_slice hcode
  go_enter Tryz.func5, Tryz.ntmps5
  go_wp2_with fail
  refine H1.out.mono ?_
  rintro e w1 ⟨c, hc, rfl, g1, hc1⟩
  have B1 := (Below.refl w.heap.size w).grown g1 (Nat.le_refl _) (by simp)
  have hcw := hc1.lt
  clear g1
  go_wp2_with fail
  refine (H2.out c w1 hc1).mono ?_
  rintro e w2 ⟨m, u, q, rfl, m0, m1, hq, ho, g2, hc2⟩
  have B2 := B1.grown g2 B1.size (fun k e => by cases e; exact hc)
  have HL := Lib.hid (DrL.of m0 m1 hq ho)
  clear g2 hc1 hc2 ho hq
  go_wp2_with fail
  exact bodyPost_ret (v := .tuple #[.int .i64 m, u]) (by simp [results, Tryz.results5, go_sem]) rfl ⟨m, u, q, rfl, HL.out, B2⟩
theorem drawIsCover_any (W : World) (v : Value) (n : Nat) (hn : n ≤ 1048576) (hcode : CodeAt W v n) (w : World) (hb : Below W.heap.size W w) :
    Calls Tryz.prog 22 #[v] w (DrawnND w) := by
  have H1 := Lib.hid (new_any W v n hn hcode w hb)
  have H2 := Lib.hid (draw10_any W v n hn hcode)
  have H3 := Lib.hid (once_any W v n hn hcode)
  obtain ⟨a, cap, rfl⟩ := code_slice hcode
  go_enter Tryz.func22, Tryz.ntmps22
  go_wp2_with fail
  refine H1.out.mono ?_
  rintro e w1 ⟨c, hc, rfl, g1, hc1⟩
  have B1 := (Below.refl w.heap.size w).grown g1 (Nat.le_refl _) (by simp)
  have hcw := hc1.lt
  clear g1
  go_wp2_with fail
  refine (H2.out c w1 hc1).mono ?_
  rintro e w2 ⟨m, u, q, rfl, m0, m1, hq, ho, g2, hc2⟩
  have B2 := B1.grown g2 B1.size (fun k e => by cases e; exact hc)
  have HO2 := Lib.hid ho
  have HQ := Lib.hid hq
  clear g2 ho hq hc1
  go_wp2_with fail
  refine (H3.out c w2 hc2 2 (by omega) (by omega)).mono ?_
  rintro e w3 ⟨bq, rfl, g3, hc3⟩
  have B3 := B2.grown g3 B2.size (fun k e => by cases e; exact hc)
  have HO3 := Lib.hid (HO2.out.cur g3 hcw)
  clear g3 HO2 hc2 hc3
  have hql := HQ.out.1
  cases bq with
  | true =>
    have HCV := Lib.hid (coverOf11_any u m q w3 HO3.out.read (by omega))
    have HCB := Lib.hid (col_bd (n := m) hql)
    obtain ⟨a3, c3, hov⟩ := HO3.out.shape
    subst hov
    go_wp2_with fail
    refine HCV.out.mono ?_
    rintro e w4 ⟨v4, rfl, o4, b4⟩
    have B4 := B3.trans (b4.mono B3.size)
    have HL := Lib.hid (DrL.of m0 m1 HCB.out o4)
    clear b4 o4
    go_wp2_with fail
    exact bodyPost_ret (v := .tuple #[.int .i64 m, v4]) (by simp [results, Tryz.results22, go_sem]) rfl ⟨m, v4, _, rfl, HL.out, B4⟩
  | false =>
    have HL := Lib.hid (DrL.of m0 m1 HQ.out HO3.out)
    go_wp2_with fail
    exact bodyPost_ret (v := .tuple #[.int .i64 m, u]) (by simp [results, Tryz.results22, go_sem]) rfl ⟨m, u, q, rfl, HL.out, B3⟩
theorem drawClosureOf_any (W : World) (v : Value) (n : Nat) (hn : n ≤ 1048576) (hcode : CodeAt W v n) (w : World) (hb : Below W.heap.size W w) :
    Calls Tryz.prog 53 #[v] w (DrawnNDI w) := by
  have H1 := Lib.hid (new_any W v n hn hcode w hb)
  have H2 := Lib.hid (draw10_any W v n hn hcode)
  have H3 := Lib.hid (once_any W v n hn hcode)
  have H4 := Lib.hid (anySet_any W v n hn hcode)
  have H5 := Lib.hid (below_any W v n hn hcode)
  obtain ⟨a, cap, rfl⟩ := code_slice hcode
  go_enter Tryz.func53, Tryz.ntmps53
  go_wp2_with fail
  refine H1.out.mono ?_
  rintro e w1 ⟨c, hc, rfl, g1, hc1⟩
  have B1 := (Below.refl w.heap.size w).grown g1 (Nat.le_refl _) (by simp)
  have hcw := hc1.lt
  clear g1
  go_wp2_with fail
  refine (H2.out c w1 hc1).mono ?_
  rintro e w2 ⟨m, u, q, rfl, m0, m1, hq, ho, g2, hc2⟩
  have B2 := B1.grown g2 B1.size (fun k e => by cases e; exact hc)
  have HO2 := Lib.hid ho
  have HQ := Lib.hid hq
  clear g2 ho hq hc1
  go_wp2_with fail
  refine (H3.out c w2 hc2 8 (by omega) (by omega)).mono ?_
  rintro e w3 ⟨bq, rfl, g3, hc3⟩
  have B3 := B2.grown g3 B2.size (fun k e => by cases e; exact hc)
  have HO3 := Lib.hid (HO2.out.cur g3 hcw)
  clear g3 HO2 hc2
  cases bq with
  | true =>
    go_wp2_with fail
    refine (H4.out c w3 hc3).mono ?_
    rintro e w4 ⟨s, s0, s1, rfl, g4, hc4⟩
    have B4 := B3.grown g4 B3.size (fun k e => by cases e; exact hc)
    have HL := Lib.hid (DrL.of m0 m1 HQ.out (HO3.out.cur g4 hcw))
    clear g4
    go_wp2_with fail
    exact bodyPost_ret (v := .tuple #[.int .i64 m, u, .int .i64 s]) (by simp [results, Tryz.results53, go_sem]) rfl ⟨m, u, q, s, rfl, by omega, HL.out, B4⟩
  | false =>
    go_wp2_with fail
    refine (H5.out c w3 hc3 4 (by omega) (by omega)).mono ?_
    rintro e w4 ⟨s, s0, s1, rfl, g4, hc4⟩
    have B4 := B3.grown g4 B3.size (fun k e => by cases e; exact hc)
    have HL := Lib.hid (DrL.of m0 m1 HQ.out (HO3.out.cur g4 hcw))
    clear g4
    go_wp2_with fail
    exact bodyPost_ret (v := .tuple #[.int .i64 m, u, .int .i64 s]) (by simp [results, Tryz.results53, go_sem]) rfl ⟨m, u, q, s, rfl, by omega, HL.out, B4⟩
theorem drawProjectDeps_any (W : World) (v : Value) (n : Nat) (hn : n ≤ 1048576) (hcode : CodeAt W v n) (w : World) (hb : Below W.heap.size W w) :
    Calls Tryz.prog 18 #[v] w (DrawnNDI w) := by
  have H1 := Lib.hid (drawClosureOf_any W v n hn hcode w hb)
  obtain ⟨a, cap, rfl⟩ := code_slice hcode
  go_enter Tryz.func18, Tryz.ntmps18
  go_wp2_with fail
  refine H1.out.mono ?_
  rintro e w1 ⟨m, u, q, s, rfl, hs, hl, b1⟩
  have HL := Lib.hid hl
  clear hl
  go_wp2_with fail
  exact bodyPost_ret (v := .tuple #[.int .i64 m, u, .int .i64 s]) (by simp [results, Tryz.results18, go_sem]) rfl ⟨m, u, q, s, rfl, hs, HL.out, b1⟩
theorem drawSameMeaning_any (W : World) (v : Value) (n : Nat) (hn : n ≤ 1048576) (hcode : CodeAt W v n) (w : World) (hb : Below W.heap.size W w) :
    Calls Tryz.prog 23 #[v] w (DrawnNDS w) := by
  have H1 := Lib.hid (new_any W v n hn hcode w hb)
  have H2 := Lib.hid (draw10_any W v n hn hcode)
  have H3 := Lib.hid (once_any W v n hn hcode)
  obtain ⟨a, cap, rfl⟩ := code_slice hcode
  go_enter Tryz.func23, Tryz.ntmps23
  go_wp2_with fail
  refine H1.out.mono ?_
  rintro e w1 ⟨c, hc, rfl, g1, hc1⟩
  have B1 := (Below.refl w.heap.size w).grown g1 (Nat.le_refl _) (by simp)
  have hcw := hc1.lt
  clear g1
  go_wp2_with fail
  refine (H2.out c w1 hc1).mono ?_
  rintro e w2 ⟨m, u, q, rfl, m0, m1, hq, ho, g2, hc2⟩
  have B2 := B1.grown g2 B1.size (fun k e => by cases e; exact hc)
  have HO2 := Lib.hid ho
  have HQ := Lib.hid hq
  have s12 := g2.size
  clear g2 ho hq hc1
  go_wp2_with fail
  refine (H3.out c w2 hc2 2 (by omega) (by omega)).mono ?_
  rintro e w3 ⟨bq, rfl, g3, hc3⟩
  have B3 := B2.grown g3 B2.size (fun k e => by cases e; exact hc)
  have HO3 := Lib.hid (HO2.out.cur g3 hcw)
  have s23 := g3.size
  clear g3 HO2 hc2
  have hql := HQ.out.1
  have HAD := Lib.hid (areDeps10_any u m q w3 HO3.out.read (by omega))
  have HCV := Lib.hid (fun w' (hb : Below w3.heap.size w3 w') => coverOf11_any u m q w' (HO3.out.read.kept hb) (by omega))
  have HCB := Lib.hid (col_bd (n := m) hql)
  have HDR := Lib.hid (fun w' (hcur : Cur W (.slice a n cap) n c w') => H2.out c w' hcur)
  have htail : ∀ w4, Below w3.heap.size w3 w4 → Hid (Cur W (.slice a n cap) n c w4 ∧ OwnD w4 w1.heap.size u q ∧ Below w.heap.size w w4) := fun w4 b4 => Lib.hid ⟨hc3.below b4, HO3.out.below b4 (fun k hk => (HO3.out.lt k hk).2), B3.trans (b4.mono B3.size)⟩
  have HT := Lib.hid htail
  clear htail hc3
  obtain ⟨a3, c3, hov⟩ := HO3.out.shape
  cases bq with
  | false =>
    have HX := HT.out w3 (Below.refl _ _)
    have hcx := HX.out.1
    subst hov
    go_wp2_with fail
    refine (HDR.out _ hcx).mono ?_
    rintro e w5 ⟨m5, u5, q5, rfl, m50, m51, hq5, ho5, g5, hc5⟩
    have B5 := HX.out.2.2.grown g5 HX.out.2.2.size (fun k e => by cases e; exact hc)
    have HL := Lib.hid (DrL.of m0 m1 HQ.out (HX.out.2.1.cur g5 hcw))
    have HO5 := Lib.hid ho5
    have HQ5 := Lib.hid hq5
    clear g5 ho5 hq5 hcx
    go_wp2_with fail
    exact bodyPost_ret (v := .tuple #[.int .i64 m, .slice a3 q.length c3, u5]) (by simp [results, Tryz.results23, go_sem]) rfl ⟨m, _, q, u5, q5, rfl, HL.out, HQ5.out, HO5.out.read, HO5.out.capOk, B5⟩
  | true =>
    cases hd : arD m q with
    | true =>
      rw [hd] at HAD
      subst hov
      clear hd
      go_wp2_with fail
      refine HAD.out.mono ?_
      rintro e w4 ⟨rfl, b4⟩
      have HX := HT.out w4 b4
      have HB4 := Lib.hid b4
      clear b4
      go_wp2_with fail
      refine (HCV.out _ HB4.out).mono ?_
      rintro e w5 ⟨v5, rfl, o5, b5⟩
      have B5 := HX.out.2.2.trans (b5.mono HX.out.2.2.size)
      have HL := Lib.hid (DrL.of m0 m1 HQ.out (HX.out.2.1.below b5 (fun k hk => (HX.out.2.1.lt k hk).2)))
      have HO5 := Lib.hid o5
      clear b5 o5
      go_wp2_with fail
      exact bodyPost_ret (v := .tuple #[.int .i64 m, .slice a3 q.length c3, v5]) (by simp [results, Tryz.results23, go_sem]) rfl ⟨m, _, q, v5, _, rfl, HL.out, HCB.out, HO5.out.read, HO5.out.capOk, B5⟩
    | false =>
      rw [hd] at HAD
      subst hov
      clear hd
      go_wp2_with fail
      refine HAD.out.mono ?_
      rintro e w4 ⟨rfl, b4⟩
      have HX := HT.out w4 b4
      have hcx := HX.out.1
      clear b4
      go_wp2_with fail
      refine (HDR.out _ hcx).mono ?_
      rintro e w5 ⟨m5, u5, q5, rfl, m50, m51, hq5, ho5, g5, hc5⟩
      have B5 := HX.out.2.2.grown g5 HX.out.2.2.size (fun k e => by cases e; exact hc)
      have HL := Lib.hid (DrL.of m0 m1 HQ.out (HX.out.2.1.cur g5 hcw))
      have HO5 := Lib.hid ho5
      have HQ5 := Lib.hid hq5
      clear g5 ho5 hq5 hcx
      go_wp2_with fail
      exact bodyPost_ret (v := .tuple #[.int .i64 m, .slice a3 q.length c3, u5]) (by simp [results, Tryz.results23, go_sem]) rfl ⟨m, _, q, u5, q5, rfl, HL.out, HQ5.out, HO5.out.read, HO5.out.capOk, B5⟩
end
end Go.Proofs.YtnbjcelfdppkcacGreat
namespace Go.Proofs.YtnbjcelfdppkcacGreat
open Go.RowKit

theorem OwnD.set11 {w : World} {B : Nat} {v u : Value} {l : List (Int × Int)} {p : Addr} (h : OwnD w B v l) (hp : p.block < B) : OwnD (w.setCell p u) B v l :=
  h.keptBy (grown_cell w p u) (fun g e1 e2 => by cases e1; have := (h.lt _ e2).1; omega)
section
set_option maxRecDepth 20000
set_option maxHeartbeats 3200000
theorem l10Dep_any (W : World) (v : Value) (n : Nat) (hn : n ≤ 1048576) (hcode : CodeAt W v n) (w : World) (hb : Below W.heap.size W w) :
    Calls Tryz.prog 59 #[v] w (DrawnNDD w) := by
  have hb0 := (Below.refl w.heap.size w).alloc (Nat.le_refl _) (.cells #[.int .i64 0, .int .i64 0] 40)
  have H1 := Lib.hid (new_any W v n hn hcode (w.alloc (.cells #[.int .i64 0, .int .i64 0] 40)) (hb.trans (hb0.mono hb.size)))
  have HZ0 : Hid (DBox (w.alloc (.cells #[.int .i64 0, .int .i64 0] 40)) w.heap.size 0 0) := Lib.hid (heap_alloc_new w _)
  have HB0 := Lib.hid hb0
  have H2 := Lib.hid (draw10_any W v n hn hcode)
  have H3 := Lib.hid (anyDep_any W v n hn hcode)
  obtain ⟨a, cap, rfl⟩ := code_slice hcode
  clear hb0
  go_enter Tryz.func59, Tryz.ntmps59
  go_wp2_with fail
  refine H1.out.mono ?_
  rintro e w1 ⟨c, hc, rfl, g1, hc1⟩
  have B1 := HB0.out.grown g1 HB0.out.size (by simp)
  have HZ1 := Lib.hid (HZ0.out.grown g1 (by simp))
  have hcw := hc1.lt
  have hch : w.heap.size < c := by simp at hc; omega
  have hhw : w.heap.size < w1.heap.size := by omega
  clear g1
  go_wp2_with fail
  refine (H2.out c w1 hc1).mono ?_
  rintro e w2 ⟨m, u, q, rfl, m0, m1, hq, ho, g2, hc2⟩
  have B2 := B1.grown g2 B1.size (fun k e => by cases e; omega)
  have HZ2 := Lib.hid (HZ1.out.grown g2 (by simp; omega))
  have HO2 := Lib.hid ho
  have HQ := Lib.hid hq
  clear g2 ho hq hc1
  go_wp2_with fail
  refine (H3.out c w2 hc2 _).mono ?_
  rintro e w3 ⟨l, r, l0, l1, r0, r1, rfl, g3, hc3⟩
  have B3 := Lib.hid (B2.grown g3 B2.size (fun k e => by cases e; omega))
  have hz3 := HZ2.out.grown g3 (by simp; omega)
  have HO3 := Lib.hid (HO2.out.cur g3 hcw)
  obtain ⟨⟨d0, d1⟩, e0, e1⟩ := hz3.cells
  have hf := (hz3.set0 (x := l)).set1 (x := r)
  have HR := Lib.hid hf.cells.1
  have HL := Lib.hid (((HO3.out.set11 (p := ⟨w.heap.size, 0, none⟩) (u := .int .i64 l) hhw).set11 (p := ⟨w.heap.size, 1, none⟩) (u := .int .i64 r) hhw).base (Nat.le_of_lt hhw))
  have HBE := Lib.hid ((B3.out.setCell (p := ⟨w.heap.size, 0, none⟩) (Nat.le_refl _) (.int .i64 l)).setCell (p := ⟨w.heap.size, 1, none⟩) (Nat.le_refl _) (.int .i64 r))
  clear g3 hc3 hz3 hf
  go_wp2_with fail
  exact bodyPost_ret (v := .tuple #[.int .i64 m, u, .agg #[.int .i64 l, .int .i64 r]]) (by simp [results, Tryz.results59, go_sem, HR.out.1, HR.out.2]) rfl ⟨m, u, q, l, r, rfl, by omega, by omega, by omega, HQ.out, HL.out, HBE.out⟩
theorem drawReduceLeft_any (W : World) (v : Value) (n : Nat) (hn : n ≤ 1048576) (hcode : CodeAt W v n) (w : World) (hb : Below W.heap.size W w) :
    Calls Tryz.prog 21 #[v] w (DrawnNDD w) := by
  have hb0 := (Below.refl w.heap.size w).alloc (Nat.le_refl _) (.cells #[.int .i64 0, .int .i64 0] 40)
  have H1 := Lib.hid (l10Dep_any W v n hn hcode (w.alloc (.cells #[.int .i64 0, .int .i64 0] 40)) (hb.trans (hb0.mono hb.size)))
  have HZ0 : Hid (Bx (w.alloc (.cells #[.int .i64 0, .int .i64 0] 40)) w.heap.size 0 0) := Lib.hid (bx_new w 0 0)
  have HB0 := Lib.hid hb0
  obtain ⟨a, cap, rfl⟩ := code_slice hcode
  clear hb0
  go_enter Tryz.func21, Tryz.ntmps21
  go_wp2_with fail
  refine H1.out.mono ?_
  rintro e w1 ⟨m, u, q, l, r, rfl, hl, hr, hm, hQ, hL, b1⟩
  have B1 := Lib.hid (HB0.out.trans (b1.mono HB0.out.size))
  have HZ1 := Lib.hid (HZ0.out.keep b1)
  have HL1 := Lib.hid hL
  have HQ := Lib.hid hQ
  clear b1 hL hQ
  go_upto_region 2 with fail
  have hx2 := bx_new w1 l r
  have al := (Below.refl w1.heap.size w1).alloc (Nat.le_refl _) (.cells #[.int .i64 l, .int .i64 r] 40)
  have hz2 := HZ1.out.keep al
  have HB2 := Lib.hid (B1.out.trans (al.mono B1.out.size))
  have HL2 : Hid (OwnD (w1.alloc (.cells #[.int .i64 l, .int .i64 r] 40)) (w.alloc (.cells #[.int .i64 0, .int .i64 0] 40)).heap.size u q) := Lib.hid (HL1.out.below al (fun k hk => (HL1.out.lt k hk).2))
  obtain ⟨w2, hw2⟩ : ∃ w2, w2 = w1.alloc (.cells #[.int .i64 l, .int .i64 r] 40) := ⟨_, rfl⟩
  rw [← hw2] at hx2 hz2 HB2 HL2 ⊢
  obtain ⟨b, hbb⟩ : ∃ b, b = w1.heap.size := ⟨_, rfl⟩
  rw [← hbb] at hx2 ⊢
  clear hw2 hbb al HL1 HZ1 B1
  have hhw : w.heap.size < (w.alloc (.cells #[.int .i64 0, .int .i64 0] 40)).heap.size := by simp
  have c0 := hx2.c0
  have c1 := hx2.c1
  have d0 := hz2.c0
  have d1 := hz2.c1
  have e0 := hz2.f0
  have e1 := hz2.f1
  have hf : DBox ((w2.setCell ⟨w.heap.size, 0, none⟩ (.int .i64 l)).setCell ⟨w.heap.size, 1, none⟩ (.int .i64 r)).drew w.heap.size l r := (DBox.set0 (x := l) (show DBox w2 w.heap.size 0 0 from hz2)).set1 (x := r)
  have HR := Lib.hid hf.cells.1
  have HL := Lib.hid (((HL2.out.set11 (p := ⟨w.heap.size, 0, none⟩) (u := .int .i64 l) hhw).set11 (p := ⟨w.heap.size, 1, none⟩) (u := .int .i64 r) hhw).base (Nat.le_of_lt hhw))
  have HBE : Hid (Below w.heap.size w ((w2.setCell ⟨w.heap.size, 0, none⟩ (.int .i64 l)).setCell ⟨w.heap.size, 1, none⟩ (.int .i64 r)).drew) := Lib.hid (((HB2.out.setCell (p := ⟨w.heap.size, 0, none⟩) (Nat.le_refl _) (.int .i64 l)).setCell (p := ⟨w.heap.size, 1, none⟩) (Nat.le_refl _) (.int .i64 r)).trans (Below.refl _ _).drew)
  have HLD : Hid (OwnD ((w2.setCell ⟨w.heap.size, 0, none⟩ (.int .i64 l)).setCell ⟨w.heap.size, 1, none⟩ (.int .i64 r)).drew w.heap.size u q) := Lib.hid (HL.out.below (Below.refl _ _).drew (fun k hk => (HL.out.lt k hk).2))
  clear hf hx2 hz2 HL2 hhw
  go_region
  all_goals (go_wp2_with fail)
  all_goals exact bodyPost_ret (v := .tuple #[.int .i64 m, u, .agg #[.int .i64 l, .int .i64 r]]) (by simp [results, Tryz.results21, go_sem, HR.out.1, HR.out.2]) rfl ⟨m, u, q, l, r, rfl, hl, hr, hm, HQ.out, HLD.out, HBE.out⟩
end
end Go.Proofs.YtnbjcelfdppkcacGreat
namespace Go.Proofs.YtnbjcelfdppkcacGreat
open Go.RowKit

theorem orB_fin : ∀ a b : Fin 32, bits .or .i64 ((a.val : Nat) : Int) ((b.val : Nat) : Int) = ((a.val ||| b.val : Nat) : Int) ∧ a.val ||| b.val < 32 ∧ subN a.val (a.val ||| b.val) = true ∧ subN b.val (a.val ||| b.val) = true := by decide +kernel
theorem key_facts {n : Int} {l : List (Int × Int)} {y : Int} (h : y ∈ koL n l) : ∃ C x : Nat, n = (C : Int) ∧ C ≤ 5 ∧ arD n l = true ∧ y = (x : Int) ∧ x < 2 ^ C ∧ x < 32 ∧ clo l x = 2 ^ C - 1 := by
  unfold koL koC at h
  split at h
  · rename_i ha
    obtain ⟨C, rfl, hC1, hC5, -, hl⟩ := arD_n ha
    have h32 := two5 hC5
    rw [show ((C : Int)).toNat = C from rfl, minS_brd _ h32] at h
    obtain ⟨x, hx, hg, rfl, -⟩ := h
    unfold spn at hg
    rw [beq_iff_eq] at hg
    exact ⟨C, x, rfl, hC5, ha, rfl, hx, by omega, hg⟩
  · cases h
theorem orL_facts (q : List Int) (hq : ∀ y ∈ q, ∃ x : Nat, y = (x : Int) ∧ x < 32) : ∀ k, k ≤ q.length → ∃ P : Nat, orL q k = (P : Int) ∧ P < 32 ∧ ∀ i, i < k → subN (q.getD i 0).toNat P = true
  | 0, _ => ⟨0, rfl, by omega, fun i hi => absurd hi (Nat.not_lt_zero _)⟩
  | k + 1, hk => by
    obtain ⟨P, e, hP, h⟩ := orL_facts q hq k (by omega)
    obtain ⟨x, ex, hx⟩ := hq (q.getD k 0) (by rw [List.getD_eq_getElem?_getD, List.getElem?_eq_getElem (show k < q.length by omega)]; exact List.getElem_mem _)
    obtain ⟨o1, o2, o3, o4⟩ := orB_fin ⟨P, hP⟩ ⟨x, hx⟩
    simp only at o1 o2 o3 o4
    refine ⟨P ||| x, ?_, o2, fun i hi => ?_⟩
    · show bits .or .i64 (orL q k) (q.getD k 0) = _
      rw [e, ex, o1]
    · by_cases ei : i = k
      · subst ei; rw [ex]; exact o4
      · exact subN_trans (h i (by omega)) o3
theorem prime_facts (n : Int) (l : List (Int × Int)) : ∃ P : Nat, prZ n l = (P : Int) ∧ P < 32 ∧ ∀ y ∈ koL n l, bits .and .i64 (P : Int) y = y := by
  obtain ⟨P, e, hP, h⟩ := orL_facts (koL n l) (fun y hy => by
    obtain ⟨C, x, -, -, -, e, -, hx, -⟩ := key_facts hy
    exact ⟨x, e, hx⟩) (koL n l).length (Nat.le_refl _)
  refine ⟨P, e, hP, fun y hy => ?_⟩
  obtain ⟨i, hi, ei⟩ := List.getElem_of_mem hy
  obtain ⟨C, x, -, -, -, ex, -, hx, -⟩ := key_facts hy
  have hs := h i hi
  rw [List.getD_eq_getElem?_getD, List.getElem?_eq_getElem hi, Option.getD_some, ei, ex] at hs
  have h2 := sub_and ⟨x, hx⟩ ⟨P, hP⟩
  simp only at h2
  rw [show ((x : Int)).toNat = x from rfl] at hs
  rw [hs, beq_iff_eq] at h2
  rw [ex]
  have hcm : ∀ a b : Fin 32, bits .and .i64 ((a.val : Nat) : Int) ((b.val : Nat) : Int) = bits .and .i64 ((b.val : Nat) : Int) ((a.val : Nat) : Int) := by decide +kernel
  have h3 := hcm ⟨P, hP⟩ ⟨x, hx⟩
  simp only at h3
  rw [h3, h2]
theorem pjIn_mem {l : List (Int × Int)} {s r : Nat} {ps : List Int} (hps : ∀ y ∈ ps, ∃ x : Nat, y = (x : Int) ∧ x < 32) {q : List (Int × Int)} : ∀ k, k ≤ ps.length → ∀ d ∈ pjIn l s r ps q k, d ∈ q ∨ ∃ x : Nat, (x : Int) ∈ ps ∧ d = ((x : Int), (r : Int)) ∧ x < 32 ∧ subN x s = true ∧ bitB (clo l x) r = true
  | 0, _, d, hd => .inl hd
  | k + 1, hk, d, hd => by
    have e : pjIn l s r ps q (k + 1) = if pjAt l s r (ps.getD k 0).toNat (pjIn l s r ps q k) = true then pjIn l s r ps q k ++ [(ps.getD k 0, (r : Int))] else pjIn l s r ps q k := rfl
    rw [e] at hd
    have hm : ps.getD k 0 ∈ ps := by rw [List.getD_eq_getElem?_getD, List.getElem?_eq_getElem (show k < ps.length by omega)]; exact List.getElem_mem _
    obtain ⟨x, ex, hx⟩ := hps _ hm
    split at hd
    · rename_i hp
      rcases List.mem_append.1 hd with h | h
      · exact pjIn_mem hps k (by omega) d h
      · rw [List.mem_singleton] at h
        rw [ex] at hp h hm
        unfold pjAt at hp
        rw [show ((x : Int)).toNat = x from rfl, Bool.and_eq_true, Bool.and_eq_true, Bool.and_eq_true] at hp
        exact .inr ⟨x, hm, h, hx, hp.1, hp.2.2.1⟩
    · exact pjIn_mem hps k (by omega) d hd
theorem pjOut_mem {l : List (Int × Int)} {s : Nat} {ps : List Int} (hps : ∀ y ∈ ps, ∃ x : Nat, y = (x : Int) ∧ x < 32) : ∀ r, ∀ d ∈ pjOut l s ps r, ∃ x R : Nat, (x : Int) ∈ ps ∧ R < r ∧ d = ((x : Int), (R : Int)) ∧ x < 32 ∧ subN x s = true ∧ bitB s R = true ∧ bitB (clo l x) R = true
  | 0, d, hd => by cases hd
  | r + 1, d, hd => by
    have e : pjOut l s ps (r + 1) = if bitB s r = true then pjIn l s r ps (pjOut l s ps r) ps.length else pjOut l s ps r := rfl
    rw [e] at hd
    split at hd
    · rename_i hb
      rcases pjIn_mem hps _ (Nat.le_refl _) d hd with h | ⟨x, h1, h2, h3, h4, h5⟩
      · obtain ⟨x, R, g1, g2, g3⟩ := pjOut_mem hps r d h
        exact ⟨x, R, g1, by omega, g3⟩
      · exact ⟨x, r, h1, by omega, h2, h3, h4, hb, h5⟩
    · obtain ⟨x, R, g1, g2, g3⟩ := pjOut_mem hps r d hd
      exact ⟨x, R, g1, by omega, g3⟩
/-- A dependency of a projection: its columns lie in the set, and it is implied. -/
theorem pj_facts {n s : Int} {l : List (Int × Int)} {d : Int × Int} (h : d ∈ pjL n l s) : ∃ x R T : Nat, d = ((x : Int), (R : Int)) ∧ s = (T : Int) ∧ x < 32 ∧ R < 5 ∧ T < 32 ∧ subN x T = true ∧ bitB T R = true ∧ impB n l d = true := by
  unfold pjL at h
  split at h
  · rename_i hp
    rw [Bool.and_eq_true] at hp
    obtain ⟨ha, hs⟩ := hp
    have ha0 := ha
    obtain ⟨C, rfl, hC1, hC5, -, hl⟩ := arD_n ha
    obtain ⟨T, rfl, hT, -⟩ := isA_lt hC5 hs
    obtain ⟨x, R, g1, g2, rfl, g3, g4, g5, g6⟩ := pjOut_mem (fun y hy => by
      obtain ⟨X, e, hX⟩ := parts_small _ y hy
      exact ⟨X, e, hX⟩) _ d h
    rw [show ((C : Int)).toNat = C from rfl] at g2
    rw [show ((T : Int)).toNat = T from rfl] at g4 g5
    refine ⟨x, R, T, rfl, rfl, g3, by omega, hT, g4, g5, ?_⟩
    obtain ⟨z, hz, ez⟩ := (parts_mem hC5 _).1 g1
    obtain rfl : x = z := by omega
    unfold impB
    rw [Bool.and_eq_true, Bool.and_eq_true]
    refine ⟨ha, depB_iff.2 ⟨⟨by omega, by omega⟩, ?_, ?_, ?_⟩, g6⟩
    · unfold isA
      rw [decide_eq_true_iff]
      have hz2 : ((2 ^ C : Nat) : Int) = (2 : Int) ^ C := by rw [Int.natCast_pow]; rfl
      simp only
      rw [show ((C : Int)).toNat = C from rfl]
      omega
    · simp only; omega
    · simp only; omega
  · cases h
end Go.Proofs.YtnbjcelfdppkcacGreat
