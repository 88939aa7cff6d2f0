/- Texts of this claim, merged: ClT, RdDraw, RdDraw2, RdDraw3, TabDraw, Fmt, SpecF. Conditions: as stated. -/
import Derived.Test.YtnbjcelfdppkcadGreatXz18
import Derived.Test.YtnbjcelfdppkcadGreatXz17
import Derived.Test.YtnbjcelfdppkcadGreatXz19
import Derived.Test.YtnbjcelfdppkcadGreatXz21
import Derived.Test.YtnbjcelfdppkcadGreatXz2
import Derived.Test.YtnbjcelfdppkcadGreatXz5
import Derived.Deep.CutBlock
import Derived.Test.YtnbjcelfdppkcadGreatXz3
import Derived.Test.YtnbjcelfdppkcadGreatXz1
import Derived.Test.YtnbjcelfdppkcadGreatRows
import Derived.Lib.ItoaNum
import Derived.Test.YtnbjcelfdppkcadGreatXz15
import Derived.Test.YtnbjcelfdppkcadGreatXz4
namespace Go.Proofs.YtnbjcelfdppkcadGreat
open Go.RowKit

theorem ded_facts {C : Nat} {l : List (Int × Int)} (hC : C ≤ 5) (ha : arD (C : Int) l = true) (hl : DepsN C l) :
    arD (C : Int) (dedTo (C : Int) l l.length) = true ∧ ∀ y, y < 32 → (ClosedN (dedTo (C : Int) l l.length) y ↔ ClosedN l y) := by
  have hlen := dedTo_len (C : Int) l l.length
  have h32 := two5 hC
  refine ⟨?_, fun y hy => ⟨fun hc d hd => ?_, fun hc d hd => ?_⟩⟩
  · have ha' := ha
    unfold arD at ha ⊢
    rw [Bool.and_eq_true, Bool.and_eq_true, List.all_eq_true, decide_eq_true_iff, decide_eq_true_iff] at ha ⊢
    refine ⟨fun d hd => ?_, ha.2.1, Nat.le_trans hlen ha.2.2⟩
    obtain ⟨j, hj, e⟩ := (dedTo_mem _).1 hd
    obtain ⟨L, R, e1, hL, hL32, hR, hb, e2⟩ := red_of hC ha' hl hj
    have hdp := ha.1 _ (memD hj)
    rw [e1] at hdp
    obtain ⟨k0, k1, k2, k3⟩ := depB_iff.1 hdp
    have hr := (redN_facts hC hl hL32 (show R < 5 by omega) 5 (Nat.le_refl _)).2.2.2.2 hL
    rw [e, e2]
    refine depB_iff.2 ⟨k0, ?_, k2, k3⟩
    unfold isA at k1 ⊢
    rw [decide_eq_true_iff] at k1 ⊢
    have hz : ((2 ^ C : Nat) : Int) = (2 : Int) ^ C := by rw [Int.natCast_pow]; rfl
    rw [show ((C : Int)).toNat = C from rfl] at k1 ⊢
    omega
  · obtain ⟨j, hj, ej⟩ := mem_at11 hd
    obtain ⟨L, R, e1, hL, hL32, hR, hb, e2⟩ := red_of hC ha hl hj
    rw [← ej, e1]
    intro hs
    have h := hc _ ((dedTo_mem _).2 ⟨j, hj, rfl⟩)
    rw [e2] at h
    exact h (subN_trans (redN_facts hC hl hL32 (show R < 5 by omega) 5 (Nat.le_refl _)).2.1 hs)
  · obtain ⟨j, hj, e⟩ := (dedTo_mem _).1 hd
    obtain ⟨L, R, e1, hL, hL32, hR, hb, e2⟩ := red_of hC ha hl hj
    obtain ⟨r1, r2, r3, r4, r5⟩ := redN_facts hC hl hL32 (show R < 5 by omega) 5 (Nat.le_refl _)
    rw [e, e2]
    intro hs
    exact cls_imp hC hl r1 (by omega) hy (r3 hb) hc hs
theorem brd_same {f g : Nat → Bool} : ∀ n, (∀ x, x < n → f x = g x) → brdTo f n = brdTo g n
  | 0, _ => rfl
  | n + 1, h => by
    have e1 : brdTo f (n + 1) = if f n = true then brdTo f n ++ [(n : Int)] else brdTo f n := rfl
    have e2 : brdTo g (n + 1) = if g n = true then brdTo g n ++ [(n : Int)] else brdTo g n := rfl
    rw [e1, e2, h n (by omega), brd_same n (fun x hx => h x (by omega))]
theorem cover_facts {n : Int} {l : List (Int × Int)} (ha : arD n l = true) :
    arD n (coL11 n l) = true ∧ (coL11 n l).length ≤ l.length ∧ smB n l (coL11 n l) = true ∧ icB n (coL11 n l) = true := by
  have ha0 := ha
  obtain ⟨C, rfl, hC1, hC5, hl20, hl⟩ := arD_n ha
  have h32 := two5 hC5
  obtain ⟨hq, hcq⟩ := ded_facts hC5 ha hl
  have hlen := dedTo_len (C : Int) l l.length
  have e : coL11 (C : Int) l = rmL (C : Int) (dedTo (C : Int) l l.length).length (dedTo (C : Int) l l.length) 0 := by unfold coL11; rw [if_pos ha]
  obtain ⟨h1, h2, h3, h4⟩ := rm_facts (n := (C : Int)) (dedTo (C : Int) l l.length).length (dedTo (C : Int) l l.length) 0 (by omega) (Nat.zero_le _) hq (fun j hj => absurd hj (Nat.not_lt_zero _))
  rw [← e] at h1 h2 h3 h4
  have hc := arD_sub hq h1 h2
  obtain ⟨C', e', -, -, -, hcl⟩ := arD_n hc
  obtain rfl : C = C' := by omega
  have hcl2 : ∀ y, y < 32 → (ClosedN (coL11 (C : Int) l) y ↔ ClosedN l y) := fun y hy => (h3 y hy).trans (hcq y hy)
  refine ⟨hc, by omega, ?_, ?_⟩
  · unfold smB
    rw [ha, hc, Bool.true_and, Bool.true_and, decide_eq_true_iff]
    unfold clsL
    rw [if_pos ha, if_pos hc]
    refine brd_same _ (fun x hx => ?_)
    rw [show ((C : Int)).toNat = C from rfl] at hx
    rw [Bool.eq_iff_iff, clB_iff, clB_iff]
    exact (hcl2 x (by omega)).symm
  · refine ic_all hc (fun j hj => ?_)
    unfold icAt
    rw [h4 j hj, Bool.not_false, Bool.true_and, decide_eq_true_iff]
    obtain ⟨m, hm, em⟩ := (dedTo_mem _).1 (h1 _ (memD hj))
    obtain ⟨L, R, e1, hL, hL32, hR, hb, e2⟩ := red_of hC5 ha hl hm
    rw [em, e2]
    obtain ⟨r1, r2, r3, r4, r5⟩ := redN_facts hC5 hl hL32 (show R < 5 by omega) 5 (Nat.le_refl _)
    unfold redD
    split
    · have hst := redN_stay (l := coL11 (C : Int) l) (R := R) (X := redN l R L 5) (fun k hk hbk => by
        have hx := (clrN_bits ⟨_, r1⟩ ⟨k, hk⟩).2.1
        rw [clo_same hC5 hcl hl hcl2 hx]
        exact r4 k hk hbk) 5 (Nat.le_refl _)
      show (((redN (coL11 (C : Int) l) R (redN l R L 5) 5 : Nat) : Int), (R : Int)) = _
      rw [hst]
    · rfl
theorem coL11_len (n : Int) (l : List (Int × Int)) : (coL11 n l).length ≤ l.length := by
  cases h : arD n l with
  | true => exact (cover_facts h).2.1
  | false => unfold coL11; rw [h]; exact Nat.zero_le _
theorem pjL_len (n : Int) (l : List (Int × Int)) (s : Int) : (pjL n l s).length ≤ 160 := by
  unfold pjL
  split
  · rename_i hp
    rw [Bool.and_eq_true] at hp
    obtain ⟨C, rfl, hC1, hC5, -, hl⟩ := arD_n hp.1
    have h1 := pjOut_len l s.toNat (parts (C : Int)) ((C : Int)).toNat
    have h2 := parts_len32 hC5
    have h3 : ((C : Int)).toNat * (parts (C : Int)).length ≤ 5 * 32 := Nat.mul_le_mul (by omega) h2
    omega
  · exact Nat.zero_le _
end Go.Proofs.YtnbjcelfdppkcadGreat
namespace Go.Proofs.YtnbjcelfdppkcadGreat
open Go.RowKit

theorem OwnD.keptBy {w w' : World} {B : Nat} {v : Value} {l : List (Int × Int)} {row : Option Nat} (h : OwnD w B v l) (hg : w.grownBy w' row) (hr : ∀ g, row = some g → v.ownBlock ≠ some g) : OwnD w' B v l := by
  refine World.ownsRow.kept h hg ?_
  cases hv : v.ownBlock with
  | none => exact .inl rfl
  | some g => right; intro e; exact hr g e.symm hv
theorem OwnD.cur {w w' : World} {B c : Nat} {u : Value} {l : List (Int × Int)} (h : OwnD w B u l) (hg : w.grownBy w' (some c)) (hc : c < B) : OwnD w' B u l :=
  h.keptBy hg (fun g e1 e2 => by cases e1; have := (h.lt _ e2).1; omega)
/-- What a drawn list of dependencies is. -/
def DepsBd (q : List (Int × Int)) : Prop := q.length ≤ 20 ∧ ∀ d ∈ q, (-1 ≤ d.1 ∧ d.1 ≤ 33) ∧ (-1 ≤ d.2 ∧ d.2 ≤ 5)
theorem wf_sm {x : Int} (h1 : -1000 ≤ x) (h2 : x ≤ 1000) : (Lit.int .i64 x).wf = true := by
  unfold Lit.wf
  simp only [IntKind.min, IntKind.max, IntKind.signed, IntKind.bits, Bool.and_eq_true, decide_eq_true_iff]
  constructor <;> (simp; omega)
theorem DepsBd.wf {q : List (Int × Int)} (h : DepsBd q) : ∀ d ∈ q, (Lit.int .i64 d.1).wf = true ∧ (Lit.int .i64 d.2).wf = true := fun d hd => by
  obtain ⟨⟨a, b⟩, c, e⟩ := h.2 d hd
  exact ⟨wf_sm (by omega) (by omega), wf_sm (by omega) (by omega)⟩
def CurDeps (most : Nat) (W : World) (v : Value) (n c : Nat) (w : World) (e : Ending) (w' : World) : Prop :=
  ∃ (u : Value) (q : List (Int × Int)), e = .returned u ∧ q.length ≤ most ∧ DepsBd q ∧ OwnD w' w.heap.size u q ∧ w.grownBy w' (some c) ∧ Cur W v n c w'
theorem bd_snoc {q : List (Int × Int)} {x y : Int} (h : DepsBd q) (hl : q.length ≤ 10) (hx : -1 ≤ x ∧ x ≤ 33) (hy : -1 ≤ y ∧ y ≤ 5) : DepsBd (q ++ [(x, y)]) := by
  refine ⟨by rw [List.length_append, List.length_singleton]; omega, fun d hd => ?_⟩
  rcases List.mem_append.1 hd with h' | h'
  · exact h.2 d h'
  · rw [List.mem_singleton] at h'
    subst h'
    exact ⟨hx, hy⟩
section
set_option maxRecDepth 20000
set_option maxHeartbeats 1600000
theorem deps6_any (W : World) (v : Value) (n : Nat) (hn : n ≤ 1048576) (hcode : CodeAt W v n) (c : Nat) (w : World) (hcur : Cur W v n c w) (k : Int) (h1 : 1 ≤ k) (h2 : k ≤ 5) :
    Calls Tryz.prog 57 #[.pointer (some ⟨c, 0, none⟩), .int .i64 k] w (CurDeps 4 W v n c w) := by
  have HB := Lib.hid (below_any W v n hn hcode c)
  have HD := Lib.hid (fun w' (hc : Cur W v n c w') => dep6_any W v n hn hcode c w' hc k h1 h2)
  obtain ⟨i0, hi, hz0, hz1, hz2⟩ := info_parts infoDp
  have HI : Hid (_ ∧ _ ∧ _ ∧ _) := Lib.hid ⟨hi, hz0, hz1, hz2⟩
  clear hi hz0 hz1 hz2
  have hcw := hcur.lt
  have hWc : W.heap.size ≤ c := by obtain ⟨_, _, h, _⟩ := hcur; exact h
  have hcur0 := hcur.kept (World.grownBy_alloc w (.cells #[] 35) none) (by simp) (by simp)
  have hown0 : OwnD (w.alloc (.cells #[] 35)) w.heap.size (.slice (some ⟨w.heap.size, 0, none⟩) 0 0) [] := own_made w w.heap.size 35 2 (Nat.le_refl _)
  have hg0 : w.grownBy (w.alloc (.cells #[] 35)) (some c) := World.grownBy_alloc w _ _
  clear h1 h2
  go_enter Tryz.func57, Tryz.ntmps57
  go_wp2_with fail
  refine (HB.out _ hcur0 5 (by omega) (by omega)).mono ?_
  rintro e w1 ⟨m0, m1, m2, rfl, g1, hc1⟩
  have hown1 := hown0.cur g1 hcw
  have hg1 := grown_trans hg0 g1
  clear g1 hcur0 hown0 hg0
  go_wp2_with fail
  go_loopw [5, 6] (fun ov iv wr => ∃ (m : Int) (q : List (Int × Int)), 0 ≤ m ∧ m ≤ 4 ∧ iv = .int .i64 m ∧ Hid ((q.length : Int) + m ≤ 4 ∧ DepsBd q) ∧ Hid (OwnD wr w.heap.size ov q) ∧ w.grownBy wr (some c) ∧ Cur W v n c wr) (fun _ iv _ => (intOf iv).toNat)
  case atStart => exact ⟨m0, [], by omega, by omega, rfl, Lib.hid ⟨by simp; omega, by simp [DepsBd]⟩, Lib.hid hown1, hg1, hc1⟩
  case round =>
    clear hown1 hg1 hc1
    obtain ⟨m, q, hm0, hm6, rfl, hL, HO, hg, hc⟩ := hrel
    have hlm : q.length ≤ 4 := by have := hL.out.1; omega
    by_cases hlt : 0 < m
    · go_wp2_with fail
      refine (HD.out _ hc).mono ?_
      rintro e w2 ⟨x, y, x0, x1, y0, y1, rfl, g2, hc2⟩
      have HO2 := Lib.hid (HO.out.cur g2 hcw)
      have hg2 := grown_trans hg g2
      have HC2 := Lib.hid hc2
      have HG2 := Lib.hid hg2
      have HX := Lib.hid (bx_new w2 x y)
      have HBD := Lib.hid (bd_snoc hL.out.2 (by omega) (show -1 ≤ x ∧ x ≤ 33 by omega) (show -1 ≤ y ∧ y ≤ 5 by omega))
      obtain ⟨a3, c3, hov⟩ := HO2.out.shape
      subst hov
      clear g2 hc HO hg hg2 hc2
      go_upto_region 6 with fail
      obtain ⟨w3, hw3⟩ : ∃ w3, w3 = w2.alloc (.cells #[.int .i64 x, .int .i64 y] 35) := ⟨_, rfl⟩
      have HO3 : Hid (OwnD w3 w.heap.size (.slice a3 q.length c3) q) := Lib.hid (by rw [hw3]; exact World.ownsRow.alloc HO2.out _)
      have HC3 : Hid (Cur W v n c w3) := Lib.hid (by rw [hw3]; exact HC2.out.kept (World.grownBy_alloc w2 _ none) (by simp) (by simp))
      have HG3 : Hid (w.grownBy w3 (some c)) := Lib.hid (by rw [hw3]; exact grown_trans HG2.out (World.grownBy_alloc w2 _ (some c)))
      rw [← hw3] at HX ⊢
      obtain ⟨g, hgg⟩ : ∃ g, g = w2.heap.size := ⟨_, rfl⟩
      rw [← hgg] at HX ⊢
      clear hw3 hgg HO2 HC2 HG2
      have d0 := HX.out.c0
      have d1 := HX.out.c1
      have ho3 := HO3.out
      unfold OwnD at ho3
      go_wp2_with (at_builtin; refine wpList_append_own _ rfl _ _ 24 rfl w.heap.size 35 i0 (.agg #[.int .i64 0, .int .i64 0]) 2 16 Tryz.underlying24 HI.out.1 HI.out.2.1 HI.out.2.2.1 HI.out.2.2.2 rfl (by decide) _ _ _ rfl (World.ownsRow.alloc ho3 _) ⟨w3.heap.size, 0, none⟩ 1 1 [.int .i64 x, .int .i64 y] rfl rfl (cell_two_new _ _ _ _) (two_i64 _ _) (by unfold maxLen; omega) (by omega) (le_of_grown HG3.out _) ?_; intro v' w4 hown' hgrow _; have HO4 := Lib.hid (OwnD.snoc hown'); have HG4 := Lib.hid (grown_above (grown_trans HG3.out (World.grownBy_alloc w3 _ _)) hgrow (fun g h => (OwnD.lt HO3.out g h).1)); have HC4 := Lib.hid ((HC3.out.kept (World.grownBy_alloc w3 _ none) (by simp) (by simp)).kept hgrow (fun g h => by have := (OwnD.lt HO3.out g h).1; omega) (fun h => by have := (OwnD.lt HO3.out c h).1; omega)); clear hown' hgrow)
      go_roundw
      case rel => exact ⟨m - 1, _, by omega, by omega, by go_num, Lib.hid ⟨by have := hL.out.1; simp; omega, HBD.out⟩, HO4, HG4.out, HC4.out⟩
      case measure => simp [intOf]; omega
    · have hd : decide (0 < m) = false := by simp; omega
      go_wp2_with fail
      go_ret
      exact ⟨_, q, rfl, by omega, hL.out.2, HO.out, hg, hc⟩
end
end Go.Proofs.YtnbjcelfdppkcadGreat
namespace Go.Proofs.YtnbjcelfdppkcadGreat
open Go.RowKit

def Cur10 (W : World) (v : Value) (n c : Nat) (w : World) (e : Ending) (w' : World) : Prop :=
  ∃ (m : Int) (u : Value) (q : List (Int × Int)), e = .returned (.tuple #[.int .i64 m, u]) ∧ 0 ≤ m ∧ m ≤ 6 ∧ DepsBd q ∧ OwnD w' w.heap.size u q ∧ w.grownBy w' (some c) ∧ Cur W v n c w'
theorem pick4d (w : World) (C : Array Value) (hC : C = #[.int .i64 0, .int .i64 1, .int .i64 5, .int .i64 6]) (t : TypeId) :
    ∀ i, i < 4 → ∃ y : Int, 0 ≤ y ∧ y ≤ 6 ∧ (w.alloc (.cells C t)).cell? ⟨w.heap.size, i, none⟩ = some (.int .i64 y) := by
  intro i hi
  have e : (w.alloc (.cells C t)).cell? ⟨w.heap.size, i, none⟩ = C[i]? := World.cell?_alloc_mark w C t (0, 0) i
  rw [e, hC]
  rcases (show i = 0 ∨ i = 1 ∨ i = 2 ∨ i = 3 by omega) with rfl | rfl | rfl | rfl
  all_goals (refine ⟨_, ?_, ?_, rfl⟩ <;> decide)
section
set_option maxRecDepth 20000
set_option maxHeartbeats 3200000
theorem draw10_any (W : World) (v : Value) (n : Nat) (hn : n ≤ 1048576) (hcode : CodeAt W v n) (c : Nat) (w : World) (hcur : Cur W v n c w) :
    Calls Tryz.prog 20 #[.pointer (some ⟨c, 0, none⟩)] w (Cur10 W v n c w) := by
  have HB := Lib.hid (below_any W v n hn hcode c)
  have HD := Lib.hid (fun k h1 h2 w' (hc : Cur W v n c w') => deps6_any W v n hn hcode c w' hc k h1 h2)
  have HA := Lib.hid (anyDep_any W v n hn hcode c)
  have HP := Lib.hid (pick_any W v n hn hcode c)
  obtain ⟨i0, hi, hz0, hz1, hz2⟩ := info_parts infoDp
  have HI : Hid (_ ∧ _ ∧ _ ∧ _) := Lib.hid ⟨hi, hz0, hz1, hz2⟩
  clear hi hz0 hz1 hz2
  have hcw := hcur.lt
  go_enter Tryz.func20, Tryz.ntmps20
  go_wp2_with fail
  refine (HB.out _ hcur 3 (by omega) (by omega)).mono ?_
  rintro e w1 ⟨x, x0, x1, rfl, g1, hc1⟩
  have hw1 : IntKind.i64.wrap (2 + x) = 2 + x := IntWalk.i64_in _ (by omega)
  have hw2 : wrap64 (2 + x) = 2 + x := by rw [← IntWalk.i64_left]; exact hw1
  have HC1 := Lib.hid hc1
  have HG1 := Lib.hid g1
  have s1 := g1.size
  clear g1 hc1
  go_wp2_with fail
  refine (HD.out (2 + x) (by omega) (by omega) _ HC1.out).mono ?_
  rintro e w2 ⟨u, q, rfl, hq4, hqb, ho2, g2, hc2⟩
  have HO2 := Lib.hid (ho2.base s1)
  have HG2 := Lib.hid (grown_trans HG1.out g2)
  have HC2 := Lib.hid hc2
  have HQB := Lib.hid hqb
  have s2 := HG2.out.size
  clear g2 hc2 ho2 hqb HG1 HC1
  go_wp2_with fail
  refine (HB.out _ HC2.out 14 (by omega) (by omega)).mono ?_
  rintro e w3 ⟨z, z0, z1, rfl, g3, hc3⟩
  have HO3 := Lib.hid (HO2.out.cur g3 hcw)
  have HG3 := Lib.hid (grown_trans HG2.out g3)
  have HC3 := Lib.hid hc3
  have s3 := HG3.out.size
  clear g3 hc3 HO2 HG2 HC2
  obtain ⟨a3, c3, hov⟩ := HO3.out.shape
  subst hov
  by_cases hz : z = 0
  · subst hz
    go_wp2_with fail
    refine (HA.out _ HC3.out _).mono ?_
    rintro e w4 ⟨l, r, l0, l1, r0, r1, rfl, g4, hc4⟩
    have HO4 := Lib.hid (HO3.out.cur g4 hcw)
    have HG4 := Lib.hid (grown_trans HG3.out g4)
    have HC4 := Lib.hid hc4
    have HBD := Lib.hid (bd_snoc HQB.out (by omega) (show -1 ≤ l ∧ l ≤ 33 by omega) (show -1 ≤ r ∧ r ≤ 5 by omega))
    have ho4 := HO4.out
    unfold OwnD at ho4
    clear g4 hc4 HO3 HG3 HC3
    go_wp2_with (at_builtin; refine wpList_append_own _ rfl _ _ 24 rfl w.heap.size 35 i0 (.agg #[.int .i64 0, .int .i64 0]) 2 16 Tryz.underlying24 HI.out.1 HI.out.2.1 HI.out.2.2.1 HI.out.2.2.2 rfl (by decide) _ _ _ rfl (World.ownsRow.alloc ho4 _) ⟨w4.heap.size, 0, none⟩ 1 1 [.int .i64 l, .int .i64 r] rfl rfl (cell_two_new _ _ _ _) (two_i64 _ _) (by unfold maxLen; omega) (by omega) (le_of_grown HG4.out _) ?_; intro v' w5 hown' hgrow _; have HO5 := Lib.hid (OwnD.snoc hown'); have HG5 := Lib.hid (grown_above (grown_trans HG4.out (World.grownBy_alloc w4 _ _)) hgrow (fun g h => (OwnD.lt HO4.out g h).1)); have HC5 := Lib.hid ((HC4.out.kept (World.grownBy_alloc w4 _ none) (by simp) (by simp)).kept hgrow (fun g h => by have := (OwnD.lt HO4.out g h).1; have h2 := HC4.out; obtain ⟨_, _, h3, _⟩ := h2; omega) (fun h => by have := (OwnD.lt HO4.out c h).1; omega)); clear hown' hgrow)
    exact bodyPost_ret (v := .tuple #[.int .i64 (2 + x), v']) (by simp [results, Tryz.results20, go_sem]) rfl ⟨2 + x, _, _, rfl, by omega, by omega, HBD.out, HO5.out, HG5.out, HC5.out⟩
  · by_cases hz' : z = 1
    · subst hz'
      have HCA := Lib.hid (fun o => HC3.out.kept (World.grownBy_alloc w3 o none) (by simp) (by simp))
      have hcl := HC3.out.lt
      go_wp2_with fail
      refine (HP.out _ (HCA.out _) w3.heap.size 4 0 6 (by omega) (by omega) (by omega) (by simp) (pick4d w3 _ rfl _)).mono ?_
      rintro e w4 ⟨m, m0, m1, rfl, g4, hc4⟩
      have HO4 := Lib.hid (OwnD.cur (World.ownsRow.alloc HO3.out _) g4 hcw)
      have HG4 := Lib.hid (grown_trans (grown_trans HG3.out (World.grownBy_alloc w3 _ (some c))) g4)
      have HC4 := Lib.hid hc4
      clear g4 hc4 HO3 HG3 HC3
      go_wp2_with fail
      exact bodyPost_ret (v := .tuple #[.int .i64 m, .slice a3 q.length c3]) (by simp [results, Tryz.results20, go_sem]) rfl ⟨m, _, _, rfl, by omega, by omega, HQB.out, HO4.out, HG4.out, HC4.out⟩
    · go_wp2_with fail
      exact bodyPost_ret (v := .tuple #[.int .i64 (2 + x), .slice a3 q.length c3]) (by simp [results, Tryz.results20, go_sem]) rfl ⟨2 + x, _, _, rfl, by omega, by omega, HQB.out, HO3.out, HG3.out, HC3.out⟩
end
end Go.Proofs.YtnbjcelfdppkcadGreat
namespace Go.Proofs.YtnbjcelfdppkcadGreat
open Go.RowKit

/-- A number of columns and dependencies, readable, and as they are drawn. -/
def DrL (w' : World) (m : Int) (u : Value) (q : List (Int × Int)) : Prop := (-100 ≤ m ∧ m ≤ 100) ∧ DepsBd q ∧ ReadD w' u q ∧ CapOk u
def DrawnND (w : World) (e : Ending) (w' : World) : Prop := ∃ m u q, e = .returned (.tuple #[.int .i64 m, u]) ∧ DrL w' m u q ∧ Below w.heap.size w w'
def DrawnNDI (w : World) (e : Ending) (w' : World) : Prop := ∃ m u q s, e = .returned (.tuple #[.int .i64 m, u, .int .i64 s]) ∧ (-1 ≤ s ∧ s ≤ 40) ∧ DrL w' m u q ∧ Below w.heap.size w w'
def DrawnNDD (w : World) (e : Ending) (w' : World) : Prop := ∃ m u q l r, e = .returned (.tuple #[.int .i64 m, u, .agg #[.int .i64 l, .int .i64 r]]) ∧ (-1 ≤ l ∧ l ≤ 33) ∧ (-1 ≤ r ∧ r ≤ 5) ∧ (0 ≤ m ∧ m ≤ 6) ∧ DepsBd q ∧ OwnD w' w.heap.size u q ∧ Below w.heap.size w w'
def DrawnNDS (w : World) (e : Ending) (w' : World) : Prop := ∃ m u q u2 q2, e = .returned (.tuple #[.int .i64 m, u, u2]) ∧ DrL w' m u q ∧ DepsBd q2 ∧ ReadD w' u2 q2 ∧ CapOk u2 ∧ Below w.heap.size w w'
theorem DrL.of {w' : World} {m : Int} {u : Value} {q : List (Int × Int)} {B : Nat} (h0 : 0 ≤ m) (h1 : m ≤ 6) (hb : DepsBd q) (ho : OwnD w' B u q) : DrL w' m u q := ⟨by omega, hb, ho.read, ho.capOk⟩
theorem col_bd {n : Int} {l : List (Int × Int)} (h : l.length ≤ 20) : DepsBd (coL11 n l) := by
  cases ha : arD n l with
  | false =>
    have e : coL11 n l = [] := by unfold coL11; rw [ha]; rfl
    rw [e]
    exact ⟨by simp, fun d hd => by cases hd⟩
  | true =>
    obtain ⟨h1, h2, -, -⟩ := cover_facts ha
    obtain ⟨C, -, h1C, hC, -, hd⟩ := arD_n h1
    have h32 := two5 hC
    refine ⟨by omega, fun d hdm => ?_⟩
    obtain ⟨L, R, rfl, hL, hR⟩ := hd d hdm
    exact ⟨⟨by show (-1 : Int) ≤ (L : Int); omega, by show (L : Int) ≤ 33; omega⟩, by show (-1 : Int) ≤ (R : Int); omega, by show (R : Int) ≤ 5; omega⟩
theorem Cur.below {W w w' : World} {v : Value} {n c : Nat} (h : Cur W v n c w) (b : Below w.heap.size w w') : Cur W v n c w' :=
  h.kept (row := none) ⟨b.os, b.tape, b.output, b.size, fun k hk _ => b.block k hk⟩ (by simp) (by simp)
section
set_option maxRecDepth 20000
set_option maxHeartbeats 3200000
end
end Go.Proofs.YtnbjcelfdppkcadGreat
namespace Go.Proofs.YtnbjcelfdppkcadGreat
open Go.RowKit

def CurRow (W : World) (v : Value) (n c : Nat) (k : Nat) (wide : Int) (w : World) (e : Ending) (w' : World) : Prop :=
  ∃ u l, e = .returned u ∧ l.length = k ∧ (∀ x ∈ l, -1 ≤ x ∧ x < wide) ∧ OwnI w' w.heap.size u l ∧ w.grownBy w' (some c) ∧ Cur W v n c w'
set_option maxHeartbeats 1600000 in
theorem row_any (W : World) (v : Value) (n : Nat) (hn : n ≤ 1048576) (hcode : CodeAt W v n) (c : Nat) (w : World) (hcur : Cur W v n c w) (k : Nat) (hk : k ≤ 1000) (wide : Int) (h1 : 1 ≤ wide) (h2 : wide ≤ 1000000) :
    Calls Tryz.prog 99 #[.pointer (some ⟨c, 0, none⟩), .int .i64 (k : Int), .int .i64 wide] w (CurRow W v n c k wide w) := by
  have HB := Lib.hid (below_any W v n hn hcode c)
  have HO := Lib.hid (once_any W v n hn hcode c)
  obtain ⟨i0, hi, hz0, hz1, hz2⟩ := info_parts info3j
  have HI : Hid (_ ∧ _ ∧ _ ∧ _) := Lib.hid ⟨hi, hz0, hz1, hz2⟩
  clear hi hz0 hz1 hz2
  have hcw := hcur.lt
  have hWc : W.heap.size ≤ c := by obtain ⟨_, _, h, _⟩ := hcur; exact h
  have hcur0 := hcur.kept (World.grownBy_alloc w (.cells #[] 3) none) (by simp) (by simp)
  have hown0 : OwnI (w.alloc (.cells #[] 3)) w.heap.size (.slice (some ⟨w.heap.size, 0, none⟩) 0 0) [] :=
    OwnI.made (World.ownsRow_made w #[] 0 (Nat.le_refl _) (by unfold maxLen; omega) rfl)
  have hg0 : w.grownBy (w.alloc (.cells #[] 3)) (some c) := World.grownBy_alloc w _ _
  go_enter Tryz.func99, Tryz.ntmps99
  go_wp2_with fail
  go_loopw [7, 8] (fun ov iv wr => ∃ (j : Nat) (l : List Int), j ≤ k ∧ iv = .int .i64 (j : Int) ∧ Hid (l.length = j ∧ ∀ x ∈ l, -1 ≤ x ∧ x < wide) ∧ OwnI wr w.heap.size ov l ∧ w.grownBy wr (some c) ∧ Cur W v n c wr) (fun _ iv _ => k - (intOf iv).toNat)
  case atStart => exact ⟨0, [], by omega, rfl, Lib.hid ⟨rfl, by simp⟩, hown0, hg0, hcur0⟩
  case round =>
    clear hown0 hg0 hcur0
    obtain ⟨j, l, hj, rfl, hL, ho, hg, hc⟩ := hrel
    have hll : l.length = j := hL.out.1
    by_cases hlt : j < k
    · have z0 : (0 : Int) ≤ (j : Int) := by omega
      have z1 : (j : Int) < (k : Int) := by omega
      clear hll
      go_wp2_with fail
      refine (HB.out _ hc wide (by omega) (by omega)).mono ?_
      rintro e w1 ⟨x, x0, x1, rfl, g1, hc1⟩
      have ho1 := ho.keptBy g1 (fun g h e => by cases h; have := (ho.lt c e).1; omega)
      have hg1 := grown_trans hg g1
      clear g1 hc ho hg
      go_wp2_with fail
      refine (HO.out _ hc1 12 (by omega) (by omega)).mono ?_
      rintro e w2 ⟨b, rfl, g2, hc2⟩
      have ho2 := ho1.keptBy g2 (fun g h e => by cases h; have := (ho1.lt c e).1; omega)
      have hg2 := grown_trans hg1 g2
      clear g2 hc1 ho1 hg1
      have hlm : l.length ≤ 1000 := by have := hL.out.1; omega
      cases b with
      | true =>
        go_wp2_with (at_builtin; refine wpList_append_own _ rfl _ _ 40 rfl w.heap.size 3 i0 (.int .i64 0) 1 8 Tryz.underlying40 HI.out.1 HI.out.2.1 HI.out.2.2.1 HI.out.2.2.2 rfl (by decide) _ _ _ rfl (World.ownsRow.alloc ho2 _) ⟨w2.heap.size, 0, none⟩ 1 1 [.int .i64 (-1)] rfl rfl (cell_one_new _ _ _) (one_i64 _) (by unfold maxLen; omega) (by omega) (le_of_grown hg2 _) ?_; intro v' w4 hown' hgrow _)
        have ho4 := OwnI.snoc hown'
        have hg4 := grown_above (grown_trans hg2 (World.grownBy_alloc w2 _ _)) hgrow (fun g h => (OwnI.lt ho2 g h).1)
        have hc4 := (hc2.kept (World.grownBy_alloc w2 _ none) (by simp) (by simp)).kept hgrow (fun g h => by have := (OwnI.lt ho2 g h).1; omega) (fun h => by have := (OwnI.lt ho2 c h).1; omega)
        clear hown' hgrow
        go_wp2_with fail
        go_roundw
        case rel => exact ⟨j + 1, _, by omega, by go_num, Lib.hid ⟨by simp [hL.out.1], fun y hy => by
          rcases List.mem_append.1 hy with h | h
          · exact hL.out.2 y h
          · simp at h; omega⟩, ho4, hg4, hc4⟩
        case measure => simp [intOf]; omega
      | false =>
        go_wp2_with (at_builtin; refine wpList_append_own _ rfl _ _ 40 rfl w.heap.size 3 i0 (.int .i64 0) 1 8 Tryz.underlying40 HI.out.1 HI.out.2.1 HI.out.2.2.1 HI.out.2.2.2 rfl (by decide) _ _ _ rfl (World.ownsRow.alloc ho2 _) ⟨w2.heap.size, 0, none⟩ 1 1 [.int .i64 x] rfl rfl (cell_one_new _ _ _) (one_i64 _) (by unfold maxLen; omega) (by omega) (le_of_grown hg2 _) ?_; intro v' w4 hown' hgrow _)
        have ho4 := OwnI.snoc hown'
        have hg4 := grown_above (grown_trans hg2 (World.grownBy_alloc w2 _ _)) hgrow (fun g h => (OwnI.lt ho2 g h).1)
        have hc4 := (hc2.kept (World.grownBy_alloc w2 _ none) (by simp) (by simp)).kept hgrow (fun g h => by have := (OwnI.lt ho2 g h).1; omega) (fun h => by have := (OwnI.lt ho2 c h).1; omega)
        clear hown' hgrow
        go_wp2_with fail
        go_roundw
        case rel => exact ⟨j + 1, _, by omega, by go_num, Lib.hid ⟨by simp [hL.out.1], fun y hy => by
          rcases List.mem_append.1 hy with h | h
          · exact hL.out.2 y h
          · simp at h; omega⟩, ho4, hg4, hc4⟩
        case measure => simp [intOf]; omega
    · obtain rfl : j = k := by omega
      have hL2 := hL.out.2
      clear hll
      go_wp2_with fail
      go_ret
      exact ⟨_, _, rfl, hL.out.1, hL2, ho, hg, hc⟩
end Go.Proofs.YtnbjcelfdppkcadGreat
namespace Go.Proofs.YtnbjcelfdppkcadGreat
open Go.RowKit

def dz (u : Nat) : List UInt8 := if u = 0 then [] else Lib.decDigits u
theorem dz_step {u : Nat} (h : u ≠ 0) : dz u = dz (u / 10) ++ [UInt8.ofNat (48 + u % 10)] := by
  unfold dz
  rw [if_neg h, Lib.decDigits]
  by_cases h10 : u < 10
  · rw [dif_pos h10, if_pos (by omega), List.nil_append, Nat.mod_eq_of_lt h10]
  · rw [dif_neg h10, if_neg (by omega)]
theorem dec_len (u : Nat) (h : u ≤ 9223372036854775808) : (Lib.decDigits u).length ≤ 100 := by
  suffices hh : ∀ k u, u < 10 ^ k → (Lib.decDigits u).length ≤ k + 1 by
    have := hh 19 u (by omega); omega
  intro k
  induction k with
  | zero => intro u h; rw [Lib.decDigits, dif_pos (by omega)]; simp
  | succ k ih =>
    intro u h
    rw [Lib.decDigits]
    by_cases h10 : u < 10
    · rw [dif_pos h10]; simp
    · rw [dif_neg h10, List.length_append]
      have := ih (u / 10) (by rw [Nat.pow_succ] at h; omega)
      simp; omega
/-- What is left, and what has been written. -/
def FI (u p : Nat) (s : ByteArray) : Prop := u ≠ 0 ∧ p ≤ u ∧ dz p ++ s.data.toList = Lib.decDigits u
theorem FI.start {u : Nat} (h : u ≠ 0) : FI u u ⟨#[]⟩ := ⟨h, Nat.le_refl _, by unfold dz; rw [if_neg h]; simp⟩
theorem FI.step {u p : Nat} {s : ByteArray} (h : FI u p s) (hp : p ≠ 0) : FI u (p / 10) (strOfNums [48 + ((p % 10 : Nat) : Int)] ++ s) := by
  obtain ⟨h1, h2, h3⟩ := h
  refine ⟨h1, by omega, ?_⟩
  rw [str_add, ← h3, dz_step hp, List.append_assoc]
  rw [strOfNums_data, List.map_cons, List.map_nil, show (48 + ((p % 10 : Nat) : Int)).toNat = 48 + p % 10 by omega]
theorem FI.fin {u : Nat} {s : ByteArray} (h : FI u 0 s) : s.data.toList = Lib.decDigits u := by
  have := h.2.2; simpa [dz] using this
theorem FI.size {u p : Nat} {s : ByteArray} (h : FI u p s) (hu : u ≤ 9223372036854775808) : s.size ≤ 100 := by
  have h1 := dec_len u hu
  rw [← h.2.2, List.length_append] at h1
  rw [str_size]; omega
def itoaB (n : Int) : ByteArray := ⟨(Lib.itoa n).toArray⟩
theorem itoaB_pos {u : Nat} {s : ByteArray} (h : FI u 0 s) : itoaB (u : Int) = s := by
  apply str_ext
  unfold itoaB Lib.itoa
  rw [if_neg (by omega), h.fin]; simp
theorem itoaB_neg {u : Nat} {s : ByteArray} (h : FI u 0 s) : itoaB (-(u : Int)) = ⟨#[45]⟩ ++ s := by
  apply str_ext
  have := h.1
  unfold itoaB Lib.itoa
  rw [if_pos (by omega), str_add, h.fin]; simp

theorem neg_mod (p : Nat) : (-(p : Int)).tmod 10 = -((p % 10 : Nat) : Int) := by
  rw [Int.neg_tmod, Int.tmod_eq_emod_of_nonneg (by omega)]; omega
theorem neg_div (p : Nat) (h : (p : Int) ≤ 9223372036854775808) : wrap64 ((-(p : Int)).tdiv 10) = -((p / 10 : Nat) : Int) := by
  rw [Int.neg_tdiv, Int.tdiv_eq_ediv_of_nonneg (by omega)]; unfold wrap64; omega
theorem neg_size (s : ByteArray) : (({ data := #[45] } : ByteArray) ++ s).size = 1 + s.size := by
  rw [str_size, str_add, List.length_append, ← str_size s]; rfl
end Go.Proofs.YtnbjcelfdppkcadGreat
namespace Go.Proofs.YtnbjcelfdppkcadGreat
open Go.RowKit

/-- The text of a value. -/
def cellS (x : Int) : ByteArray := if x = -1 then ⟨#[110, 117, 108, 108]⟩ else itoaB x
def cellB (x : Int) : List UInt8 := (cellS x).data.toList
theorem cellB_small : ∀ i : Fin 41, (Lib.itoa ((i.val : Nat) : Int)).length ≤ 2 := by
  intro i
  have h := i.isLt
  rcases (show i.val < 10 ∨ 10 ≤ i.val by omega) with h1 | h1
  · have e : Lib.itoa ((i.val : Nat) : Int) = Lib.decDigits i.val := by
      unfold Lib.itoa; rw [if_neg (by omega)]; rfl
    rw [e, Lib.decDigits, dif_pos h1]; simp
  · have e : Lib.itoa ((i.val : Nat) : Int) = Lib.decDigits i.val := by
      unfold Lib.itoa; rw [if_neg (by omega)]; rfl
    rw [e, Lib.decDigits, dif_neg (by omega), Lib.decDigits, dif_pos (by omega)]; simp
theorem cellB_len {x : Int} (h0 : -1 ≤ x) (h1 : x ≤ 40) : (cellB x).length ≤ 4 := by
  unfold cellB cellS
  by_cases hx : x = -1
  · rw [if_pos hx]; simp
  · rw [if_neg hx]
    obtain ⟨X, rfl⟩ : ∃ X : Nat, x = (X : Int) := ⟨x.toNat, by omega⟩
    have := cellB_small ⟨X, by omega⟩
    unfold itoaB
    simp only at this ⊢
    omega
/-- The values of a row, the first k of them, blanks between. -/
def rowPre (r : List Int) : Nat → List UInt8
  | 0 => []
  | k + 1 => rowPre r k ++ ((if 0 < k then [32] else []) ++ cellB (r.getD k 0))
theorem rowPre_len {r : List Int} (h : ∀ x ∈ r, -1 ≤ x ∧ x ≤ 40) (k : Nat) (hk : k ≤ r.length) : (rowPre r k).length ≤ 5 * k := by
  induction k with
  | zero => simp [rowPre]
  | succ k ih =>
    have hx := h (r.getD k 0) (by rw [← get_getD r k (by omega)]; exact List.getElem_mem _)
    have h1 := cellB_len hx.1 hx.2
    have h2 := ih (by omega)
    unfold rowPre
    rw [List.length_append, List.length_append]
    split <;> simp only [List.length_cons, List.length_nil] <;> omega
def rowB (r : List Int) : List UInt8 := rowPre r r.length ++ [10]
/-- The rows' texts, the first i of them. -/
def rowsB (ll : List (List Int)) : Nat → List UInt8
  | 0 => []
  | i + 1 => rowsB ll i ++ rowB (ll.getD i [])
def headB (c : Int) : List UInt8 := (fmtA (2 ^ c.toNat - 1)).data.toList ++ [10]
/-- The text of a table, empty if it is not valid. -/
def fmtT (c : Int) (ll : List (List Int)) : ByteArray := if isT c ll = true then ⟨(headB c ++ rowsB ll ll.length).toArray⟩ else ⟨#[]⟩
theorem head_len : ∀ C : Fin 6, (headB ((C.val : Nat) : Int)).length ≤ 6 := by decide +kernel
theorem rowB_len {c : Int} {ll : List (List Int)} (h : isT c ll = true) {k : Nat} (hk : k < ll.length) : (rowB (ll.getD k [])).length ≤ 26 := by
  obtain ⟨h1, h2⟩ := isT_row h hk
  obtain ⟨-, h5, -⟩ := isT_bd h
  have := rowPre_len h2 (ll.getD k []).length (Nat.le_refl _)
  unfold rowB
  rw [List.length_append]
  simp only [List.length_cons, List.length_nil]
  omega
theorem rowsB_len {c : Int} {ll : List (List Int)} (h : isT c ll = true) (i : Nat) (hi : i ≤ ll.length) : (rowsB ll i).length ≤ 26 * i := by
  induction i with
  | zero => simp [rowsB]
  | succ i ih =>
    have h1 := rowB_len h (show i < ll.length by omega)
    have h2 := ih (by omega)
    unfold rowsB
    rw [List.length_append]; omega
end Go.Proofs.YtnbjcelfdppkcadGreat
