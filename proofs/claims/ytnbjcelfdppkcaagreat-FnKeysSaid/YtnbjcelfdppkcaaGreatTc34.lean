/- Texts of this claim, merged: PgD, PrtD, PrtF, CvU, ShlK. Conditions: as stated. -/
import Derived.Test.YtnbjcelfdppkcaaGreatTc33
import Derived.Test.YtnbjcelfdppkcaaGreatTc23
import Derived.Test.YtnbjcelfdppkcaaGreatTc12
import Derived.Test.YtnbjcelfdppkcaaGreatTc32
import Derived.Test.YtnbjcelfdppkcaaGreatTc17
import Derived.IntWalk
import Derived.Deep.Quiet
namespace Go.Proofs.YtnbjcelfdppkcaaGreat
open Go.RowKit

theorem isC_iff {rows : Int} {r : List Int} : isC rows r = true ↔ 2 ≤ r.length ∧ (∀ k, k < r.length → 0 ≤ r.getD k 0 ∧ r.getD k 0 ≤ rows - 1) ∧ (∀ k, k + 1 < r.length → r.getD k 0 < r.getD (k + 1) 0) := by
  unfold isC
  rw [Bool.and_eq_true, decide_eq_true_eq, List.all_eq_true]
  constructor
  · rintro ⟨h2, h⟩
    have h3 : ∀ k, k < r.length → (if k = 0 then 0 else r.getD (k - 1) 0 + 1) ≤ r.getD k 0 ∧ r.getD k 0 < rows := fun k hk => by
      have := h k (List.mem_range.2 hk); unfold inC at this; exact of_decide_eq_true this
    have h4 : ∀ k, k < r.length → 0 ≤ r.getD k 0 := by
      intro k
      induction k with
      | zero => intro hk; have := (h3 0 hk).1; simpa using this
      | succ n ih =>
        intro hk
        have h5 := ih (by omega)
        have h6 := (h3 (n + 1) hk).1
        rw [if_neg (by omega), Nat.add_sub_cancel] at h6
        omega
    refine ⟨h2, fun k hk => ⟨h4 k hk, by have := (h3 k hk).2; omega⟩, fun k hk => ?_⟩
    have h6 := (h3 (k + 1) hk).1
    rw [if_neg (by omega), Nat.add_sub_cancel] at h6
    omega
  · rintro ⟨h2, h3, h4⟩
    refine ⟨h2, fun k hk => ?_⟩
    rw [List.mem_range] at hk
    unfold inC
    refine decide_eq_true ⟨?_, by have := (h3 k hk).2; omega⟩
    cases k with
    | zero => rw [if_pos rfl]; exact (h3 0 hk).1
    | succ n =>
      rw [if_neg (by omega), Nat.add_sub_cancel]
      have := h4 n hk; omega
theorem cls_of {p : List (List Int)} {rows : Int} {i : Nat} (h : isC rows (p.getD i []) = true) (h2 : lastTo p i < (p.getD i []).getD 0 0) (h3 : ∀ x ∈ p.getD i [], x ∉ flatTo p i) : Cls p rows i := by
  obtain ⟨a, b, c⟩ := isC_iff.1 h
  exact ⟨a, h2, b, c, h3⟩
theorem cls_isC {p : List (List Int)} {rows : Int} {i : Nat} (h : Cls p rows i) : isC rows (p.getD i []) = true := by
  obtain ⟨a, h2, b, c, h3⟩ := h
  exact isC_iff.2 ⟨a, b, c⟩
theorem partP_bad {p : List (List Int)} {rows : Int} {i : Nat} (hi : i < p.length) (h : ¬ Cls p rows i) : partP p rows = false := by
  cases hp : partP p rows with
  | false => rfl
  | true => exact absurd ((partP_iff.1 hp).2 i hi) h

/-- The cells of block b say which places are among S. -/
def TakAt (w : World) (b : Nat) (S : List Int) : Prop := ∀ j, j < 40 → w.cell? ⟨b, j, none⟩ = some (.bool (decide ((j : Int) ∈ S))) ∧ w.frozen? ⟨b, j, none⟩ = false
theorem TakAt.store {w : World} {b : Nat} {S : List Int} (h : TakAt w b S) (y : Nat) (hy : y < 40) : TakAt (w.setCell ⟨b, y, none⟩ (.bool true)) b (S ++ [(y : Int)]) := by
  intro j hj
  rw [World.frozen?_setCell]
  refine ⟨?_, (h j hj).2⟩
  by_cases hjl : j = y
  · subst hjl
    rw [decide_eq_true (by simp)]
    exact World.cell?_setCell_same _ _ _ (h _ hj).1
  · rw [World.cell?_setCell_other _ _ _ _ (by intro e; simp only [Addr.mk.injEq] at e; omega), (h j hj).1]
    have : (j : Int) ≠ (y : Int) := by omega
    simp [this]
theorem TakAt.below {w w' : World} {b C : Nat} {S : List Int} (h : TakAt w b S) (hb : Below C w w') (hC : b < C) : TakAt w' b S := fun j hj => ⟨(hb.cell hC).trans (h j hj).1, (hb.frozen hC).trans (h j hj).2⟩
theorem TakAt.eq {w : World} {b : Nat} {S T : List Int} (h : TakAt w b S) (e : S = T) : TakAt w b T := e ▸ h
theorem asc_not {r : List Int} (h : ∀ k, k + 1 < r.length → r.getD k 0 < r.getD (k + 1) 0) {k : Nat} (hk : k < r.length) : r.getD k 0 ∉ r.take k := by
  intro hm
  obtain ⟨t, ht, he⟩ := (mem_take (by omega)).1 hm
  have := asc_lt (i := t) h (k - t - 1) (by omega)
  rw [show t + (k - t - 1) + 1 = k by omega] at this
  omega
end Go.Proofs.YtnbjcelfdppkcaaGreat
namespace Go.Proofs.YtnbjcelfdppkcaaGreat
open Go.RowKit

theorem part_i64 {p : List (List Int)} {rows : Int} (h : partP p rows = true) : I64ss p := by
  intro i hi x hx
  obtain ⟨hr, hc⟩ := partP_iff.mp h
  obtain ⟨t, ht, rfl⟩ := mem_getD'.mp hx
  have := (hc i hi).2.2.1 t ht
  omega
theorem r5_five {a0 a1 a2 a3 a4 : Int} (h0 : -9223372036854775808 ≤ a0 ∧ a0 ≤ 9223372036854775807) (h1 : -9223372036854775808 ≤ a1 ∧ a1 ≤ 9223372036854775807) (h2 : -9223372036854775808 ≤ a2 ∧ a2 ≤ 9223372036854775807) (h3 : -9223372036854775808 ≤ a3 ∧ a3 ≤ 9223372036854775807) (h4 : -9223372036854775808 ≤ a4 ∧ a4 ≤ 9223372036854775807) : R5 [a0, a1, a2, a3, a4] := by
  refine ⟨rfl, fun j hj => ?_⟩
  rcases (show j = 0 ∨ j = 1 ∨ j = 2 ∨ j = 3 ∨ j = 4 by omega) with rfl | rfl | rfl | rfl | rfl
  · exact WalkArith.wf_i64 h0
  · exact WalkArith.wf_i64 h1
  · exact WalkArith.wf_i64 h2
  · exact WalkArith.wf_i64 h3
  · exact WalkArith.wf_i64 h4
theorem add_lit (a0 a1 a2 a3 a4 : Int) (x : Int) (B b n : Nat) (g : List Int → List Int) (w : World) (h : Grp w B b n g) (hr : R5 [a0, a1, a2, a3, a4]) (hn : n < 1048576) (hl : (g [a0, a1, a2, a3, a4]).length < 1048576) (hB : B ≤ w.heap.size) :
    Calls Tryz.prog 55 #[.map (some b), .agg #[.int .i64 a0, .int .i64 a1, .int .i64 a2, .int .i64 a3, .int .i64 a4], .int .i64 x] w fun e w' => e = .returned (.tuple #[]) ∧ Grp w' B b (n + 1) (fun s => if s = [a0, a1, a2, a3, a4] then g s ++ [x] else g s) ∧ Below B w w' :=
  add_any [a0, a1, a2, a3, a4] x B b n g w h hr hn hl hB
theorem keyP_none {p q : List (List Int)} {i : Nat} (h : fcl p (i : Int) = none ∨ fcl q (i : Int) = none) : keyP p q i = none := by
  unfold keyP
  unfold fcl at h
  rw [if_neg]
  rintro ⟨h1, h2⟩
  rcases h with h | h
  · rw [if_neg (by omega)] at h; cases h
  · rw [if_neg (by omega)] at h; cases h
theorem keyP_both {p q : List (List Int)} {i : Nat} {a b : Int} (ha : fcl p (i : Int) = some a) (hb : fcl q (i : Int) = some b) : keyP p q i = some [a, b, 0, 0, 0] := by
  unfold fcl at *
  split at ha
  · cases ha
  · split at hb
    · cases hb
    · cases ha; cases hb
      unfold keyP
      rw [if_pos ⟨by omega, by omega⟩]
theorem prod_ret {p q : List (List Int)} {rows : Int} (hp : partP p rows = true) (hq : partP q rows = true) (hl : p.length ≤ 1048576) (hl' : q.length ≤ 1048576) {w w5 : World} {B : Nat} (hB : w.heap.size ≤ B) (hb : Below w.heap.size w w5) {e : Ending} {w' : World} (h : RetP B (grpOf (keyP p q) rows.toNat) w5 e w') : RetSS (proS p q rows) w e w' := by
  obtain ⟨v, L, rs, rfl, ho, h1, h2, h3, h4, h5, h6⟩ := h
  have e : L = proS p q rows := product_eq hp hq h1 h2 h3 h5 h4 (fun i r hi hk => by
    unfold keyP at hk
    split at hk
    · cases hk
      have := clsI_ge p (i : Int)
      have := clsI_ge q (i : Int)
      exact r5_five (by omega) (by omega) (by omega) (by omega) (by omega)
    · cases hk)
  subst e
  exact ⟨v, rfl, ho.base hB (Nat.le_refl _), hb.trans (h6.mono hB)⟩
end Go.Proofs.YtnbjcelfdppkcaaGreat
namespace Go.Proofs.YtnbjcelfdppkcaaGreat
open Go.RowKit

theorem modeOk_two {m : Int} (h : modeOk m = true) : m = 0 ∨ m = 1 := by simpa [modeOk] using h
theorem and_comm64 (x y : Int) : bits .and .i64 x y = bits .and .i64 y x := by rw [bits_and, bits_and, BitVec.and_comm]
theorem partZ_agB {c : Nat} {ll : List (List Int)} {m : Int} {S i : Nat} (hS : S < 32) : partZ (S : Int) (agrTo m (ll.getD i []) (ll.getD i []) c) = agB c ll m (S : Int) i i := by
  rw [partZ_eq _ _ (by omega) (by omega), and_comm64]; rfl
theorem isA_nat2 {c s : Int} (h : isA c s = true) (h5 : 1 ≤ c ∧ c ≤ 5) : ∃ S : Nat, s = (S : Int) ∧ S < 2 ^ c.toNat ∧ S < 32 := by
  obtain ⟨C, rfl⟩ : ∃ C : Nat, c = (C : Int) := ⟨c.toNat, by omega⟩
  obtain ⟨S, rfl, hC, hS⟩ := isA_nat h
  exact ⟨S, rfl, by rw [show ((C : Int)).toNat = C by omega]; exact hS, pow_lt32 hC hS⟩
theorem table_ret {c m : Int} {ll : List (List Int)} {S : Nat} (hf : fineT c ll m = true) (hs : isA c (S : Int) = true) (hS : S < 2 ^ c.toNat) {w w5 : World} {B : Nat} (hB : w.heap.size ≤ B) (hb : Below w.heap.size w w5) {e : Ending} {w' : World}
    (h : RetP B (grpOf (keyT c.toNat ll m S) ll.length) w5 e w') : RetSS (prtS c ll m (S : Int)) w e w' := by
  obtain ⟨v, L, rs, rfl, ho, h1, h2, h3, h4, h5, h6⟩ := h
  have e : L = prtS c ll m (S : Int) := table_eq hf hs hS h1 h2 h3 h5 h4
  subst e
  exact ⟨v, rfl, ho.base hB (Nat.le_refl _), hb.trans (h6.mono hB)⟩
theorem RecAt.cells {w : World} {b : Nat} {r : List Int} (h : RecAt w b r) (hr : (pad5 r) = [r.getD 0 0, r.getD 1 0, r.getD 2 0, r.getD 3 0, r.getD 4 0]) : ∃ a0 a1 a2 a3 a4 : Int, pad5 r = [a0, a1, a2, a3, a4] ∧ w.cell? ⟨b, 0, none⟩ = some (.int .i64 a0) ∧ w.cell? ⟨b, 1, none⟩ = some (.int .i64 a1) ∧ w.cell? ⟨b, 2, none⟩ = some (.int .i64 a2) ∧ w.cell? ⟨b, 3, none⟩ = some (.int .i64 a3) ∧ w.cell? ⟨b, 4, none⟩ = some (.int .i64 a4) :=
  ⟨_, _, _, _, _, hr, (h 0 (by omega)).1, (h 1 (by omega)).1, (h 2 (by omega)).1, (h 3 (by omega)).1, (h 4 (by omega)).1⟩
set_option maxRecDepth 20000 in
set_option maxHeartbeats 3200000 in
theorem implPartitionOf_any (c m s : Int) (v : Value) (ll : List (List Int)) (w : World) (hr : ReadSS w v ll) (hl : ll.length ≤ 1048576) (ht : ∀ i, i < ll.length → (ll.getD i []).length ≤ 1048576) (hs0 : -9223372036854775808 ≤ s) (hs1 : s ≤ 9223372036854775807) :
    Calls Tryz.prog 30 #[.agg #[.int .i64 c, v], .int .i64 m, .int .i64 s] w (RetSS (prtS c ll m s) w) := by
  have HO := Lib.hid (eqOf_any m)
  have HV := Lib.hid (fun w' (hb : Below w.heap.size w w') => implIsTable_any c v ll w' (hr.kept hb) hl ht)
  have hb1 := (Below.refl w.heap.size w).alloc (Nat.le_refl _) (.cells #[.int .i64 c, v] 26)
  have HR := Lib.hid (fun w' (hb : Below w.heap.size w w') => hr.kept hb)
  have HB1 := Lib.hid hb1
  obtain ⟨a, cap, rfl, -⟩ := hr
  obtain ⟨F, hF⟩ : ∃ F, eqFn m = F := ⟨_, rfl⟩
  cases hm : modeOk m with
  | false =>
    have HE : Hid (prtS c ll m s = []) := Lib.hid (by unfold prtS fineT; rw [hm]; simp)
    rw [HE.out]
    rw [hm, hF] at HO
    clear hm hF hb1
    go_enter Tryz.func30, Tryz.ntmps30
    go_wp2_with fail
    refine (HO.out _).mono ?_
    rintro e w' ⟨rfl, rfl⟩
    go_wp2_with fail
    go_ret
    exact ⟨_, rfl, OwnSS.nil _ _ _, HB1.out⟩
  | true =>
    have hmm := modeOk_two hm
    rw [hm, hF] at HO
    cases hv : isT c ll with
    | false =>
      have HE : Hid (prtS c ll m s = []) := Lib.hid (by unfold prtS fineT; rw [hv]; simp)
      rw [HE.out]
      rw [hv] at HV
      clear hm hF hmm hv hb1
      go_enter Tryz.func30, Tryz.ntmps30
      go_wp2_with fail
      refine (HO.out _).mono ?_
      rintro e w' ⟨rfl, rfl⟩
      go_wp2_with fail
      refine (HV.out _ HB1.out).mono ?_
      rintro e w' ⟨rfl, b⟩
      have hb2 := HB1.out.trans (b.mono HB1.out.size)
      clear b
      go_wp2_with fail
      go_ret
      exact ⟨_, rfl, OwnSS.nil _ _ _, hb2⟩
    | true =>
      rw [hv] at HV
      have HA := Lib.hid (implIsA_any c s hs0 hs1)
      cases hs : isA c s with
      | false =>
        have HE : Hid (prtS c ll m s = []) := Lib.hid (by unfold prtS; rw [hs]; simp)
        rw [HE.out]
        rw [hs] at HA
        clear hm hF hmm hv hs hb1 hs0 hs1
        go_enter Tryz.func30, Tryz.ntmps30
        go_wp2_with fail
        refine (HO.out _).mono ?_
        rintro e w' ⟨rfl, rfl⟩
        go_wp2_with fail
        refine (HV.out _ HB1.out).mono ?_
        rintro e w' ⟨rfl, b⟩
        have hb2 := HB1.out.trans (b.mono HB1.out.size)
        obtain ⟨c0, c1⟩ := box2 b
        clear b
        go_wp2_with fail
        refine (HA.out _).mono ?_
        rintro e w3 ⟨rfl, b⟩
        have hb3 := hb2.trans (b.mono hb2.size)
        clear b
        go_wp2_with fail
        go_ret
        exact ⟨_, rfl, OwnSS.nil _ _ _, hb3⟩
      | true =>
        rw [hs] at HA
        obtain ⟨hc1, hc5, h40⟩ := isT_bd hv
        obtain ⟨S, rfl, hS, hS32⟩ := isA_nat2 hs ⟨hc1, hc5⟩
        have hf : fineT c ll m = true := by unfold fineT; rw [hv, hm]; rfl
        have HR5 := Lib.hid (fun w5 B e w' (hB : w.heap.size ≤ B) (hb : Below w.heap.size w w5) (h : RetP B (grpOf (keyT c.toNat ll m S) ll.length) w5 e w') => table_ret hf hs hS hB hb h)
        have HM := Lib.hid (members_any S hS32)
        have HROW := Lib.hid (fun i (hi : i < ll.length) => (isT_row hv hi).1)
        have HMI := Lib.hid (fun i (hi : i < ll.length) => mems_in (i := i) hv hS hi)
        have HRB := Lib.hid (fun i (hi : i < ll.length) => pad5_r5 (recC_bd (i := i) hv hS hi))
        have HAG := Lib.hid (fun i u w' (hi : i < ll.length) (hu : ReadI w' u (ll.getD i [])) => agreement_any m hmm u u (ll.getD i []) (ll.getD i []) w' hu hu (by have := HROW.out i hi; omega) (Nat.le_refl _))
        rw [hF] at HAG
        have HZ := Lib.hid (fun i => partZ_agB (c := c.toNat) (ll := ll) (m := m) (i := i) hS32)
        have HPT := Lib.hid partOf_any
        have hmm2 := @run_makeMap Tryz.prog
        clear hm hF hmm hv hs hb1 hs0 hs1 hf
        go_enter Tryz.func30, Tryz.ntmps30
        go_wp2_with fail
        refine (HO.out _).mono ?_
        rintro e w' ⟨rfl, rfl⟩
        go_wp2_with fail
        refine (HV.out _ HB1.out).mono ?_
        rintro e w1 ⟨rfl, b⟩
        have hb2 := HB1.out.trans (b.mono HB1.out.size)
        obtain ⟨c0, c1⟩ := box2 b
        have HBB := Lib.hid b
        clear b
        go_wp2_with fail
        refine (HA.out _).mono ?_
        rintro e w3 ⟨rfl, b⟩
        have hb3 := hb2.trans (b.mono hb2.size)
        clear c0 c1
        have HB3 := Lib.hid (HBB.out.trans (b.mono HBB.out.size))
        obtain ⟨c0, c1⟩ := box2 HB3.out
        clear b hb2
        go_wp2_with fail
        refine (HM.out _).mono ?_
        rintro e w4 ⟨vc, rfl, hvc, b⟩
        have hs4 := b.size
        have hb4 := hb3.trans (b.mono hb3.size)
        clear c0 c1
        have HB4 := Lib.hid (HB3.out.trans (b.mono HB3.out.size))
        clear b
        have bz := (Below.refl w4.heap.size w4).alloc (Nat.le_refl _) (.map #[] 0)
        have HB5 := Lib.hid (HB4.out.trans (bz.mono HB4.out.size))
        obtain ⟨c0, c1⟩ := box2 HB5.out
        have hb5 := hb4.trans (bz.mono hb4.size)
        have hg5 := (Grp.made w4).congr (grpOf_zero (keyT c.toNat ll m S))
        have hvl := hvc.lt
        have hvc5 := hvc.kept bz (fun k hk => (hvc.lt k hk).2)
        have hww := hb4.size
        clear hb3 hb4 hvc bz
        go_wp2_with fail
        go_loopw [38] (fun iv wr => ∃ i : Nat, i ≤ ll.length ∧ iv = .int .i64 (i : Int) ∧ Grp wr w4.heap.size w4.heap.size i (grpOf (keyT c.toNat ll m S) i) ∧ OwnI wr w3.heap.size vc (mems (S : Int)) ∧ Below w.heap.size w wr) (fun iv _ => ll.length - (intOf iv).toNat)
        case atStart => exact ⟨0, by omega, rfl, hg5, hvc5, hb5⟩
        case round =>
          clear hg5 hvc5 hb5 c0 c1
          obtain ⟨i, hi, rfl, hg, hvc, hb⟩ := hrel
          obtain ⟨w9, hw9⟩ : ∃ w', w' = wr := ⟨_, rfl⟩
          rw [← hw9] at hg hvc hb ⊢
          clear hw9
          have hgl := hg.lt
          by_cases hlt : i < ll.length
          · obtain ⟨a2, cap2, hv2, ha2⟩ := HR.out _ hb
            simp only [Value.slice.injEq] at hv2
            obtain ⟨rfl, -, rfl⟩ := hv2
            obtain ⟨x, ui, rfl, hx, hu⟩ := ha2 i hlt
            clear ha2
            have z0 : (0 : Int) ≤ (i : Int) := by omega
            have z1 : (i : Int) < (ll.length : Int) := by omega
            have HU := Lib.hid hu
            have HGA := HAG.out i ui w9 hlt hu
            have hlen := HROW.out i hlt
            rw [show (ll.getD i []).length = c.toNat by omega] at HGA
            have HZi := HZ.out i
            obtain ⟨Y, hY⟩ : ∃ Y, Y = agrTo m (ll.getD i []) (ll.getD i []) c.toNat := ⟨_, rfl⟩
            rw [← hY] at HGA HZi
            have HGA := Lib.hid HGA
            have HPI := Lib.hid (fun w' => HPT.out (S : Int) Y w')
            rw [HZi] at HPI
            clear hY HZi hu hlen
            have hdr := fun k => below_drewN (Below.refl w9.heap.size w9) k
            cases hab : agB c.toNat ll m (S : Int) i i with
            | false =>
              have HGN := Lib.hid (fun w' (hb : Below w9.heap.size w9 w') => (hg.kept hb).congr (grpOf_none (show keyT c.toNat ll m S i = none by unfold keyT; rw [hab]; simp)))
              have HVC := Lib.hid (fun w' (hb : Below w9.heap.size w9 w') => hvc.kept hb (fun k hk => (hvc.lt k hk).2))
              have HBW := Lib.hid (fun w' (b : Below w9.heap.size w9 w') => hb.trans (b.mono hb.size))
              rw [hab] at HPI
              clear hab hg hvc hb
              go_wp2_with fail
              refine HGA.out.mono ?_
              rintro e w5 ⟨rfl, k, rfl⟩
              have HD := Lib.hid (hdr k)
              clear hdr
              go_wp2_with fail
              refine (HPI.out _).mono ?_
              rintro e w6 ⟨rfl, rfl⟩
              go_wp2_with fail
              go_roundw
              case rel => exact ⟨i + 1, by omega, by go_num, (HGN.out _ HD.out).mono (by omega), HVC.out _ HD.out, HBW.out _ HD.out⟩
              case measure => simp [intOf]; omega
            | true =>
              rw [hab] at HPI
              have HKEY := Lib.hid (show keyT c.toNat ll m S i = some (pad5 (recC ll S i)) by unfold keyT; rw [if_pos hab])
              have HREC := Lib.hid (fun w' (b : Below w9.heap.size w9 w') => recordOf_any ui vc (ll.getD i []) (mems (S : Int)) w' (HU.out.kept b) (hvc.kept b (fun k hk => (hvc.lt k hk).2)).read (mems_len _) (HMI.out i hlt))
              have HGK := Lib.hid (fun w' (b : Below w9.heap.size w9 w') => hg.kept b)
              have HVC := Lib.hid (fun w' (b : Below w9.heap.size w9 w') => hvc.kept b (fun k hk => (hvc.lt k hk).2))
              have HBW := Lib.hid (fun w' (b : Below w9.heap.size w9 w') => hb.trans (b.mono hb.size))
              have hlen := grpOf_len (keyT c.toNat ll m S) i
              have HLEN := Lib.hid hlen
              clear hab hg hvc hb hlen
              go_wp2_with fail
              refine HGA.out.mono ?_
              rintro e w5 ⟨rfl, k, rfl⟩
              have HD := Lib.hid (hdr k)
              obtain ⟨w5, hw5⟩ : ∃ w5, w5 = w9.drewN k := ⟨_, rfl⟩
              rw [← hw5] at HD ⊢
              clear hdr hw5
              go_wp2_with fail
              refine (HPI.out _).mono ?_
              rintro e w6 ⟨rfl, rfl⟩
              go_wp2_with fail
              refine (HREC.out _ HD.out).mono ?_
              rintro e w6 ⟨bq, rfl, hrec, -, -, b6⟩
              have HD6 := Lib.hid (HD.out.trans (b6.mono HD.out.size))
              obtain ⟨a0, a1, a2, a3, a4, hpad, k0, k1, k2, k3, k4⟩ := hrec.cells rfl
              have hpad2 : pad5 (recC ll S i) = [a0, a1, a2, a3, a4] := hpad
              have HK2 := Lib.hid (HKEY.out.trans (congrArg some hpad2))
              have hr5 : R5 [a0, a1, a2, a3, a4] := by rw [← hpad2]; exact HRB.out i hlt
              have hs6 := HD6.out.size
              have HADD := Lib.hid (add_lit a0 a1 a2 a3 a4 (i : Int) w4.heap.size w4.heap.size i (grpOf (keyT c.toNat ll m S) i) w6 (HGK.out _ HD6.out) hr5 (by omega) (by have := HLEN.out [a0, a1, a2, a3, a4]; omega) (by omega))
              clear hpad hpad2 hr5 hrec b6
              go_wp2_with fail
              refine HADD.out.mono ?_
              rintro e w7 ⟨rfl, hg7, b7⟩
              have hg8 := hg7.congr (grpOf_some HK2.out)
              have hvc8 := (HVC.out _ HD6.out).kept b7 (fun k hk => (hvl k hk).2)
              have hb8 := (HBW.out _ HD6.out).trans (b7.mono hww)
              clear hg7 b7 k0 k1 k2 k3 k4
              go_wp2_with fail
              go_roundw
              case rel => exact ⟨i + 1, by omega, by go_num, hg8, hvc8, hb8⟩
              case measure => simp [intOf]; omega
          · obtain rfl : i = ll.length := by omega
            have HE := Lib.hid (fun e w' (h : RetP w4.heap.size (grpOf (keyT c.toNat ll m S) ll.length) w9 e w') => HR5.out w9 w4.heap.size e w' (by omega) hb h)
            have HPT := Lib.hid (partition_any w4.heap.size w4.heap.size ll.length (grpOf (keyT c.toNat ll m S) ll.length) w9 hg (by omega) (fun r => by have := grpOf_len (keyT c.toNat ll m S) ll.length r; omega) (by omega))
            clear hg hvc HR5 HAG
            go_wp2_with fail
            refine HPT.out.mono ?_
            rintro e w6 hret
            obtain ⟨v, L, rs, rfl, h⟩ := id hret
            have HF := Lib.hid (HE.out _ _ hret)
            clear h hret
            go_wp2_with fail
            go_ret
            exact HF.out
end Go.Proofs.YtnbjcelfdppkcaaGreat
namespace Go.Proofs.YtnbjcelfdppkcaaGreat
open Go.RowKit

section
set_option maxRecDepth 20000
set_option maxHeartbeats 1600000
theorem implIsUnique_any (c m s : Int) (v : Value) (ll : List (List Int)) (_w2 : (Lit.int .i64 s).wf = true) (w : World) (hr : ReadSS w v ll) (hl : ll.length ≤ 1048576) (ht : ∀ i, i < ll.length → (ll.getD i []).length ≤ 1048576) :
    Calls Tryz.prog 11 #[.agg #[.int .i64 c, v], .int .i64 m, .int .i64 s] w fun e w' => e = .returned (.bool (uniqB c ll m s)) ∧ Below w.heap.size w w' := by
  have hb1 := (Below.refl w.heap.size w).alloc (Nat.le_refl _) (.cells #[.int .i64 c, v] 26)
  have HF := Lib.hid (fun w' (hb : Below w.heap.size w w') => inMode_any c m v ll w' (hr.kept hb) hl ht)
  have HA := Lib.hid (fun w' => implIsA_any c s (wf_i64_ge _w2) (wf_i64_le _w2) w')
  have HC := Lib.hid (fun w' (hb : Below w.heap.size w w') => implPartitionOf_any c m s v ll w' (hr.kept hb) hl ht (wf_i64_ge _w2) (wf_i64_le _w2))
  have HB1 := Lib.hid hb1
  obtain ⟨c0, c1⟩ := zero2 w 26 (.int .i64 c) v
  obtain ⟨a, cap, rfl, -⟩ := hr
  clear hb1 ht
  cases hf : fineT c ll m with
  | false =>
    have HE : Hid (uniqB c ll m s = false) := Lib.hid (by unfold uniqB; rw [hf]; rfl)
    rw [hf] at HF
    clear hf
    go_enter Tryz.func11, Tryz.ntmps11
    go_wp2_with fail
    refine (HF.out _ HB1.out).mono ?_
    rintro e w1 ⟨rfl, b1⟩
    have hb2 := HB1.out.trans (b1.mono HB1.out.size)
    go_wp2_with fail
    go_ret
    exact ⟨by rw [HE.out]; rfl, hb2⟩
  | true =>
    rw [hf] at HF
    cases ha : isA c s with
    | false =>
      have HE : Hid (uniqB c ll m s = false) := Lib.hid (by unfold uniqB; rw [ha]; simp)
      rw [ha] at HA
      clear hf ha
      go_enter Tryz.func11, Tryz.ntmps11
      go_wp2_with fail
      refine (HF.out _ HB1.out).mono ?_
      rintro e w1 ⟨rfl, b1⟩
      have hb2 := HB1.out.trans (b1.mono HB1.out.size)
      replace c0 := (b1.cell (World.block_lt_of_cell? _ _ c0)).trans c0
      replace c1 := (b1.cell (World.block_lt_of_cell? _ _ c1)).trans c1
      clear b1
      go_wp2_with fail
      refine (HA.out _).mono ?_
      rintro e w2 ⟨rfl, b2⟩
      have hb3 := hb2.trans (b2.mono hb2.size)
      go_wp2_with fail
      go_ret
      exact ⟨by rw [HE.out]; rfl, hb3⟩
    | true =>
      rw [ha] at HA
      have hE : uniqB c ll m s = decide ((prtS c ll m s).length = 0) := by unfold uniqB prtS; rw [hf, ha]; rfl
      obtain ⟨P, hP⟩ : ∃ P, P = prtS c ll m s := ⟨_, rfl⟩
      rw [← hP] at HC hE
      obtain ⟨qb, hqb⟩ : ∃ qb, qb = decide (P.length = 0) := ⟨_, rfl⟩
      rw [← hqb] at hE
      have HE := Lib.hid hE
      have hq : ((P.length : Int) == 0) = qb := by rw [hqb, Bool.eq_iff_iff, beq_iff_eq, decide_eq_true_iff]; omega
      clear hf ha hP hE hqb
      go_enter Tryz.func11, Tryz.ntmps11
      go_wp2_with fail
      refine (HF.out _ HB1.out).mono ?_
      rintro e w1 ⟨rfl, b1⟩
      have hb2 := HB1.out.trans (b1.mono HB1.out.size)
      replace c0 := (b1.cell (World.block_lt_of_cell? _ _ c0)).trans c0
      replace c1 := (b1.cell (World.block_lt_of_cell? _ _ c1)).trans c1
      clear b1
      go_wp2_with fail
      refine (HA.out _).mono ?_
      rintro e w2 ⟨rfl, b2⟩
      have hb2' := hb2.trans (b2.mono hb2.size)
      replace c0 := (b2.cell (World.block_lt_of_cell? _ _ c0)).trans c0
      replace c1 := (b2.cell (World.block_lt_of_cell? _ _ c1)).trans c1
      clear b2
      go_wp2_with fail
      refine (HC.out _ hb2').mono ?_
      rintro e w3 ⟨vp, rfl, op, b3⟩
      have hb3 := hb2'.trans (b3.mono hb2'.size)
      obtain ⟨ap, capp, rfl, -⟩ := op.read
      clear b3 op
      go_wp2_with fail
      go_ret
      exact ⟨ret_b HE.out, hb3⟩
theorem keyFun_any (c m : Int) (v : Value) (ll : List (List Int)) (b : Nat) (s : Int) (_w2 : (Lit.int .i64 s).wf = true) (w : World) (he : Env2 w b c m v ll) (hl : ll.length ≤ 1048576) (ht : ∀ i, i < ll.length → (ll.getD i []).length ≤ 1048576) :
    Calls Tryz.prog 18 #[.int .i64 s, .pointer (some ⟨b, 0, none⟩), .pointer (some ⟨b + 1, 0, none⟩)] w fun e w' => e = .returned (.bool (uniqB c ll m s)) ∧ Below w.heap.size w w' := by
  have HU := Lib.hid (implIsUnique_any c m s v ll _w2 w he.s hl ht)
  obtain ⟨t0, t1, m0, hs⟩ := he
  obtain ⟨a, cap, rfl, -⟩ := hs
  go_enter Tryz.func18, Tryz.ntmps18
  go_wp2_with fail
  refine HU.out.mono ?_
  rintro e w2 ⟨rfl, b2⟩
  go_wp2_with fail
  go_ret
  exact ⟨rfl, b2⟩
theorem uniq_keys (c m : Int) (ll : List (List Int)) : minS ((parts c).filter (fun S => uniqB c ll m S)) = mkL c ll m := by
  unfold mkL
  by_cases hf : fineT c ll m = true
  · rw [if_pos hf]
    have := isT_bd (fineT_isT hf)
    obtain ⟨C, rfl⟩ : ∃ C : Nat, c = (C : Int) := ⟨c.toNat, by omega⟩
    exact min_filt (by omega) (fun x _ => rfl)
  · rw [if_neg hf]
    have : (parts c).filter (fun S => uniqB c ll m S) = [] := List.filter_eq_nil_iff.2 (fun S _ h => hf (by unfold uniqB at h; rw [Bool.and_eq_true, Bool.and_eq_true] at h; exact h.1.1))
    rw [this]
theorem implMinimalKeys_any (c m : Int) (v : Value) (ll : List (List Int)) (w : World) (hr : ReadSS w v ll) (hl : ll.length ≤ 1048576) (ht : ∀ i, i < ll.length → (ll.getD i []).length ≤ 1048576) :
    Calls Tryz.prog 6 #[.agg #[.int .i64 c, v], .int .i64 m] w (RetI (mkL c ll m) w) := by
  have hb1 := (Below.refl w.heap.size w).alloc (Nat.le_refl _) (.cells #[.int .i64 c, v] 26)
  have hb2 := hb1.alloc hb1.size (.cells #[.int .i64 m] 3)
  have he := Env2.mk' (c := c) (m := m) hr 26 3
  have HB := Lib.hid hb2
  have HP := Lib.hid (implParts_any c)
  have hpl := parts_lenS c
  have hfl := List.length_filter_le (fun S => uniqB c ll m S) (parts c)
  have HF := Lib.hid (fun vp w' (h : Env2 w' w.heap.size c m v ll) (hp : ReadI w' vp (parts c)) => filtMK_any (.pointer (some ⟨w.heap.size, 0, none⟩)) (.pointer (some ⟨w.heap.size + 1, 0, none⟩)) (fun S => uniqB c ll m S) vp (parts c) w' hp hpl
    (fun x hx w'' hb => by
      obtain ⟨X, rfl, hX⟩ := parts_small c x hx
      exact keyFun_any c m v ll w.heap.size (X : Int) (wf_small X hX) w'' (h.kept hb) hl ht))
  have HM := Lib.hid (fun vp w' (hp : ReadI w' vp ((parts c).filter (fun S => uniqB c ll m S))) => implMinimalM_any vp _ w' hp (by omega) (filt_I64 c _))
  rw [uniq_keys] at HM
  have HEV := Lib.hid he
  obtain ⟨t0, t1, m0, hs⟩ := he
  obtain ⟨a, cap, rfl, -⟩ := hs
  clear hb1 hb2 ht hpl hfl
  go_enter Tryz.func6, Tryz.ntmps6
  go_wp2_with fail
  refine (HP.out _).mono ?_
  rintro e w1 ⟨v1, rfl, o1, b1⟩
  have hb3 := HB.out.trans (b1.mono HB.out.size)
  have HG := Lib.hid (HF.out v1 w1 (HEV.out.kept b1) o1.read)
  clear o1 b1
  go_wp2_with fail
  refine HG.out.mono ?_
  rintro e w2 ⟨v2, rfl, o2, b2⟩
  have hb4 := hb3.trans (b2.mono hb3.size)
  have HN := Lib.hid (HM.out v2 w2 o2.read)
  clear o2 b2 hb3
  go_wp2_with fail
  refine HN.out.mono ?_
  rintro e w3 ⟨v3, rfl, o3, b3⟩
  have hb5 := hb4.trans (b3.mono hb4.size)
  have o4 := o3.base hb4.size
  clear o3 b3 hb4
  go_wp2_with fail
  go_ret
  exact ⟨_, rfl, o4, hb5⟩
end
end Go.Proofs.YtnbjcelfdppkcaaGreat
namespace Go.Proofs.YtnbjcelfdppkcaaGreat
open Go.RowKit

theorem sh_small {n : Nat} (h : n ≤ 20) : wrap64 (2 ^ n) = ((2 ^ n : Nat) : Int) := by
  have : ∀ n : Fin 21, wrap64 (2 ^ n.val) = ((2 ^ n.val : Nat) : Int) := by decide +kernel
  exact this ⟨n, by omega⟩
theorem shl_run (n : Nat) (h : n ≤ 20) : Op.shift .shl .i64 1 .i64 (n : Int) = (pure (.int .i64 ((2 ^ n : Nat) : Int)) : Sem Value) := by
  unfold Op.shift
  have h1 : ¬ (n : Int) < 0 := by omega
  have h2 : min ((n : Int)).toNat IntKind.i64.bits = n := by
    show min ((n : Int)).toNat 64 = n
    omega
  have h3 : IntKind.i64.wrap (1 * 2 ^ n) = ((2 ^ n : Nat) : Int) := by
    rw [Int.one_mul, IntWalk.i64_left]
    exact sh_small h
  simp only [if_neg h1, h2, h3]
section
variable (w : World) {ops : Array Oper} {rest : List Oper} {o : Oper} {a : Act} {Q : Exit → Act → World → Prop}
/-- '1 << n', n at most 20: the number by a name. -/
theorem wpList_shl1 (hg : o.guard = none) (x y : Operand) (t t' : TypeId) (hop : o.op = Op.binOp .shl t x y t') (n N : Nat) (hN : N = 2 ^ n) (hx : a.eval x = .int .i64 1) (hy : a.eval y = .int .i64 (n : Int)) (h : n ≤ 20)
    (hK : wpList Tryz.prog ops Q rest (a.put o.dst (.int .i64 (N : Int))) w) : wpList Tryz.prog ops Q (o :: rest) a w := by
  subst hN
  refine wpList_plain hg fun K' hK' => ?_
  unfold Oper.wp
  simp only [execOp, hop, hx, hy, binOp_shl, shl_run n h, Sem.run_pure, Sem.run_bind, Result.andThen]
  exact hK' _ _ hK
end
theorem shr_run (m n : Nat) (h : n ≤ 20) : Op.shift .shr .i64 (m : Int) .i64 (n : Int) = (pure (.int .i64 ((m / 2 ^ n : Nat) : Int)) : Sem Value) := by
  rw [shift_shr_any .i64 .i64 _ _ (by omega)]
  have h2 : min ((n : Int)).toNat IntKind.i64.bits = n := by
    show min ((n : Int)).toNat 64 = n
    omega
  rw [h2]
  have h3 : (m : Int) / 2 ^ n = ((m / 2 ^ n : Nat) : Int) := by rw [Int.natCast_ediv, Int.natCast_pow]; rfl
  rw [h3]
section
variable (w : World) {ops : Array Oper} {rest : List Oper} {o : Oper} {a : Act} {Q : Exit → Act → World → Prop}
theorem wpList_shr (hg : o.guard = none) (x y : Operand) (t t' : TypeId) (hop : o.op = Op.binOp .shr t x y t') (m n Z : Nat) (hZ : Z = m / 2 ^ n) (hx : a.eval x = .int .i64 (m : Int)) (hy : a.eval y = .int .i64 (n : Int)) (h : n ≤ 20)
    (hK : wpList Tryz.prog ops Q rest (a.put o.dst (.int .i64 (Z : Int))) w) : wpList Tryz.prog ops Q (o :: rest) a w := by
  subst hZ
  refine wpList_plain hg fun K' hK' => ?_
  unfold Oper.wp
  simp only [execOp, hop, hx, hy, binOp_shr, shr_run m n h, Sem.run_pure, Sem.run_bind, Result.andThen]
  exact hK' _ _ hK
end
end Go.Proofs.YtnbjcelfdppkcaaGreat
