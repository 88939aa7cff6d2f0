/- Texts of this claim, merged: ParE, RowsOpen, SSLaw. Conditions: as stated. -/
import Derived.Test.YtfndnaldgaaieaaGreatDoorParDm
import Derived.Test.YtfndnaldgaaieaaGreatDoorSi4
import Derived.Deep.Matrix
namespace Go.Proofs.YtfndnaldgaaieaaGreatDoor
open Go.RowKit

/-- The row beside has grown; the rows are still below C. -/
theorem OwnSD.growE {w w' : World} {B C : Nat} {v dv dv' : Value} {ll : List (List Int)} {dl : List Int} (h : OwnSD w B C v ll dv dl) (hC : C ≤ w.heap.size) (hg : w.grownBy w' dv.ownBlock) (hor : ∀ g, dv'.ownBlock = some g → dv.ownBlock = some g ∨ g = w.heap.size) :
    ∃ V : Nat → Value, w'.ownsRow B 50 1 v ll.length ((List.range ll.length).map V) ∧ (∀ i, i < ll.length → OwnI w' B (V i) (ll.getD i []) ∧ ∀ g, (V i).ownBlock = some g → g < C) ∧
      (∀ i j, i < j → j < ll.length → ∀ g, (V i).ownBlock = some g → (V j).ownBlock ≠ some g) ∧ (∀ i, i < ll.length → ∀ g, (V i).ownBlock = some g → dv'.ownBlock ≠ some g) := by
  obtain ⟨V, h1, h2, h3, h4, h5, h6, h7⟩ := h
  have hap : ∀ g, v.ownBlock = some g → dv.ownBlock ≠ some g := row_apart h1 h5
  refine ⟨V, ownsRow_same h1 fun g hgv => hg.block g (by have := h2 g hgv; omega) (fun e => hap g hgv e.symm), fun i hi => ⟨(h3 i hi).1.same fun g hgv => hg.block g (by have := (h3 i hi).2 g hgv; omega) (fun e => h7 i hi g hgv e.symm), (h3 i hi).2⟩, h4, fun i hi g hgv e => ?_⟩
  rcases hor g e with h | h
  · exact h7 i hi g hgv h
  · have := (h3 i hi).2 g hgv; omega
/-- One more row, which is neither below C nor the one beside. -/
theorem OwnSD.snoc2 {w w' : World} {B C C' : Nat} {v v' u dv : Value} {ll : List (List Int)} {l dl : List Int} {V : Nat → Value} (o1 : w.ownsRow B 50 1 v ll.length ((List.range ll.length).map V))
    (o3 : ∀ i, i < ll.length → OwnI w B (V i) (ll.getD i []) ∧ ∀ g, (V i).ownBlock = some g → g < C) (o4 : ∀ i j, i < j → j < ll.length → ∀ g, (V i).ownBlock = some g → (V j).ownBlock ≠ some g)
    (o5 : OwnI w B dv dl) (o6 : ∀ g, dv.ownBlock = some g → g < C') (o7 : ∀ i, i < ll.length → ∀ g, (V i).ownBlock = some g → dv.ownBlock ≠ some g)
    (hu : OwnI w B u l) (huC : ∀ g, u.ownBlock = some g → C ≤ g ∧ g < C') (hud : ∀ g, u.ownBlock = some g → dv.ownBlock ≠ some g)
    (h1 : w'.ownsRow B 50 1 v' (ll.length + 1) ((List.range ll.length).map V ++ [u])) (hg : w.grownBy w' v.ownBlock) (hC : C ≤ C') (hv' : ∀ g, v'.ownBlock = some g → g < C') : OwnSD w' B C' v' (ll ++ [l]) dv dl := by
  have hap : ∀ i, i < ll.length → ∀ g, v.ownBlock = some g → (V i).ownBlock ≠ some g := fun i hi => row_apart o1 (o3 i hi).1
  have hapu : ∀ g, v.ownBlock = some g → u.ownBlock ≠ some g := row_apart o1 hu
  have hapd : ∀ g, v.ownBlock = some g → dv.ownBlock ≠ some g := row_apart o1 o5
  refine ⟨fun i => if i < ll.length then V i else u, ?_, hv', fun i hi => ?_, fun i j hij hj g => ?_, o5.keptBy hg hapd, o6, fun i hi g => ?_⟩
  · have e : (List.range (ll ++ [l]).length).map (fun i => if i < ll.length then V i else u) = (List.range ll.length).map V ++ [u] := by
      rw [List.length_append, List.length_singleton, List.range_succ, List.map_append]
      congr 1
      · apply List.map_congr_left; intro i hi; rw [List.mem_range] at hi; simp [hi]
      · simp
    rw [e, List.length_append]; exact h1
  · rw [List.length_append, List.length_singleton] at hi
    rw [getD_snoc _ _ _ _ hi]
    by_cases hlt : i < ll.length
    · simp only [hlt, if_true]
      exact ⟨(o3 i hlt).1.keptBy hg (fun g hg => hap i hlt g hg), fun g hgg => Nat.lt_of_lt_of_le ((o3 i hlt).2 g hgg) hC⟩
    · simp only [hlt, if_false]
      exact ⟨hu.keptBy hg hapu, fun g hgg => (huC g hgg).2⟩
  · rw [List.length_append, List.length_singleton] at hj
    have hi : i < ll.length := by omega
    simp only [hi, if_true]
    by_cases hlt : j < ll.length
    · simp only [hlt, if_true]; exact o4 i j hij hlt g
    · simp only [hlt, if_false]
      intro a b
      have := (o3 i hi).2 g a
      have := (huC g b).1
      omega
  · by_cases hlt : i < ll.length
    · simp only [hlt, if_true]; exact o7 i hlt g
    · simp only [hlt, if_false]
      exact hud g
theorem OwnSD.doneLt {w : World} {B C : Nat} {v dv : Value} {ll : List (List Int)} {dl : List Int} (h : OwnSD w B C v ll dv dl) : ∀ g, dv.ownBlock = some g → g < C := by
  obtain ⟨V, -, -, -, -, -, h6, -⟩ := h
  exact h6
theorem clsI_mem : ∀ (ll : List (List Int)) (x : Int), 0 ≤ clsI ll x → x ∈ ll.getD (clsI ll x).toNat []
  | [], _, h => by simp [clsI] at h
  | r :: t, x, h => by
    unfold clsI at h ⊢
    by_cases hr : x ∈ r
    · rw [if_pos hr]; exact hr
    · rw [if_neg hr] at h ⊢
      by_cases h2 : clsI t x < 0
      · rw [if_pos h2] at h; omega
      · rw [if_neg h2] at h ⊢
        have ih := clsI_mem t x (by omega)
        rw [show (clsI t x + 1).toNat = (clsI t x).toNat + 1 by omega]
        simpa using ih
/-- Those of the first k rows of class a of p that are in class b of q. -/
def prTo (p q : List (List Int)) (a b : Nat) (k : Nat) : List Int := ((p.getD a []).take k).filter fun x => decide (x ∈ q.getD b [])
def prC (p q : List (List Int)) (a b : Nat) : List Int := (p.getD a []).filter fun x => decide (x ∈ q.getD b [])
theorem prTo_succ (p q : List (List Int)) (a b k : Nat) (h : k < (p.getD a []).length) : prTo p q a b (k + 1) = if (p.getD a []).getD k 0 ∈ q.getD b [] then prTo p q a b k ++ [(p.getD a []).getD k 0] else prTo p q a b k := by
  unfold prTo
  rw [take_succ_getD (p.getD a []) 0 k h, List.filter_append]
  by_cases hm : (p.getD a []).getD k 0 ∈ q.getD b []
  · rw [if_pos hm, List.filter_cons, if_pos (decide_eq_true hm), List.filter_nil]
  · rw [if_neg hm, List.filter_cons, if_neg (by rw [decide_eq_true_eq]; exact hm), List.filter_nil, List.append_nil]
theorem prTo_all (p q : List (List Int)) (a b : Nat) : prTo p q a b (p.getD a []).length = prC p q a b := by unfold prTo prC; rw [List.take_length]
theorem prTo_len (p q : List (List Int)) (a b k : Nat) : (prTo p q a b k).length ≤ (p.getD a []).length := by
  unfold prTo
  have h1 := List.length_filter_le (fun x => decide (x ∈ q.getD b [])) ((p.getD a []).take k)
  rw [List.length_take] at h1; omega
/-- The classes and the rows that are done, after i rows. -/
def prSt (p q : List (List Int)) : Nat → List (List Int) × List Int
  | 0 => ([], [])
  | i + 1 => if clsI p i < 0 ∨ clsI q i < 0 ∨ (i : Int) ∈ (prSt p q i).2 then prSt p q i
    else (if 1 < (prC p q (clsI p i).toNat (clsI q i).toNat).length then (prSt p q i).1 ++ [prC p q (clsI p i).toNat (clsI q i).toNat] else (prSt p q i).1, (prSt p q i).2 ++ prC p q (clsI p i).toNat (clsI q i).toNat)
def proS (p q : List (List Int)) (rows : Int) : List (List Int) := if (partP p rows && partP q rows) = true then (prSt p q rows.toNat).1 else []
theorem prC_len (p q : List (List Int)) (i : Nat) (htot : tot p ≤ 1048576) (h : 0 ≤ clsI p i) : (prC p q (clsI p i).toNat (clsI q i).toNat).length ≤ 1048576 := by
  have h1 := prTo_len p q (clsI p i).toNat (clsI q i).toNat (p.getD (clsI p i).toNat []).length
  rw [prTo_all] at h1
  have h2 := clsI_ge p (i : Int)
  have h3 := tot_get (ll := p) (k := (clsI p i).toNat) (by omega)
  omega
theorem prSt_len (p q : List (List Int)) (htot : tot p ≤ 1048576) : ∀ i, (prSt p q i).1.length ≤ i ∧ (prSt p q i).2.length ≤ 1048576 * i
  | 0 => by simp [prSt]
  | i + 1 => by
    have ih := prSt_len p q htot i
    unfold prSt
    split
    · omega
    · rename_i h
      have h1 := prC_len p q i htot (by omega)
      simp only [List.length_append]
      refine ⟨?_, by omega⟩
      split
      · simp; omega
      · omega
theorem partP_rows {p : List (List Int)} {rows : Int} (h : partP p rows = true) : 0 ≤ rows ∧ rows ≤ 40 := by
  unfold partP at h
  simp only [Bool.and_eq_true, decide_eq_true_eq] at h
  exact h.2
set_option maxHeartbeats 6400000 in
set_option maxRecDepth 20000 in
theorem productOf_any (v v' : Value) (p q : List (List Int)) (rows : Int) (w : World) (hr : ReadSS w v p) (hq : ReadSS w v' q) (hl : p.length ≤ 1048576) (htot : tot p ≤ 1048576) (hl' : q.length ≤ 1048576) (htot' : tot q ≤ 1048576) :
    Calls Tryz.prog 21 #[v, v', .int .i64 rows] w (RetSS (proS p q rows) w) := by
  obtain ⟨i0, hi, hz0, hz1, hz2⟩ := info_parts info3i
  have HI : Hid (_ ∧ _ ∧ _ ∧ _) := Lib.hid ⟨hi, hz0, hz1, hz2⟩
  clear hi hz0 hz1 hz2
  obtain ⟨j0, hj, hy0, hy1, hy2⟩ := info_parts infoSj
  have HJ : Hid (_ ∧ _ ∧ _ ∧ _) := Lib.hid ⟨hj, hy0, hy1, hy2⟩
  clear hj hy0 hy1 hy2
  have HP := Lib.hid (fun w' (hb : Below w.heap.size w w') => isPartition_any v p rows w' (hr.kept hb) hl htot)
  have HQP := Lib.hid (fun w' (hb : Below w.heap.size w w') => isPartition_any v' q rows w' (hq.kept hb) hl' htot')
  have HCP := Lib.hid (fun x w' (hb : Below w.heap.size w w') => class5_any v p x w' (hr.kept hb) hl (fun i hi => by have := tot_get hi; omega))
  have HCQ := Lib.hid (fun x w' (hb : Below w.heap.size w w') => class5_any v' q x w' (hq.kept hb) hl' (fun i hi => by have := tot_get hi; omega))
  have HLEN := Lib.hid (prSt_len p q htot)
  have HPC := Lib.hid (fun i h => prC_len p q i htot h)
  have HTP := Lib.hid (fun i (hi : i < p.length) => show (p.getD i []).length ≤ 1048576 from by have := tot_get hi; omega)
  have HTQ := Lib.hid (fun i (hi : i < q.length) => show (q.getD i []).length ≤ 1048576 from by have := tot_get hi; omega)
  obtain ⟨ap, cp, rfl, hap⟩ := hr
  obtain ⟨aq, cq, rfl, haq⟩ := hq
  have HAP := Lib.hid hap
  have HAQ := Lib.hid haq
  have hb1 := (Below.refl w.heap.size w).alloc (Nat.le_refl _) (.cells #[] 50)
  have HB1 := Lib.hid hb1
  have HO1 := Lib.hid (own_nil w)
  have ho1 := World.ownsRow_made (base := w.heap.size) (e := 50) (size := 1) w #[] 0 (Nat.le_refl _) (by unfold maxLen; omega) rfl
  have hb2 := hb1.alloc hb1.size (.cells #[] 3)
  have hsd : OwnSD ((w.alloc (.cells #[] 50)).alloc (.cells #[] 3)) w.heap.size (w.heap.size + 2) (.slice (some ⟨w.heap.size, 0, none⟩) 0 0) [] (.slice (some ⟨w.heap.size + 1, 0, none⟩) 0 0) [] := by
    have h2 := World.ownsRow_made (base := w.heap.size) (e := 3) (size := 1) (w.alloc (.cells #[] 50)) #[] 0 (by simp) (by unfold maxLen; omega) rfl
    rw [World.size_alloc] at h2
    exact ⟨fun _ => .slice none 0 0, World.ownsRow.alloc ho1 _, fun g hg => by cases hg; show w.heap.size < w.heap.size + 2; omega, fun i hi => absurd hi (Nat.not_lt_zero _), fun i j _ hj => absurd hj (Nat.not_lt_zero _), OwnI.made h2, fun g hg => by cases hg; show w.heap.size + 1 < w.heap.size + 2; omega, fun i hi => absurd hi (Nat.not_lt_zero _)⟩
  clear ho1 hap haq
  cases hpp : partP p rows with
  | false =>
    have HE : Hid (proS p q rows = []) := Lib.hid (by unfold proS; rw [hpp]; rfl)
    rw [hpp] at HP
    clear hpp hsd hb1 hb2
    go_enter Tryz.func21, Tryz.ntmps21
    go_wp2_with fail
    refine (HP.out _ HB1.out).mono ?_
    rintro e w2 ⟨rfl, hb⟩
    have HB2 := Lib.hid (HB1.out.trans (hb.mono HB1.out.size))
    have HO2 := Lib.hid (HO1.out.same (w' := w2) (fun g _ hg => hb.block g hg))
    have HS2 := Lib.hid hb.size
    clear hb
    go_wp2_with fail
    go_ret
    exact ⟨_, rfl, by rw [HE.out]; exact OwnSS.base HO2.out (Nat.le_refl _) HS2.out, HB2.out⟩
  | true =>
    obtain ⟨r0, r1⟩ := partP_rows hpp
    rw [hpp] at HP
    cases hpq : partP q rows with
    | false =>
      have HE : Hid (proS p q rows = []) := Lib.hid (by unfold proS; rw [hpq]; simp)
      rw [hpq] at HQP
      clear hpp hpq hsd hb1 hb2
      go_enter Tryz.func21, Tryz.ntmps21
      go_wp2_with fail
      refine (HP.out _ HB1.out).mono ?_
      rintro e w2 ⟨rfl, hb⟩
      have HB2 := Lib.hid (HB1.out.trans (hb.mono HB1.out.size))
      have HO2 := Lib.hid (HO1.out.same (w' := w2) (fun g _ hg => hb.block g hg))
      have HS2 := Lib.hid hb.size
      clear hb
      go_wp2_with fail
      refine (HQP.out _ HB2.out).mono ?_
      rintro e w3 ⟨rfl, hb⟩
      have HB3 := Lib.hid (HB2.out.trans (hb.mono HB2.out.size))
      have HO3 := Lib.hid (HO2.out.same (w' := w3) (fun g _ hg => hb.block g (Nat.lt_of_lt_of_le hg HS2.out)))
      have HS3 := Lib.hid (Nat.le_trans HS2.out hb.size)
      clear hb
      go_wp2_with fail
      go_ret
      exact ⟨_, rfl, by rw [HE.out]; exact OwnSS.base HO3.out (Nat.le_refl _) HS3.out, HB3.out⟩
    | true =>
      have HE : Hid (proS p q rows = (prSt p q rows.toNat).1) := Lib.hid (by unfold proS; rw [hpp, hpq]; rfl)
      rw [hpq] at HQP
      obtain ⟨M, rfl⟩ : ∃ M : Nat, rows = (M : Int) := ⟨rows.toNat, by omega⟩
      rw [show ((M : Int)).toNat = M by omega] at HE
      clear hpp hpq hb1
      go_enter Tryz.func21, Tryz.ntmps21
      go_wp2_with fail
      refine (HP.out _ HB1.out).mono ?_
      rintro e w2 ⟨rfl, hb⟩
      have HB2 := Lib.hid (HB1.out.trans (hb.mono HB1.out.size))
      have HO2 := Lib.hid (HO1.out.same (w' := w2) (fun g _ hg => hb.block g hg))
      have HS2 := Lib.hid hb.size
      clear hb
      go_wp2_with fail
      refine (HQP.out _ HB2.out).mono ?_
      rintro e w3 ⟨rfl, hb⟩
      have HB3 := Lib.hid (HB2.out.trans (hb.mono HB2.out.size))
      have HO3 := Lib.hid (HO2.out.same (w' := w3) (fun g _ hg => hb.block g (Nat.lt_of_lt_of_le hg HS2.out)))
      have HS3 := Lib.hid (Nat.le_trans HS2.out hb.size)
      clear hb hsd hb2
      have HD0 : Hid (OwnSD (w3.alloc (.cells #[] 3)) w.heap.size (w3.alloc (.cells #[] 3)).heap.size (.slice (some ⟨w.heap.size, 0, none⟩) 0 0) [] (.slice (some ⟨w3.heap.size, 0, none⟩) 0 0) []) := Lib.hid (by
        obtain ⟨V, h1, h2, h3, h4⟩ := HO3.out
        have hs3 := HS3.out
        simp at hs3
        have h5 := World.ownsRow_made (base := w.heap.size) (e := 3) (size := 1) w3 #[] 0 (by omega) (by unfold maxLen; omega) rfl
        exact ⟨V, World.ownsRow.alloc h1 _, fun g hg => by cases hg; simp; omega, fun i hi => absurd hi (Nat.not_lt_zero _), fun i j _ hj => absurd hj (Nat.not_lt_zero _), OwnI.made h5, fun g hg => by cases hg; simp, fun i hi => absurd hi (Nat.not_lt_zero _)⟩)
      have HB4 := Lib.hid (HB3.out.alloc HB3.out.size (.cells #[] 3))
      clear HO1 HO2 HO3 HB1 HB2 HB3 HS2 HS3
      go_wp2_with fail
      go_loopw [7, 8, 9] (fun ov dv iv wr => ∃ i : Nat, i ≤ M ∧ iv = .int .i64 (i : Int) ∧ Hid (OwnSD wr w.heap.size wr.heap.size ov (prSt p q i).1 dv (prSt p q i).2) ∧ Hid (Below w.heap.size w wr)) (fun _ _ iv _ => M - (intOf iv).toNat)
      case atStart => exact ⟨0, by omega, rfl, HD0, HB4⟩
      case round =>
        clear HD0 HB4
        obtain ⟨i, hi, rfl, hsd, hb⟩ := hrel
        by_cases hlt : i < M
        · have z1 : (i : Int) < (M : Int) := by omega
          have hi40 : (i : Int) ≤ 40 := by omega
          have HL : Hid ((prSt p q i).1.length ≤ 40 ∧ (prSt p q i).2.length ≤ 41943040) := Lib.hid (by have := HLEN.out i; omega)
          have HSS : Hid (prSt p q (i + 1) = if clsI p i < 0 ∨ clsI q i < 0 ∨ (i : Int) ∈ (prSt p q i).2 then prSt p q i
            else (if 1 < (prC p q (clsI p i).toNat (clsI q i).toNat).length then (prSt p q i).1 ++ [prC p q (clsI p i).toNat (clsI q i).toNat] else (prSt p q i).1, (prSt p q i).2 ++ prC p q (clsI p i).toNat (clsI q i).toNat)) := Lib.hid rfl
          have HQA := HCP.out (i : Int) wr hb.out
          have HQB := HCQ.out (i : Int) wr hb.out
          have HGA := clsI_ge p (i : Int)
          have HGB := clsI_ge q (i : Int)
          have HMA := Lib.hid (clsI_mem p (i : Int))
          have HMB := Lib.hid (clsI_mem q (i : Int))
          have HPI := Lib.hid (HPC.out i)
          obtain ⟨st, hst⟩ : ∃ st, st = prSt p q i := ⟨_, rfl⟩
          rw [← hst] at HL HSS hsd
          obtain ⟨out, done⟩ := st
          simp only at HL HSS hsd
          have HH := Lib.hid (l2Has_any _ done (i : Int) wr hsd.out.done.read (by have := HL.out; omega))
          obtain ⟨ca, hca⟩ : ∃ ca, ca = clsI p (i : Int) := ⟨_, rfl⟩
          obtain ⟨cb, hcb⟩ : ∃ cb, cb = clsI q (i : Int) := ⟨_, rfl⟩
          rw [← hca] at HSS HQA HGA HMA HPI
          rw [← hcb] at HSS HQB HGB HMB HPI
          have HQA := Lib.hid HQA
          have HQB := Lib.hid HQB
          clear hst hca hcb
          by_cases a0 : ca < 0
          · have HE2 : Hid (prSt p q (i + 1) = (out, done)) := Lib.hid (by rw [HSS.out, if_pos (Or.inl a0)])
            go_wp2_with fail
            refine HQA.out.mono ?_
            rintro e w' ⟨rfl, rfl⟩
            go_wp2_with fail
            refine HQB.out.mono ?_
            rintro e w' ⟨rfl, rfl⟩
            go_wp2_with fail
            go_roundw
            case rel => exact ⟨i + 1, by omega, by go_num, by rw [HE2.out]; exact hsd, hb⟩
            case measure => simp [intOf]; omega
          · by_cases b0 : cb < 0
            · have HE2 : Hid (prSt p q (i + 1) = (out, done)) := Lib.hid (by rw [HSS.out, if_pos (Or.inr (Or.inl b0))])
              go_wp2_with fail
              refine HQA.out.mono ?_
              rintro e w' ⟨rfl, rfl⟩
              go_wp2_with fail
              refine HQB.out.mono ?_
              rintro e w' ⟨rfl, rfl⟩
              go_wp2_with fail
              go_roundw
              case rel => exact ⟨i + 1, by omega, by go_num, by rw [HE2.out]; exact hsd, hb⟩
              case measure => simp [intOf]; omega
            · by_cases hmem : (i : Int) ∈ done
              · rw [decide_eq_true hmem] at HH
                have HE2 : Hid (prSt p q (i + 1) = (out, done)) := Lib.hid (by rw [HSS.out, if_pos (Or.inr (Or.inr hmem))])
                clear hmem
                go_wp2_with fail
                refine HQA.out.mono ?_
                rintro e w' ⟨rfl, rfl⟩
                go_wp2_with fail
                refine HQB.out.mono ?_
                rintro e w' ⟨rfl, rfl⟩
                go_wp2_with fail
                refine HH.out.mono ?_
                rintro e w' ⟨rfl, rfl⟩
                go_wp2_with fail
                go_roundw
                case rel => exact ⟨i + 1, by omega, by go_num, by rw [HE2.out]; exact hsd, hb⟩
                case measure => simp [intOf]; omega
              · rw [decide_eq_false hmem] at HH
                have HE2 := HSS.out
                rw [if_neg (by rintro (h | h | h); exact a0 h; exact b0 h; exact hmem h)] at HE2
                obtain ⟨A, rfl⟩ : ∃ A : Nat, ca = (A : Int) := ⟨ca.toNat, by omega⟩
                obtain ⟨B, rfl⟩ : ∃ B : Nat, cb = (B : Int) := ⟨cb.toNat, by omega⟩
                rw [show ((A : Int)).toNat = A by omega, show ((B : Int)).toNat = B by omega] at HE2
                have HE2 := Lib.hid HE2
                have hA : A < p.length := by omega
                have hB : B < q.length := by omega
                have HIA : Hid ((i : Int) ∈ p.getD A []) := Lib.hid (by have := HMA.out (by omega); rwa [show ((A : Int)).toNat = A by omega] at this)
                have HIB : Hid ((i : Int) ∈ q.getD B []) := Lib.hid (by have := HMB.out (by omega); rwa [show ((B : Int)).toNat = B by omega] at this)
                clear hmem HMA HMB HSS HPI
                obtain ⟨xp, up, rfl, hxp, hup⟩ := HAP.out A hA
                obtain ⟨xq, uq, rfl, hxq, huq⟩ := HAQ.out B hB
                have HXP := Lib.hid hxp
                have HXQ := Lib.hid hxq
                have hlp := HTP.out A hA
                have hlq := HTQ.out B hB
                have HPS := Lib.hid (prTo_succ p q A B)
                have HPA := Lib.hid (prTo_all p q A B)
                have HPT := Lib.hid (prTo_len p q A B)
                have HPM : Hid ((i : Int) ∈ prC p q A B) := Lib.hid (by unfold prC; rw [List.mem_filter]; exact ⟨HIA.out, decide_eq_true HIB.out⟩)
                obtain ⟨rP, hrP⟩ : ∃ rP, rP = p.getD A [] := ⟨_, rfl⟩
                obtain ⟨rQ, hrQ⟩ : ∃ rQ, rQ = q.getD B [] := ⟨_, rfl⟩
                rw [← hrP] at hup hlp HPA
                rw [← hrQ] at huq hlq
                have HPS2 : Hid (∀ k, k < rP.length → prTo p q A B (k + 1) = if rP.getD k 0 ∈ rQ then prTo p q A B k ++ [rP.getD k 0] else prTo p q A B k) := Lib.hid (by rw [hrP, hrQ]; exact HPS.out)
                have HPT2 : Hid (∀ k, (prTo p q A B k).length ≤ rP.length) := Lib.hid (by rw [hrP]; exact HPT.out)
                have HUQ := Lib.hid huq
                have hP0 : prTo p q A B 0 = [] := by unfold prTo; simp
                have HP0 := Lib.hid hP0
                clear hrP hrQ HPS HPT HIA HIB hxp hxq huq hP0 a0 b0
                obtain ⟨ar, cr, rfl, har⟩ := hup
                have HRP := Lib.hid har
                have HC0 : Hid (OwnI (wr.alloc (.cells #[] 3)) wr.heap.size (.slice (some ⟨wr.heap.size, 0, none⟩) 0 0) []) := Lib.hid (OwnI.made (World.ownsRow_made wr #[] 0 (Nat.le_refl _) (by unfold maxLen; omega) rfl))
                have HSD0 := Lib.hid (hsd.out.same (w' := wr.alloc (.cells #[] 3)) (fun g _ hg => Below.heap_alloc _ _ _ hg))
                have HB0 := Lib.hid (hb.out.alloc hb.out.size (.cells #[] 3))
                have HN0 : Hid (w.heap.size ≤ wr.heap.size) := Lib.hid hb.out.size
                obtain ⟨wi, rfl⟩ : ∃ wi : World, wi = wr := ⟨_, rfl⟩
                obtain ⟨N, hN⟩ : ∃ N, N = wi.heap.size := ⟨_, rfl⟩
                have HN : Hid (N ≤ (wi.alloc (.cells #[] 3)).heap.size) := Lib.hid (by rw [hN]; simp)
                rw [← hN] at HC0 HSD0 HN0
                clear har
                have y0 : (0 : Int) ≤ (A : Int) := by omega
                have y1 : (A : Int) < (p.length : Int) := by omega
                have y2 : (0 : Int) ≤ (B : Int) := by omega
                have y3 : (B : Int) < (q.length : Int) := by omega
                have y4 : ¬ (A : Int) < 0 := by omega
                have y5 : ¬ (B : Int) < 0 := by omega
                go_wp2_with fail
                refine HQA.out.mono ?_
                rintro e w' ⟨rfl, rfl⟩
                go_wp2_with fail
                refine HQB.out.mono ?_
                rintro e w' ⟨rfl, rfl⟩
                go_wp2_with fail
                refine HH.out.mono ?_
                rintro e w' ⟨rfl, rfl⟩
                go_wp2_with fail
                rw [← hN]
                clear hN
                go_loopw [12, 13] (fun cv kv wr => ∃ k : Nat, k ≤ rP.length ∧ kv = .int .i64 (k : Int) ∧ OwnI wr N cv (prTo p q A B k) ∧ Hid (OwnSD wr w.heap.size N _ out _ done) ∧ Hid (Below w.heap.size w wr) ∧ N ≤ wr.heap.size) (fun _ kv _ => rP.length - (intOf kv).toNat)
                case atStart => exact ⟨0, by omega, rfl, by rw [HP0.out]; exact HC0.out, HSD0, HB0, HN.out⟩
                case round =>
                  obtain ⟨k, hk, rfl, hoc, hsd, hb, hN⟩ := hrel
                  have hyp := (hb.out.cell (World.block_lt_of_cell? w _ HXP.out)).trans HXP.out
                  have hyq := (hb.out.cell (World.block_lt_of_cell? w _ HXQ.out)).trans HXQ.out
                  by_cases hlk : k < rP.length
                  · obtain ⟨xr, rfl, hxk⟩ := HRP.out k hlk
                    rw [get_getD rP k hlk] at hxk
                    have hyk := (hb.out.cell (World.block_lt_of_cell? w _ hxk)).trans hxk
                    have HS := Lib.hid (HPS2.out k hlk)
                    have HLk := Lib.hid (HPT2.out k)
                    obtain ⟨x, hx⟩ : ∃ x, x = rP.getD k 0 := ⟨_, rfl⟩
                    rw [← hx] at hyk HS
                    have HQ := Lib.hid (fun n => (l2Has_any uq rQ x (wr.drewN n) (HUQ.out.kept (below_drewN hb.out n)) (by omega)).mono fun e w' (h : e = _ ∧ _ = w') => And.intro h.1 h.2.symm)
                    obtain ⟨rc, hrc⟩ : ∃ rc, rc = prTo p q A B k := ⟨_, rfl⟩
                    rw [← hrc] at HS HLk hoc
                    have z3 : (0 : Int) ≤ (k : Int) := by omega
                    have z4 : (k : Int) < (rP.length : Int) := by omega
                    clear hx hrc hxk
                    by_cases hmq : x ∈ rQ
                    · have HE3 : Hid (prTo p q A B (k + 1) = rc ++ [x]) := Lib.hid (by rw [HS.out, if_pos hmq])
                      rw [decide_eq_true hmq] at HQ
                      clear hmq
                      go_wp2_with fail
                      go_quiet ((go_at_call 52; exact Calls.quiet_of_same (HQ.out _)))
                      have hoc5 := Lib.hid (hoc.kept (below_drewN (Below.refl _ wr) nq) (fun g hg => (OwnI.lt hoc g hg).2))
                      have hsd5 := Lib.hid (hsd.out.same (w' := wr.drewN nq) (fun g _ hg => rfl))
                      have hb5 := Lib.hid (below_drewN hb.out nq)
                      have hN5 : Hid (N ≤ wr.heap.size) := Lib.hid hN
                      clear hoc hsd hb hN
                      go_wp2_with (at_builtin; refine wpList_append_own _ rfl _ _ 50 rfl N 3 i0 (.int .i64 0) 1 8 Tryz.underlying50 HI.out.1 HI.out.2.1 HI.out.2.2.1 HI.out.2.2.2 rfl (by decide) _ _ _ rfl (World.ownsRow.alloc hoc5.out _) ⟨wr.heap.size, 0, none⟩ 1 1 [.int .i64 x] rfl rfl (cell_one_new _ _ _) (one_i64 _) (by unfold maxLen; have := HLk.out; omega) (by have := HLk.out; omega) (by have := hN5.out; simp; omega) ?_; intro v' w6 hown' hgrow _; have hoc6 := OwnI.snoc hown'; have hsd6 := Lib.hid (hsd5.out.same (w' := w6) (fun g _ hg => (hgrow.block g (by have := hN5.out; simp; omega) (fun e => by have := (OwnI.lt hoc5.out g e.symm).1; omega)).trans (Below.heap_alloc _ _ _ (by have := hN5.out; show g < wr.heap.size; omega)))); have hb6 := Lib.hid ((hb5.out.alloc hb5.out.size (.cells #[.int .i64 x] 3)).grown hgrow (by have := hb5.out.size; simp at this; simp; omega) (fun g hg => by have := (OwnI.lt hoc5.out g hg).1; have := HN0.out; omega)); have hN6 : N ≤ w6.heap.size := (by have h1 := hgrow.size; have h2 := hN5.out; simp at h1; omega); clear hown' hgrow)
                      go_roundw
                      case rel => exact ⟨k + 1, by omega, by go_num, by rw [HE3.out]; exact hoc6, hsd6, hb6, hN6⟩
                      case measure => simp [intOf]; omega
                    · have HE3 : Hid (prTo p q A B (k + 1) = rc) := Lib.hid (by rw [HS.out, if_neg hmq])
                      rw [decide_eq_false hmq] at HQ
                      clear hmq
                      go_wp2_with fail
                      go_quiet ((go_at_call 52; exact Calls.quiet_of_same (HQ.out _)))
                      have hoc5 := Lib.hid (hoc.kept (below_drewN (Below.refl _ wr) nq) (fun g hg => (OwnI.lt hoc g hg).2))
                      have hsd5 := Lib.hid (hsd.out.same (w' := wr.drewN nq) (fun g _ hg => rfl))
                      have hb5 := Lib.hid (below_drewN hb.out nq)
                      have hN5 : N ≤ (wr.drewN nq).heap.size := hN
                      clear hoc hsd hb hN
                      go_wp2_with fail
                      go_roundw
                      case rel => exact ⟨k + 1, by omega, by go_num, by rw [HE3.out]; exact hoc5.out, hsd5, hb5, hN5⟩
                      case measure => simp [intOf]; omega
                  · obtain rfl : k = rP.length := by omega
                    rw [HPA.out] at hoc
                    have hLL : (prC p q A B).length ≤ 1048576 := by have := HPT2.out rP.length; rw [HPA.out] at this; omega
                    obtain ⟨L, hL⟩ : ∃ L, L = prC p q A B := ⟨_, rfl⟩
                    rw [← hL] at hoc HE2 HPM hLL
                    have HLL := Lib.hid hLL
                    clear hL hLL
                    have hL0 : 0 < L.length := List.length_pos_of_mem HPM.out
                    obtain ⟨gc, cc, rfl, hgc1, hgc2⟩ : ∃ g cap', _ = Value.slice (some ⟨g, 0, none⟩) L.length cap' ∧ N ≤ g ∧ g < wr.heap.size := by
                      rcases hoc.shape with ⟨-, h⟩ | ⟨g, cap', h, -, h3, h4⟩
                      · rw [h] at hL0; simp at hL0
                      · exact ⟨g, cap', h, h3, h4⟩
                    have HSDW := hsd
                    have HNW := Lib.hid hN
                    have HOC := Lib.hid hoc
                    have HBW := hb
                    have HGC := Lib.hid (And.intro hgc1 hgc2)
                    clear hoc hN hgc1 hgc2 hsd hb
                    by_cases h1 : 1 < L.length
                    · have HE4 : Hid (prSt p q (i + 1) = (out ++ [L], done ++ L)) := Lib.hid (by rw [HE2.out, if_pos h1])
                      have h1i : (1 : Int) < (L.length : Int) := by omega
                      go_wp2_with (first
                        | (at_builtin; refine wpList_append_lies _ rfl _ _ 50 rfl w.heap.size 3 i0 (.int .i64 0) 1 8 Tryz.underlying50 HI.out.1 HI.out.2.1 HI.out.2.2.1 HI.out.2.2.2 rfl (by decide) _ _ _ rfl HSDW.out.done ⟨gc, 0, none⟩ L.length cc (intsV L) rfl (by simp [intsV]) (fun j u hu => own_cells HOC.out j u hu) (ints_one L) hL0 (by unfold maxLen; have := HL.out.2; have := HLL.out; omega) (by have := HL.out.2; have := HLL.out; omega) HBW.out.size wr.heap.size rfl ?_; intro g9 cap9 w9 hown9 hgrow9 hor9 _; have hdn9 := Lib.hid (ownI_append hown9); have hgE := OwnSD.growE (dv' := .slice (some ⟨g9, 0, none⟩) (done.length + L.length) cap9) HSDW.out HNW.out hgrow9 (fun g hg => by cases hg; exact hor9); have hsd9 := Lib.hid (OwnSD.grow (HSDW.out.base HNW.out) hdn9.out hgrow9 (fun g hg => by cases hg; exact hor9)); have hou9 := Lib.hid ((OwnI.base HOC.out HN0.out).keptBy hgrow9 (fun g hg e => by have h1 := OwnSD.doneLt HSDW.out g hg; have h2 := (OwnI.lt HOC.out g e).1; omega)); have hud9 : Hid (gc ≠ g9) := Lib.hid (fun e => by have h3 := HGC.out; rcases hor9 with h | h; have h1 := OwnSD.doneLt HSDW.out g9 h; omega; omega); have hb9 := Lib.hid (HBW.out.grown hgrow9 HBW.out.size (fun g hg => (OwnI.lt HSDW.out.done g hg).1)); have hN9 : Hid (N ≤ w9.heap.size ∧ gc < w9.heap.size) := Lib.hid (by have h1 := hgrow9.size; have h2 := HNW.out; have h3 := HGC.out; omega); obtain ⟨V, o1, o3, o4, o7⟩ := hgE; have O1 := Lib.hid o1; have O3 := Lib.hid o3; have O4 := Lib.hid o4; have O7 := Lib.hid o7; clear o1 o3 o4 o7 hown9 hgrow9 hor9)
                        | (at_builtin; refine wpList_append_own _ rfl _ _ 24 rfl w.heap.size 50 j0 (.slice none 0 0) 1 24 Tryz.underlying24 HJ.out.1 HJ.out.2.1 HJ.out.2.2.1 HJ.out.2.2.2 rfl (by decide) _ _ _ rfl (World.ownsRow.alloc O1.out _) ⟨w9.heap.size, 0, none⟩ 1 1 [.slice (some ⟨gc, 0, none⟩) L.length cc] rfl rfl (cell_one_new _ _ _) (one_slice _ _ _) (by unfold maxLen; have := HL.out.1; omega) (by have := HL.out.1; omega) (by have := hb9.out.size; simp; omega) ?_; intro v8 w8 hown8 hgrow8 _; have hs8 : w9.heap.size ≤ w8.heap.size := (by have h2 := hgrow8.size; simp at h2; omega); have hsd8 := Lib.hid (OwnSD.snoc2 (C := N) (World.ownsRow.alloc O1.out _) (fun i hi => And.intro (World.ownsRow.alloc (O3.out i hi).1 _) (O3.out i hi).2) O4.out (World.ownsRow.alloc hdn9.out _) (fun g hg => by have := (OwnI.lt hdn9.out g hg).2; omega) O7.out (World.ownsRow.alloc hou9.out _) (fun g hg => by cases hg; have h3 := HGC.out; have h4 := hN9.out; exact ⟨h3.1, by show gc < w8.heap.size; omega⟩) (fun g hg e => by cases hg; cases e; exact hud9.out rfl) hown8 hgrow8 (by have := hN9.out; omega) (fun g hg => (World.ownsRow.lt hown8 g hg).2)); have hb8 := Lib.hid ((hb9.out.alloc hb9.out.size (.cells #[.slice (some ⟨gc, 0, none⟩) L.length cc] 50)).grown hgrow8 (by have := hb9.out.size; simp; omega) (fun g hg => (World.ownsRow.lt O1.out g hg).1)); clear hown8 hgrow8 hs8))
                      go_roundw
                      case rel => exact ⟨i + 1, by omega, by go_num, by rw [HE4.out]; exact hsd8, hb8⟩
                      case measure => simp [intOf]; omega
                    · have HE4 : Hid (prSt p q (i + 1) = (out, done ++ L)) := Lib.hid (by rw [HE2.out, if_neg h1])
                      have h1i : ¬ (1 : Int) < (L.length : Int) := by omega
                      go_wp2_with (at_builtin; refine wpList_append_lies _ rfl _ _ 50 rfl w.heap.size 3 i0 (.int .i64 0) 1 8 Tryz.underlying50 HI.out.1 HI.out.2.1 HI.out.2.2.1 HI.out.2.2.2 rfl (by decide) _ _ _ rfl HSDW.out.done ⟨gc, 0, none⟩ L.length cc (intsV L) rfl (by simp [intsV]) (fun j u hu => own_cells HOC.out j u hu) (ints_one L) hL0 (by unfold maxLen; have := HL.out.2; have := HLL.out; omega) (by have := HL.out.2; have := HLL.out; omega) HBW.out.size wr.heap.size rfl ?_; intro g9 cap9 w9 hown9 hgrow9 hor9 _; have hdn9 := Lib.hid (ownI_append hown9); have hgE := OwnSD.growE (dv' := .slice (some ⟨g9, 0, none⟩) (done.length + L.length) cap9) HSDW.out HNW.out hgrow9 (fun g hg => by cases hg; exact hor9); have hsd9 := Lib.hid (OwnSD.grow (HSDW.out.base HNW.out) hdn9.out hgrow9 (fun g hg => by cases hg; exact hor9)); have hou9 := Lib.hid ((OwnI.base HOC.out HN0.out).keptBy hgrow9 (fun g hg e => by have h1 := OwnSD.doneLt HSDW.out g hg; have h2 := (OwnI.lt HOC.out g e).1; omega)); have hud9 : Hid (gc ≠ g9) := Lib.hid (fun e => by have h3 := HGC.out; rcases hor9 with h | h; have h1 := OwnSD.doneLt HSDW.out g9 h; omega; omega); have hb9 := Lib.hid (HBW.out.grown hgrow9 HBW.out.size (fun g hg => (OwnI.lt HSDW.out.done g hg).1)); have hN9 : Hid (N ≤ w9.heap.size ∧ gc < w9.heap.size) := Lib.hid (by have h1 := hgrow9.size; have h2 := HNW.out; have h3 := HGC.out; omega); obtain ⟨V, o1, o3, o4, o7⟩ := hgE; have O1 := Lib.hid o1; have O3 := Lib.hid o3; have O4 := Lib.hid o4; have O7 := Lib.hid o7; clear o1 o3 o4 o7 hown9 hgrow9 hor9)
                      go_roundw
                      case rel => exact ⟨i + 1, by omega, by go_num, by rw [HE4.out]; exact hsd9, hb9⟩
                      case measure => simp [intOf]; omega
        · obtain rfl : i = M := by omega
          go_wp2_with fail
          go_ret
          exact ⟨_, rfl, by rw [HE.out]; exact hsd.out.ss, hb.out⟩
end Go.Proofs.YtfndnaldgaaieaaGreatDoor
namespace Go.Proofs.YtfndnaldgaaieaaGreatDoor
open Go.ChangeShapes Go.WideShapes Go.RowKit Go.Deep

/-- All rows are integers. -/
def I64ss (p : List (List Int)) : Prop := ∀ i, i < p.length → ∀ x ∈ p.getD i [], -9223372036854775808 ≤ x ∧ x ≤ 9223372036854775807
section
variable {H : Type} {enc : TypeId × Value → H} {w : World} {base : Nat} {held : Bool}
theorem open_rows2 {fuel : Nat} {v : Value} {x : DataW H × List MemPlace} (h : DataW.trod enc Tryz.prog w base (fun _ => true) held fuel 24 [v] = some x) : ∃ ll, ReadSS w v ll ∧ Short ll ∧ I64ss ll := by
  rcases open_int_rows Tryz.underlying24 Tryz.underlying50 Tryz.underlying3 (by kernel_rfl) (by kernel_rfl) h with ⟨hcs, -⟩ | ⟨a, len, cap, A, L, C, Z, hcs, -, hl, hm, -, hr⟩
  · simp at hcs
    subst hcs
    exact ⟨[], ReadSS.nil _, ⟨Nat.zero_le _, fun i hi => absurd hi (Nat.not_lt_zero _)⟩, fun i hi => absurd hi (Nat.not_lt_zero _)⟩
  · simp at hcs
    subst hcs
    have hlen : ((List.range len).map fun r => (Z r).take (L r)).length = len := by simp
    have hget : ∀ i, i < len → ((List.range len).map fun r => (Z r).take (L r)).getD i [] = (Z i).take (L i) := fun i hi => by
      rw [List.getD_eq_getElem?_getD, List.getElem?_eq_getElem (by rw [hlen]; exact hi)]; simp
    have hrl : ∀ i, i < len → ((Z i).take (L i)).length = L i := fun i hi => by
      obtain ⟨-, h1, -, h2, -⟩ := hr i (by omega)
      rw [List.length_take]; omega
    refine ⟨(List.range len).map fun r => (Z r).take (L r), ⟨some a, cap, by rw [hlen], fun i hi => ?_⟩, ⟨by rw [hlen]; unfold maxLen at hm; omega, fun i hi => ?_⟩, fun i hi x hx => ?_⟩
    · rw [hlen] at hi
      obtain ⟨h0, h1, h2, h3, h4, h5, h6⟩ := hr i (by omega)
      rw [hget i hi]
      refine ⟨a, _, rfl, h0, A i, C i, by rw [hrl i hi], fun j hj => ?_⟩
      rw [hrl i hi] at hj
      cases hA : A i with
      | none => have := h5 hA; omega
      | some a' =>
        refine ⟨a', rfl, ?_⟩
        rw [(h6 a' hA).2 j (by omega)]
        simp only [List.getElem_take]
        rw [List.getD_eq_getElem?_getD, List.getElem?_eq_getElem (by omega)]
        rfl
    · rw [hlen] at hi
      rw [hget i hi, hrl i hi]
      obtain ⟨-, h1, h2, -⟩ := hr i (by omega)
      unfold maxLen at h2; omega
    · rw [hlen] at hi
      rw [hget i hi] at hx
      obtain ⟨-, -, -, -, h4, -⟩ := hr i (by omega)
      have := h4 x (List.mem_of_mem_take hx)
      exact ⟨wf_i64_ge this, wf_i64_le this⟩
end
end Go.Proofs.YtfndnaldgaaieaaGreatDoor
namespace Go.Proofs.YtfndnaldgaaieaaGreatDoor
open Go.RowKit

theorem szOf_tot {d : List (List Int)} (h : szOf d ≤ 1048576) : tot d ≤ 1048576 := by unfold szOf at h; omega
theorem tot_one {d : List (List Int)} (h : szOf d ≤ 1048576) : 1 + tot d ≤ 1048576 := by
  unfold szOf at h
  cases d with
  | nil => simp [tot]
  | cons r t => simp only [List.length_cons] at h; omega
end Go.Proofs.YtfndnaldgaaieaaGreatDoor
