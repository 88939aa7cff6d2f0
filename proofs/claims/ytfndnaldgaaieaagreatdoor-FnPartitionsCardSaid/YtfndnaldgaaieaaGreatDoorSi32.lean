/- Texts of this claim, merged: Told, PmA, PmB. Conditions: as stated. -/
import Derived.Test.YtfndnaldgaaieaaGreatDoorSi29
import Derived.Test.YtfndnaldgaaieaaGreatDoorSi25
import Derived.Test.YtfndnaldgaaieaaGreatDoorSi19
import Derived.Test.YtfndnaldgaaieaaGreatDoorSi20
namespace Go.Proofs.YtfndnaldgaaieaaGreatDoor
open Go.RowKit

/-- A cell that is not equal to itself becomes one that no other row has. -/
def tapC (m : Int) (i : Nat) (x : Int) : Int := if eqC m x x = true then x else -2 - (i : Int)
def tapR (m : Int) (i : Nat) (r : List Int) : List Int := r.map (tapC m i)
theorem tapR_len (m : Int) (i : Nat) (r : List Int) : (tapR m i r).length = r.length := List.length_map _
theorem tapR_get (m : Int) (i : Nat) (r : List Int) (j : Nat) (h : j < r.length) : (tapR m i r).getD j 0 = tapC m i (r.getD j 0) := by
  unfold tapR
  rw [List.getD_eq_getElem?_getD, List.getElem?_map, List.getElem?_eq_getElem h, List.getD_eq_getElem?_getD, List.getElem?_eq_getElem h]; rfl
set_option maxHeartbeats 1600000 in
theorem toldApart0 (v : Value) (r : List Int) (i : Nat) (w : World) (hr : ReadI w v r) (h5 : r.length ≤ 5) (hi : i ≤ 1048576) :
    Calls Tryz.prog 71 #[eqFn 0, v, .int .i64 (i : Int)] w (RetI (tapR 0 i r) w) := by
  obtain ⟨i0, hi0, hz0, hz1, hz2⟩ := info_parts info3i
  have HI : Hid (_ ∧ _ ∧ _ ∧ _) := Lib.hid ⟨hi0, hz0, hz1, hz2⟩
  clear hi0 hz0 hz1 hz2
  obtain ⟨a, cap, rfl, ha⟩ := hr
  have HA := Lib.hid ha
  clear ha
  rw [eqFn_0]
  have HQ0 := Lib.hid eqFun0_any
  have hi1 : IntKind.i64.wrap (-2 - (i : Int)) = -2 - (i : Int) := IntWalk.i64_in _ (by omega)
  go_enter Tryz.func71, Tryz.ntmps71
  go_wp2_with (at_make; refine wpList_make_own _ rfl _ _ 50 rfl w.heap.size 3 i0 (.int .i64 0) 1 Tryz.underlying50 HI.out.1 HI.out.2.1 HI.out.2.2.1 .i64 .i64 _ r.length rfl rfl rfl (by rw [HI.out.2.2.2]; omega) (by unfold maxLen; omega) (Nat.le_refl _) ?_; intro w0 hown0 hgrow0)
  have hb0 := (Below.refl w.heap.size w).grown hgrow0 (Nat.le_refl _) (by simp)
  have hown := OwnI.made hown0
  clear hown0 hgrow0
  go_loopw [7, 15] (fun ov iv wr => ∃ (k : Nat) (l : List Int), k ≤ r.length ∧ iv = .int .i64 (k : Int) ∧ Hid (l = (r.take k).map (tapC 0 i)) ∧ OwnI wr w.heap.size ov l ∧ Below w.heap.size w wr) (fun _ iv _ => r.length - (intOf iv).toNat)
  case atStart => exact ⟨0, [], by omega, rfl, Lib.hid rfl, hown, hb0⟩
  case round =>
    clear hown hb0
    obtain ⟨k, l, hk, rfl, hl, ho, hb⟩ := hrel
    by_cases hlt : k < r.length
    · have hll : l.length ≤ 5 := by rw [hl.out, List.length_map, List.length_take]; omega
      obtain ⟨x, rfl, hx⟩ := HA.out k hlt
      rw [get_getD r k hlt] at hx
      have HS := Lib.hid (map_take_succ r (tapC 0 i) 0 k hlt)
      replace hx := (hb.cell (World.block_lt_of_cell? w _ hx)).trans hx
      obtain ⟨y, hy⟩ : ∃ y, y = r.getD k 0 := ⟨_, rfl⟩
      rw [← hy] at hx HS
      clear hy
      have z0 : (0 : Int) ≤ (k : Int) := by omega
      have z1 : (k : Int) < (r.length : Int) := by omega
      have HQ := Lib.hid (HQ0.out y y)
      cases he : eqC 0 y y with
      | true =>
        have HT : Hid (tapC 0 i y = y) := Lib.hid (by unfold tapC; rw [he]; rfl)
        rw [he] at HQ
        rw [HT.out] at HS
        clear he
        go_wp2_with (first | (go_at_call 55; refine (HQ.out _).mono ?_; rintro e w' ⟨rfl, rfl⟩) | (at_builtin; refine wpList_append_own _ rfl _ _ 50 rfl w.heap.size 3 i0 (.int .i64 0) 1 8 Tryz.underlying50 HI.out.1 HI.out.2.1 HI.out.2.2.1 HI.out.2.2.2 rfl (by decide) _ _ _ rfl (World.ownsRow.alloc ho _) ⟨wr.heap.size, 0, none⟩ 1 1 [.int .i64 y] rfl rfl (cell_one_new _ _ _) (one_i64 _) (by unfold maxLen; omega) (by omega) (le_alloc hb (Nat.le_refl _) _) ?_; intro v' w1 hown' hgrow _))
        have ho' := OwnI.snoc hown'
        have hb' := (hb.alloc hb.size (.cells #[.int .i64 y] 3)).grown hgrow (by simp; have := hb.size; omega) (fun k hk => (OwnI.lt ho k hk).1)
        clear hown' hgrow
        go_wp2_with fail
        go_roundw
        case rel => exact ⟨k + 1, _, by omega, by go_num, Lib.hid (by rw [HS.out, hl.out]), ho', hb'⟩
        case measure => simp [intOf]; omega
      | false =>
        have HT : Hid (tapC 0 i y = -2 - (i : Int)) := Lib.hid (by unfold tapC; rw [he]; rfl)
        rw [he] at HQ
        rw [HT.out] at HS
        clear he
        go_wp2_with (first | (go_at_call 55; refine (HQ.out _).mono ?_; rintro e w' ⟨rfl, rfl⟩) | (at_builtin; refine wpList_append_own _ rfl _ _ 50 rfl w.heap.size 3 i0 (.int .i64 0) 1 8 Tryz.underlying50 HI.out.1 HI.out.2.1 HI.out.2.2.1 HI.out.2.2.2 rfl (by decide) _ _ _ rfl (World.ownsRow.alloc ho _) ⟨wr.heap.size, 0, none⟩ 1 1 [.int .i64 (-2 - (i : Int))] rfl rfl (cell_one_new _ _ _) (one_i64 _) (by unfold maxLen; omega) (by omega) (le_alloc hb (Nat.le_refl _) _) ?_; intro v' w1 hown' hgrow _))
        have ho' := OwnI.snoc hown'
        have hb' := (hb.alloc hb.size (.cells #[.int .i64 (-2 - (i : Int))] 3)).grown hgrow (by simp; have := hb.size; omega) (fun k hk => (OwnI.lt ho k hk).1)
        clear hown' hgrow
        go_wp2_with fail
        go_roundw
        case rel => exact ⟨k + 1, _, by omega, by go_num, Lib.hid (by rw [HS.out, hl.out]), ho', hb'⟩
        case measure => simp [intOf]; omega
    · obtain rfl : k = r.length := by omega
      go_wp2_with fail
      go_ret
      exact ⟨_, rfl, by have := hl.out; rw [List.take_length] at this; unfold tapR; rw [← this]; exact ho, hb⟩
set_option maxHeartbeats 1600000 in
theorem toldApart1 (v : Value) (r : List Int) (i : Nat) (w : World) (hr : ReadI w v r) (h5 : r.length ≤ 5) (hi : i ≤ 1048576) :
    Calls Tryz.prog 71 #[eqFn 1, v, .int .i64 (i : Int)] w (RetI (tapR 1 i r) w) := by
  obtain ⟨i0, hi0, hz0, hz1, hz2⟩ := info_parts info3i
  have HI : Hid (_ ∧ _ ∧ _ ∧ _) := Lib.hid ⟨hi0, hz0, hz1, hz2⟩
  clear hi0 hz0 hz1 hz2
  obtain ⟨a, cap, rfl, ha⟩ := hr
  have HA := Lib.hid ha
  clear ha
  rw [eqFn_1]
  have HQ0 := Lib.hid eqFun1_any
  have hi1 : IntKind.i64.wrap (-2 - (i : Int)) = -2 - (i : Int) := IntWalk.i64_in _ (by omega)
  go_enter Tryz.func71, Tryz.ntmps71
  go_wp2_with (at_make; refine wpList_make_own _ rfl _ _ 50 rfl w.heap.size 3 i0 (.int .i64 0) 1 Tryz.underlying50 HI.out.1 HI.out.2.1 HI.out.2.2.1 .i64 .i64 _ r.length rfl rfl rfl (by rw [HI.out.2.2.2]; omega) (by unfold maxLen; omega) (Nat.le_refl _) ?_; intro w0 hown0 hgrow0)
  have hb0 := (Below.refl w.heap.size w).grown hgrow0 (Nat.le_refl _) (by simp)
  have hown := OwnI.made hown0
  clear hown0 hgrow0
  go_loopw [7, 15] (fun ov iv wr => ∃ (k : Nat) (l : List Int), k ≤ r.length ∧ iv = .int .i64 (k : Int) ∧ Hid (l = (r.take k).map (tapC 1 i)) ∧ OwnI wr w.heap.size ov l ∧ Below w.heap.size w wr) (fun _ iv _ => r.length - (intOf iv).toNat)
  case atStart => exact ⟨0, [], by omega, rfl, Lib.hid rfl, hown, hb0⟩
  case round =>
    clear hown hb0
    obtain ⟨k, l, hk, rfl, hl, ho, hb⟩ := hrel
    by_cases hlt : k < r.length
    · have hll : l.length ≤ 5 := by rw [hl.out, List.length_map, List.length_take]; omega
      obtain ⟨x, rfl, hx⟩ := HA.out k hlt
      rw [get_getD r k hlt] at hx
      have HS := Lib.hid (map_take_succ r (tapC 1 i) 0 k hlt)
      replace hx := (hb.cell (World.block_lt_of_cell? w _ hx)).trans hx
      obtain ⟨y, hy⟩ : ∃ y, y = r.getD k 0 := ⟨_, rfl⟩
      rw [← hy] at hx HS
      clear hy
      have z0 : (0 : Int) ≤ (k : Int) := by omega
      have z1 : (k : Int) < (r.length : Int) := by omega
      have HQ := Lib.hid (HQ0.out y y)
      cases he : eqC 1 y y with
      | true =>
        have HT : Hid (tapC 1 i y = y) := Lib.hid (by unfold tapC; rw [he]; rfl)
        rw [he] at HQ
        rw [HT.out] at HS
        clear he
        go_wp2_with (first | (go_at_call 56; refine (HQ.out _).mono ?_; rintro e w' ⟨rfl, rfl⟩) | (at_builtin; refine wpList_append_own _ rfl _ _ 50 rfl w.heap.size 3 i0 (.int .i64 0) 1 8 Tryz.underlying50 HI.out.1 HI.out.2.1 HI.out.2.2.1 HI.out.2.2.2 rfl (by decide) _ _ _ rfl (World.ownsRow.alloc ho _) ⟨wr.heap.size, 0, none⟩ 1 1 [.int .i64 y] rfl rfl (cell_one_new _ _ _) (one_i64 _) (by unfold maxLen; omega) (by omega) (le_alloc hb (Nat.le_refl _) _) ?_; intro v' w1 hown' hgrow _))
        have ho' := OwnI.snoc hown'
        have hb' := (hb.alloc hb.size (.cells #[.int .i64 y] 3)).grown hgrow (by simp; have := hb.size; omega) (fun k hk => (OwnI.lt ho k hk).1)
        clear hown' hgrow
        go_wp2_with fail
        go_roundw
        case rel => exact ⟨k + 1, _, by omega, by go_num, Lib.hid (by rw [HS.out, hl.out]), ho', hb'⟩
        case measure => simp [intOf]; omega
      | false =>
        have HT : Hid (tapC 1 i y = -2 - (i : Int)) := Lib.hid (by unfold tapC; rw [he]; rfl)
        rw [he] at HQ
        rw [HT.out] at HS
        clear he
        go_wp2_with (first | (go_at_call 56; refine (HQ.out _).mono ?_; rintro e w' ⟨rfl, rfl⟩) | (at_builtin; refine wpList_append_own _ rfl _ _ 50 rfl w.heap.size 3 i0 (.int .i64 0) 1 8 Tryz.underlying50 HI.out.1 HI.out.2.1 HI.out.2.2.1 HI.out.2.2.2 rfl (by decide) _ _ _ rfl (World.ownsRow.alloc ho _) ⟨wr.heap.size, 0, none⟩ 1 1 [.int .i64 (-2 - (i : Int))] rfl rfl (cell_one_new _ _ _) (one_i64 _) (by unfold maxLen; omega) (by omega) (le_alloc hb (Nat.le_refl _) _) ?_; intro v' w1 hown' hgrow _))
        have ho' := OwnI.snoc hown'
        have hb' := (hb.alloc hb.size (.cells #[.int .i64 (-2 - (i : Int))] 3)).grown hgrow (by simp; have := hb.size; omega) (fun k hk => (OwnI.lt ho k hk).1)
        clear hown' hgrow
        go_wp2_with fail
        go_roundw
        case rel => exact ⟨k + 1, _, by omega, by go_num, Lib.hid (by rw [HS.out, hl.out]), ho', hb'⟩
        case measure => simp [intOf]; omega
    · obtain rfl : k = r.length := by omega
      go_wp2_with fail
      go_ret
      exact ⟨_, rfl, by have := hl.out; rw [List.take_length] at this; unfold tapR; rw [← this]; exact ho, hb⟩
theorem toldApart_any (m : Int) (hm : m = 0 ∨ m = 1) (v : Value) (r : List Int) (i : Nat) (w : World) (hr : ReadI w v r) (h5 : r.length ≤ 5) (hi : i ≤ 1048576) :
    Calls Tryz.prog 71 #[eqFn m, v, .int .i64 (i : Int)] w (RetI (tapR m i r) w) := by
  rcases hm with rfl | rfl
  · exact toldApart0 v r i w hr h5 hi
  · exact toldApart1 v r i w hr h5 hi
end Go.Proofs.YtfndnaldgaaieaaGreatDoor
namespace Go.Proofs.YtfndnaldgaaieaaGreatDoor

theorem ascH_unique {α : Type} {r : α → α → Prop} (irr : ∀ x, ¬ r x x) (tr : ∀ x y z, r x y → r y z → r x z) : ∀ (a b : List α), a.Pairwise r → b.Pairwise r → (∀ x, x ∈ a ↔ x ∈ b) → a = b
  | [], [], _, _, _ => rfl
  | [], y :: t, _, _, h => by have := (h y).2 (by simp); cases this
  | x :: s, [], _, _, h => by have := (h x).1 (by simp); cases this
  | x :: s, y :: t, ha, hb, h => by
    rw [List.pairwise_cons] at ha hb
    have hxy : x = y := by
      rcases List.mem_cons.1 ((h x).1 (by simp)) with e | e
      · exact e
      · rcases List.mem_cons.1 ((h y).2 (by simp)) with e' | e'
        · exact e'.symm
        · exact (irr x (tr _ _ _ (ha.1 y e') (hb.1 x e))).elim
    subst hxy
    have hst : s = t := ascH_unique irr tr s t ha.2 hb.2 fun z => by
      have hz := h z
      rw [List.mem_cons, List.mem_cons] at hz
      constructor
      · intro hm
        rcases hz.1 (Or.inr hm) with e | e
        · subst e; exact (irr z (ha.1 z hm)).elim
        · exact e
      · intro hm
        rcases hz.2 (Or.inr hm) with e | e
        · subst e; exact (irr z (hb.1 z hm)).elim
        · exact e
    rw [hst]
section
variable {c : Nat} {ll : List (List Int)} {m : Int} {S : Nat}
/-- The rows that begin a class. -/
def reps (c : Nat) (ll : List (List Int)) (m : Int) (S : Nat) : List Nat := (List.range ll.length).filter fun a => repB c ll m (S : Int) a && decide (1 < (clsC c ll m (S : Int) a).length)
/-- The classes. -/
def parL (c : Nat) (ll : List (List Int)) (m : Int) (S : Nat) : List (List Int) := prtL c ll m (S : Int) ll.length
theorem parL_map : parL c ll m S = (reps c ll m S).map (clsC c ll m (S : Int)) := rfl
theorem reps_mem {a : Nat} : a ∈ reps c ll m S ↔ a < ll.length ∧ repB c ll m (S : Int) a = true ∧ 1 < (clsC c ll m (S : Int) a).length := by
  unfold reps
  rw [List.mem_filter, List.mem_range, Bool.and_eq_true, decide_eq_true_eq]
theorem reps_asc : (reps c ll m S).Pairwise (fun a b => a < b) := List.Pairwise.filter _ List.pairwise_lt_range
theorem parL_len : (parL c ll m S).length = (reps c ll m S).length := by rw [parL_map, List.length_map]
theorem parL_get {i : Nat} (hi : i < (parL c ll m S).length) : (parL c ll m S).getD i [] = clsC c ll m (S : Int) ((reps c ll m S).getD i 0) ∧ (reps c ll m S).getD i 0 ∈ reps c ll m S := by
  rw [parL_len] at hi
  rw [parL_map, List.getD_eq_getElem?_getD, List.getElem?_map, List.getD_eq_getElem?_getD, List.getElem?_eq_getElem hi]
  exact ⟨rfl, List.getElem_mem hi⟩
theorem rowsC_ascH (i : Nat) (s : Int) : ∀ n, (rowsC c ll m s i n).Pairwise (fun a b => a < b)
  | 0 => by simp [rowsC]
  | n + 1 => by
    have ih := rowsC_ascH i s n
    unfold rowsC
    split
    · rw [List.pairwise_append]
      refine ⟨ih, by simp, fun x hx y hy => ?_⟩
      rw [List.mem_singleton] at hy
      subst hy
      rw [rowsC_mem] at hx
      rcases hx with rfl | ⟨k, h1, h2, -, rfl⟩ <;> omega
    · exact ih
theorem clsC_asc (a : Nat) (s : Int) : (clsC c ll m s a).Pairwise (fun x y => x < y) := rowsC_ascH a s _
/-- A class of at least two rows has a partner for its first one. -/
theorem clsC_two {a : Nat} (ha : a < ll.length) : 1 < (clsC c ll m (S : Int) a).length ↔ ∃ k : Nat, a < k ∧ k < ll.length ∧ agB c ll m (S : Int) a k = true := by
  constructor
  · intro h
    cases hq : clsC c ll m (S : Int) a with
    | nil => rw [hq] at h; simp at h
    | cons x t =>
      cases t with
      | nil => rw [hq] at h; simp at h
      | cons y t =>
        have hx := (clsC_mem c ll m (S : Int) a ha x).1 (by rw [hq]; simp)
        have hy := (clsC_mem c ll m (S : Int) a ha y).1 (by rw [hq]; simp)
        have hxy : x < y := by
          have := clsC_asc (c := c) (ll := ll) (m := m) a (S : Int)
          rw [hq, List.pairwise_cons] at this
          exact this.1 y (by simp)
        rcases hy with rfl | ⟨k, h1, h2, h3, -⟩
        · rcases hx with rfl | ⟨k, h1, h2, h3, rfl⟩ <;> omega
        · exact ⟨k, h1, h2, h3⟩
  · rintro ⟨k, h1, h2, h3⟩
    have hk : (k : Int) ∈ clsC c ll m (S : Int) a := (clsC_mem c ll m _ a ha _).2 (.inr ⟨k, h1, h2, h3, rfl⟩)
    have hz : (a : Int) ∈ clsC c ll m (S : Int) a := (clsC_mem c ll m _ a ha _).2 (.inl rfl)
    cases hq : clsC c ll m (S : Int) a with
    | nil => rw [hq] at hk; cases hk
    | cons x t =>
      cases t with
      | nil =>
        rw [hq, List.mem_singleton] at hk hz
        omega
      | cons y t => simp
/-- The rows of the class of a first row are those that agree with it. -/
theorem rep_mem (hc : c ≤ 5) (hS : S < 2 ^ c) {a : Nat} (ha : a ∈ reps c ll m S) {x : Int} : x ∈ clsC c ll m (S : Int) a ↔ ∃ k : Nat, k < ll.length ∧ x = (k : Int) ∧ agB c ll m (S : Int) a k = true := by
  obtain ⟨h1, h2, h3⟩ := reps_mem.1 ha
  rw [clsC_mem c ll m _ a h1]
  obtain ⟨y, y1, y2, y3⟩ := (clsC_two h1).1 h3
  have haa := agB_trans hc hS y3 (agB_symm hc hS y3)
  constructor
  · rintro (rfl | ⟨k, g1, g2, g3, rfl⟩)
    · exact ⟨a, h1, rfl, haa⟩
    · exact ⟨k, g2, rfl, g3⟩
  · rintro ⟨k, g1, rfl, g3⟩
    rcases Nat.lt_trichotomy k a with hlt | rfl | hlt
    · unfold repB at h2
      rw [Bool.not_eq_true', List.any_eq_false] at h2
      exact (h2 k (List.mem_range.2 hlt) (agB_symm hc hS g3)).elim
    · exact .inl rfl
    · exact .inr ⟨k, hlt, g1, g3, rfl⟩
theorem parL_part (hc : c ≤ 5) (hS : S < 2 ^ c) (h40 : ll.length ≤ 40) : partP (parL c ll m S) (ll.length : Int) = true := by
  rw [partP_iff]
  refine ⟨by omega, fun i hi => ?_⟩
  obtain ⟨e, hm⟩ := parL_get hi
  obtain ⟨h1, h2, h3⟩ := reps_mem.1 hm
  have hfirst : ∀ j, j < (parL c ll m S).length → ∃ t, (parL c ll m S).getD j [] = (((reps c ll m S).getD j 0 : Nat) : Int) :: t := by
    intro j hj
    obtain ⟨ej, hmj⟩ := parL_get hj
    obtain ⟨g1, -, -⟩ := reps_mem.1 hmj
    rw [ej]
    cases hq : clsC c ll m (S : Int) ((reps c ll m S).getD j 0) with
    | nil =>
      have := (clsC_mem c ll m (S : Int) _ g1 _).2 (.inl rfl)
      rw [hq] at this; cases this
    | cons x t =>
      have hz := (clsC_mem c ll m (S : Int) _ g1 _).2 (.inl rfl)
      have hx := (clsC_mem c ll m (S : Int) _ g1 x).1 (by rw [hq]; simp)
      have hp := clsC_asc (c := c) (ll := ll) (m := m) ((reps c ll m S).getD j 0) (S : Int)
      rw [hq, List.pairwise_cons] at hp
      rw [hq] at hz
      rcases List.mem_cons.1 hz with hz | hz
      · exact ⟨t, by rw [hz]⟩
      · have := hp.1 _ hz
        rcases hx with hx | ⟨k, k1, -, -, hx⟩ <;> omega
  have hlt : ∀ j, j < i → (reps c ll m S).getD j 0 < (reps c ll m S).getD i 0 := fun j hj => by
    rw [parL_len] at hi
    have := (List.pairwise_iff_getElem.1 (reps_asc (c := c) (ll := ll) (m := m) (S := S))) j i (by omega) hi hj
    rw [List.getD_eq_getElem?_getD, List.getElem?_eq_getElem (by omega), List.getD_eq_getElem?_getD, List.getElem?_eq_getElem hi]
    exact this
  refine ⟨by rw [e]; omega, ?_, ?_, ?_, ?_⟩
  · obtain ⟨t, ht⟩ := hfirst i hi
    rw [ht]
    show lastTo _ i < (((reps c ll m S).getD i 0 : Nat) : Int)
    by_cases h0 : i = 0
    · subst h0
      show (-1 : Int) < _
      omega
    · obtain ⟨j, rfl⟩ : ∃ j, i = j + 1 := ⟨i - 1, by omega⟩
      obtain ⟨t', ht'⟩ := hfirst j (by omega)
      have hl : lastTo (parL c ll m S) (j + 1) = ((parL c ll m S).getD j []).getD 0 0 := rfl
      rw [hl, ht']
      have := hlt j (by omega)
      show (((reps c ll m S).getD j 0 : Nat) : Int) < _
      omega
  · intro k hk
    have hx : ((parL c ll m S).getD i []).getD k 0 ∈ (parL c ll m S).getD i [] := by rw [← get_getD _ k hk]; exact List.getElem_mem _
    rw [e] at hx ⊢
    obtain ⟨q, q1, q2, -⟩ := (rep_mem hc hS hm).1 hx
    rw [q2]
    omega
  · intro k hk
    have hp := clsC_asc (c := c) (ll := ll) (m := m) ((reps c ll m S).getD i 0) (S : Int)
    rw [e] at hk ⊢
    have := (List.pairwise_iff_getElem.1 hp) k (k + 1) (by omega) hk (by omega)
    rw [get_getD _ k (by omega), get_getD _ (k + 1) hk] at this
    exact this
  · intro x hx hf
    obtain ⟨j, hj, hxj⟩ := (mem_flatTo i (by omega)).1 hf
    obtain ⟨ej, hmj⟩ := parL_get (c := c) (ll := ll) (m := m) (S := S) (i := j) (by omega)
    rw [e] at hx
    rw [ej] at hxj
    obtain ⟨q, q1, rfl, q3⟩ := (rep_mem hc hS hm).1 hx
    obtain ⟨q', q1', q2', q3'⟩ := (rep_mem hc hS hmj).1 hxj
    obtain rfl : q = q' := by omega
    have hab := agB_trans hc hS q3' (agB_symm hc hS q3)
    unfold repB at h2
    rw [Bool.not_eq_true', List.any_eq_false] at h2
    exact h2 _ (List.mem_range.2 (hlt j hj)) hab
/-- The class of a row: those that agree with it. -/
theorem clsI_rep (hc : c ≤ 5) (hS : S < 2 ^ c) (h40 : ll.length ≤ 40) {i x : Nat} (hi : i < (parL c ll m S).length) (hx : x < ll.length) : clsI (parL c ll m S) (x : Int) = (i : Int) ↔ agB c ll m (S : Int) ((reps c ll m S).getD i 0) x = true := by
  obtain ⟨e, hm⟩ := parL_get hi
  rw [← clsI_part (parL_part hc hS h40) hi, e, rep_mem hc hS hm]
  constructor
  · rintro ⟨k, h1, h2, h3⟩
    obtain rfl : x = k := by omega
    exact h3
  · intro h
    exact ⟨x, hx, rfl, h⟩
/-- A row is in a class if another one agrees with it. -/
theorem clsI_in (hc : c ≤ 5) (hS : S < 2 ^ c) (h40 : ll.length ≤ 40) {x : Nat} (hx : x < ll.length) : 0 ≤ clsI (parL c ll m S) (x : Int) ↔ ∃ y : Nat, y < ll.length ∧ y ≠ x ∧ agB c ll m (S : Int) x y = true := by
  constructor
  · intro h
    have hge := clsI_ge (parL c ll m S) (x : Int)
    obtain ⟨i, hi⟩ : ∃ i : Nat, clsI (parL c ll m S) (x : Int) = (i : Int) := ⟨_, (Int.toNat_of_nonneg h).symm⟩
    have hil : i < (parL c ll m S).length := by omega
    have ha := (clsI_rep hc hS h40 hil hx).1 hi
    obtain ⟨-, hm⟩ := parL_get hil
    obtain ⟨h1, h2, h3⟩ := reps_mem.1 hm
    by_cases hxa : (reps c ll m S).getD i 0 = x
    · obtain ⟨k, k1, k2, k3⟩ := (clsC_two h1).1 h3
      rw [hxa] at k1 k3
      exact ⟨k, k2, by omega, k3⟩
    · exact ⟨_, h1, hxa, agB_symm hc hS ha⟩
  · rintro ⟨y, hy, hne, hxy⟩
    have key : ∀ a : Nat, a < ll.length → repB c ll m (S : Int) a = true → agB c ll m (S : Int) a x = true → (∃ k, a < k ∧ k < ll.length ∧ agB c ll m (S : Int) a k = true) → 0 ≤ clsI (parL c ll m S) (x : Int) := by
      intro a h1 h2 h3 h4
      have hm : a ∈ reps c ll m S := reps_mem.2 ⟨h1, h2, (clsC_two h1).2 h4⟩
      obtain ⟨i, hi, he⟩ := List.mem_iff_getElem.1 hm
      have hg : (reps c ll m S).getD i 0 = a := by rw [List.getD_eq_getElem?_getD, List.getElem?_eq_getElem hi]; exact he
      have := (clsI_rep hc hS h40 (i := i) (by rw [parL_len]; exact hi) hx).2 (by rw [hg]; exact h3)
      omega
    cases hr : repB c ll m (S : Int) x with
    | true =>
      refine key x hx hr (agB_trans hc hS hxy (agB_symm hc hS hxy)) ⟨y, ?_, hy, hxy⟩
      by_cases hlt : y < x
      · unfold repB at hr
        rw [Bool.not_eq_true', List.any_eq_false] at hr
        exact (hr y (List.mem_range.2 hlt) (agB_symm hc hS hxy)).elim
      · omega
    | false =>
      unfold repB at hr
      rw [Bool.not_eq_false', List.any_eq_true] at hr
      obtain ⟨b, hb, hbx⟩ := hr
      obtain ⟨a, h1, h2, h3⟩ := rep_least hc hS x (b + 1) b (by omega) (List.mem_range.1 hb) hbx
      exact key a (by omega) h2 h3 ⟨x, h1, hx, h3⟩
/-- Two different rows are in one class if they agree. -/
theorem clsI_same (hc : c ≤ 5) (hS : S < 2 ^ c) (h40 : ll.length ≤ 40) {x y : Nat} (hx : x < ll.length) (hy : y < ll.length) (hne : x ≠ y) : (clsI (parL c ll m S) (x : Int) = clsI (parL c ll m S) (y : Int) ∧ 0 ≤ clsI (parL c ll m S) (x : Int)) ↔ agB c ll m (S : Int) x y = true := by
  constructor
  · rintro ⟨h, h0⟩
    have hge := clsI_ge (parL c ll m S) (x : Int)
    obtain ⟨i, hi⟩ : ∃ i : Nat, clsI (parL c ll m S) (x : Int) = (i : Int) := ⟨_, (Int.toNat_of_nonneg h0).symm⟩
    have hil : i < (parL c ll m S).length := by omega
    have h1 := (clsI_rep hc hS h40 hil hx).1 hi
    have h2 := (clsI_rep hc hS h40 hil hy).1 (by omega)
    exact agB_trans hc hS (agB_symm hc hS h1) h2
  · intro h
    have h0 := (clsI_in hc hS h40 hx).2 ⟨y, hy, fun e => hne e.symm, h⟩
    have hge := clsI_ge (parL c ll m S) (x : Int)
    obtain ⟨i, hi⟩ : ∃ i : Nat, clsI (parL c ll m S) (x : Int) = (i : Int) := ⟨_, (Int.toNat_of_nonneg h0).symm⟩
    have hil : i < (parL c ll m S).length := by omega
    have h1 := (clsI_rep hc hS h40 hil hx).1 hi
    have h2 := (clsI_rep hc hS h40 hil hy).2 (agB_trans hc hS h1 h)
    omega
end
end Go.Proofs.YtfndnaldgaaieaaGreatDoor
namespace Go.Proofs.YtfndnaldgaaieaaGreatDoor

theorem or_fin : ∀ (L : Fin 32) (R : Fin 5) (j : Fin 5), bitB (L.val ||| 2 ^ R.val) j.val = (bitB L.val j.val || decide (j.val = R.val)) := by decide +kernel
theorem or_lt : ∀ (c : Fin 6) (L : Fin 32) (R : Fin 5), L.val < 2 ^ c.val → R.val < c.val → (L.val ||| 2 ^ R.val) < 2 ^ c.val := by decide +kernel
theorem pow_bit : ∀ (R : Fin 5) (j : Fin 5), bitB (2 ^ R.val) j.val = decide (j.val = R.val) := by decide +kernel
theorem lt32 {c S : Nat} (hc : c ≤ 5) (hS : S < 2 ^ c) : S < 32 := by
  have : 2 ^ c ≤ 32 := by
    rcases (show c = 0 ∨ c = 1 ∨ c = 2 ∨ c = 3 ∨ c = 4 ∨ c = 5 by omega) with rfl | rfl | rfl | rfl | rfl | rfl <;> decide
  omega
section
variable {c : Nat} {ll : List (List Int)} {m : Int} {L R : Nat}
/-- Two rows agree in both sides if they agree in each. -/
theorem agB_or (hc : c ≤ 5) (hL : L < 2 ^ c) (hR : R < c) (i k : Nat) : agB c ll m ((L ||| 2 ^ R : Nat) : Int) i k = true ↔ agB c ll m (L : Int) i k = true ∧ agB c ll m ((2 ^ R : Nat) : Int) i k = true := by
  have h32 := lt32 hc hL
  have hO := or_lt ⟨c, by omega⟩ ⟨L, h32⟩ ⟨R, by omega⟩ hL hR
  have hP : 2 ^ R < 2 ^ c := Nat.pow_lt_pow_right (by omega) hR
  rw [agB_iff c ll m _ i k hc hO, agB_iff c ll m _ i k hc hL, agB_iff c ll m _ i k hc hP]
  constructor
  · intro h
    refine ⟨fun j hj hb => h j hj ?_, fun j hj hb => h j hj ?_⟩
    · have := or_fin ⟨L, h32⟩ ⟨R, by omega⟩ ⟨j, by omega⟩
      simp only at this
      rw [this, hb]; rfl
    · have h1 := or_fin ⟨L, h32⟩ ⟨R, by omega⟩ ⟨j, by omega⟩
      have h2 := pow_bit ⟨R, by omega⟩ ⟨j, by omega⟩
      simp only at h1 h2
      rw [h2] at hb
      rw [h1, hb]; simp
  · rintro ⟨h1, h2⟩ j hj hb
    have g1 := or_fin ⟨L, h32⟩ ⟨R, by omega⟩ ⟨j, by omega⟩
    have g2 := pow_bit ⟨R, by omega⟩ ⟨j, by omega⟩
    simp only at g1 g2
    rw [g1, Bool.or_eq_true] at hb
    rcases hb with hb | hb
    · exact h1 j hj hb
    · exact h2 j hj (by rw [g2]; exact hb)
/-- Equal on the right: agreeing in the set of that one column. -/
theorem agB_one (hc : c ≤ 5) (hR : R < c) (i k : Nat) : agB c ll m ((2 ^ R : Nat) : Int) i k = bitB (agrTo m (ll.getD i []) (ll.getD k []) c).toNat R := by
  have hP : 2 ^ R < 2 ^ c := Nat.pow_lt_pow_right (by omega) hR
  obtain ⟨X, h1, -, h3, h4⟩ := agrTo_bit m (ll.getD i []) (ll.getD k []) c hc
  rw [Bool.eq_iff_iff, agB_iff c ll m _ i k hc hP, h1, show ((X : Int)).toNat = X by omega, h4 R (by omega), decide_eq_true hR, Bool.true_and]
  constructor
  · intro h
    refine h R hR ?_
    have := pow_bit ⟨R, by omega⟩ ⟨R, by omega⟩
    simp only at this
    rw [this]; simp
  · intro h j hj hb
    have := pow_bit ⟨R, by omega⟩ ⟨j, by omega⟩
    simp only at this
    rw [this, decide_eq_true_eq] at hb
    subst hb
    exact h
theorem badB_iff (hc : c ≤ 5) (hR : R < c) (i k : Nat) : badB c ll m L R i k = true ↔ agB c ll m (L : Int) i k = true ∧ ¬ agB c ll m ((2 ^ R : Nat) : Int) i k = true := by
  unfold badB
  rw [Bool.and_eq_true, Bool.not_eq_true', agB_one hc hR]
  constructor
  · rintro ⟨h1, h2⟩; exact ⟨h1, by rw [h2]; simp⟩
  · rintro ⟨h1, h2⟩; exact ⟨h1, by simpa using h2⟩
/-- It holds if no two rows agree on the left alone. -/
def HoldsAll (c : Nat) (ll : List (List Int)) (m : Int) (L R : Nat) : Prop := ∀ i k, i < k → k < ll.length → agB c ll m (L : Int) i k = true → agB c ll m ((2 ^ R : Nat) : Int) i k = true
theorem pairI_holds (hc : c ≤ 5) (hR : R < c) : (pairI (badB c ll m L R) ll.length).1 < 0 ↔ HoldsAll c ll m L R := by
  rcases pairI_is (badB c ll m L R) ll.length with ⟨h1, -, h⟩ | ⟨i, k, h1, -, h2, h3, h4, -⟩
  · rw [h1]
    refine ⟨fun _ i k hik hk hL => ?_, fun _ => by omega⟩
    have hb := h i k hik hk
    by_cases hr : agB c ll m ((2 ^ R : Nat) : Int) i k = true
    · exact hr
    · rw [(badB_iff hc hR i k).2 ⟨hL, hr⟩] at hb; cases hb
  · rw [h1]
    refine ⟨fun h => by omega, fun h => ?_⟩
    obtain ⟨g1, g2⟩ := (badB_iff hc hR i k).1 h4
    exact (g2 (h i k h2 h3 g1)).elim
/-- The product of the sides' partitions is the partition of both. -/
theorem parL_product (hc : c ≤ 5) (hL : L < 2 ^ c) (hR : R < c) (h40 : ll.length ≤ 40) : proS (parL c ll m L) (parL c ll m (2 ^ R)) (ll.length : Int) = parL c ll m (L ||| 2 ^ R) := by
  have hO : (L ||| 2 ^ R) < 2 ^ c := or_lt ⟨c, by omega⟩ ⟨L, lt32 hc hL⟩ ⟨R, by omega⟩ hL hR
  have hP : 2 ^ R < 2 ^ c := Nat.pow_lt_pow_right (by omega) hR
  have pL := parL_part (m := m) hc hL h40
  have pR := parL_part (m := m) hc hP h40
  rw [proS_eq _ _ _ pL pR, show ((ll.length : Int)).toNat = ll.length by omega]
  unfold prL
  rw [show parL c ll m (L ||| 2 ^ R) = ((List.range ll.length).filter fun a => repB c ll m ((L ||| 2 ^ R : Nat) : Int) a && decide (1 < (clsC c ll m ((L ||| 2 ^ R : Nat) : Int) a).length)).map (clsC c ll m ((L ||| 2 ^ R : Nat) : Int)) from rfl]
  -- where a row has a partner in both, the product's class is its class
  have hpart : ∀ a, a < ll.length → (∃ y, y < ll.length ∧ y ≠ a ∧ agB c ll m ((L ||| 2 ^ R : Nat) : Int) a y = true) →
      (0 ≤ clsI (parL c ll m L) (a : Int) ∧ 0 ≤ clsI (parL c ll m (2 ^ R)) (a : Int)) ∧ ∀ x : Nat, x < ll.length → ((clsI (parL c ll m L) (x : Int) = clsI (parL c ll m L) (a : Int) ∧ clsI (parL c ll m (2 ^ R)) (x : Int) = clsI (parL c ll m (2 ^ R)) (a : Int)) ↔ agB c ll m ((L ||| 2 ^ R : Nat) : Int) a x = true) := by
    rintro a ha ⟨y, hy, hne, hay⟩
    obtain ⟨y1, y2⟩ := (agB_or hc hL hR a y).1 hay
    have i1 := (clsI_in hc hL h40 ha).2 ⟨y, hy, hne, y1⟩
    have i2 := (clsI_in hc hP h40 ha).2 ⟨y, hy, hne, y2⟩
    refine ⟨⟨i1, i2⟩, fun x hx => ?_⟩
    by_cases hxa : x = a
    · subst hxa
      exact ⟨fun _ => agB_trans hc hO hay (agB_symm hc hO hay), fun _ => ⟨rfl, rfl⟩⟩
    · rw [agB_or hc hL hR, ← clsI_same hc hL h40 ha hx (fun e => hxa e.symm), ← clsI_same hc hP h40 ha hx (fun e => hxa e.symm)]
      constructor
      · rintro ⟨h1, h2⟩; exact ⟨⟨h1.symm, i1⟩, h2.symm, i2⟩
      · rintro ⟨⟨h1, -⟩, h2, -⟩; exact ⟨h1.symm, h2.symm⟩
  have hcls : ∀ a, a < ll.length → repB c ll m ((L ||| 2 ^ R : Nat) : Int) a = true → (∃ y, y < ll.length ∧ y ≠ a ∧ agB c ll m ((L ||| 2 ^ R : Nat) : Int) a y = true) → prC (parL c ll m L) (parL c ll m (2 ^ R)) (clsI (parL c ll m L) (a : Int)).toNat (clsI (parL c ll m (2 ^ R)) (a : Int)).toNat = clsC c ll m ((L ||| 2 ^ R : Nat) : Int) a := by
    intro a ha hrep hex
    obtain ⟨⟨i1, i2⟩, hs⟩ := hpart a ha hex
    obtain ⟨y, hy, hne, hay⟩ := hex
    have hya : a < y := by
      by_cases hlt : y < a
      · unfold repB at hrep
        rw [Bool.not_eq_true', List.any_eq_false] at hrep
        exact (hrep y (List.mem_range.2 hlt) (agB_symm hc hO hay)).elim
      · omega
    have hm : a ∈ reps c ll m (L ||| 2 ^ R) := reps_mem.2 ⟨ha, hrep, (clsC_two ha).2 ⟨y, hya, hy, hay⟩⟩
    have hge := clsI_ge (parL c ll m L) (a : Int)
    refine ascH_unique (r := fun x y => x < y) (fun x => by omega) (fun x y z => by omega) _ _ ?_ (clsC_asc _ _) fun x => ?_
    · obtain ⟨-, hcl⟩ := partP_iff.mp pL
      have h4 := (hcl (clsI (parL c ll m L) (a : Int)).toNat (by omega)).2.2.2.1
      unfold prC
      refine List.Pairwise.filter _ ?_
      rw [List.pairwise_iff_getElem]
      intro i j hi hj hij
      have := asc_lt h4 (i := i) (j - i - 1) (by omega)
      rw [show i + (j - i - 1) + 1 = j by omega, ← get_getD _ _ hi, ← get_getD _ _ hj] at this
      exact this
    · rw [prC_mem pL pR i1 i2, rep_mem hc hO hm]
      constructor
      · rintro ⟨h1, h2⟩
        have hx : x ∈ (parL c ll m L).getD (clsI (parL c ll m L) x).toNat [] := (clsI_part pL (by omega)).2 (by omega)
        obtain ⟨e, hmm⟩ := parL_get (c := c) (ll := ll) (m := m) (S := L) (i := (clsI (parL c ll m L) x).toNat) (by omega)
        rw [e] at hx
        obtain ⟨k, k1, rfl, -⟩ := (rep_mem hc hL hmm).1 hx
        exact ⟨k, k1, rfl, (hs k k1).1 ⟨h1, h2⟩⟩
      · rintro ⟨k, k1, rfl, k3⟩
        exact (hs k k1).2 k3
  have hfil : ∀ a, a < ll.length → (rep2 (parL c ll m L) (parL c ll m (2 ^ R)) a && decide (1 < (prC (parL c ll m L) (parL c ll m (2 ^ R)) (clsI (parL c ll m L) (a : Int)).toNat (clsI (parL c ll m (2 ^ R)) (a : Int)).toNat).length)) = (repB c ll m ((L ||| 2 ^ R : Nat) : Int) a && decide (1 < (clsC c ll m ((L ||| 2 ^ R : Nat) : Int) a).length)) := by
    intro a ha
    by_cases hex : ∃ y, y < ll.length ∧ y ≠ a ∧ agB c ll m ((L ||| 2 ^ R : Nat) : Int) a y = true
    · obtain ⟨⟨i1, i2⟩, hs⟩ := hpart a ha hex
      have hrr : rep2 (parL c ll m L) (parL c ll m (2 ^ R)) a = repB c ll m ((L ||| 2 ^ R : Nat) : Int) a := by
        unfold rep2 repB
        rw [decide_eq_true ⟨i1, i2⟩, Bool.true_and]
        congr 1
        rw [Bool.eq_iff_iff, List.any_eq_true, List.any_eq_true]
        constructor
        · rintro ⟨b, hb, h⟩
          exact ⟨b, hb, agB_symm hc hO ((hs b (by have := List.mem_range.1 hb; omega)).1 (of_decide_eq_true h))⟩
        · rintro ⟨b, hb, h⟩
          exact ⟨b, hb, decide_eq_true ((hs b (by have := List.mem_range.1 hb; omega)).2 (agB_symm hc hO h))⟩
      rw [hrr]
      cases hrep : repB c ll m ((L ||| 2 ^ R : Nat) : Int) a with
      | false => rfl
      | true => rw [hcls a ha hrep hex]
    · have h2 : ¬ 1 < (clsC c ll m ((L ||| 2 ^ R : Nat) : Int) a).length := fun h => by
        obtain ⟨k, k1, k2, k3⟩ := (clsC_two ha).1 h
        exact hex ⟨k, k2, by omega, k3⟩
      rw [decide_eq_false h2, Bool.and_false]
      cases hr2 : rep2 (parL c ll m L) (parL c ll m (2 ^ R)) a with
      | false => rfl
      | true =>
        rw [Bool.true_and, decide_eq_false_iff_not]
        intro hlen
        have hr2' := hr2
        unfold rep2 at hr2'
        rw [Bool.and_eq_true, decide_eq_true_eq] at hr2'
        obtain ⟨⟨i1, i2⟩, -⟩ := hr2'
        have hmemx : ∀ x, x ∈ prC (parL c ll m L) (parL c ll m (2 ^ R)) (clsI (parL c ll m L) (a : Int)).toNat (clsI (parL c ll m (2 ^ R)) (a : Int)).toNat → x = (a : Int) := by
          intro x hx
          obtain ⟨h1, h3⟩ := (prC_mem pL pR i1 i2 x).1 hx
          have hge := clsI_ge (parL c ll m L) x
          have hxm : x ∈ (parL c ll m L).getD (clsI (parL c ll m L) x).toNat [] := (clsI_part pL (by omega)).2 (by omega)
          obtain ⟨e, hmm⟩ := parL_get (c := c) (ll := ll) (m := m) (S := L) (i := (clsI (parL c ll m L) x).toNat) (by omega)
          rw [e] at hxm
          obtain ⟨k, k1, rfl, -⟩ := (rep_mem hc hL hmm).1 hxm
          by_cases hka : k = a
          · rw [hka]
          · exact (hex ⟨k, k1, hka, (agB_or hc hL hR a k).2 ⟨(clsI_same hc hL h40 ha k1 (fun e => hka e.symm)).1 ⟨h1.symm, i1⟩, (clsI_same hc hP h40 ha k1 (fun e => hka e.symm)).1 ⟨h3.symm, i2⟩⟩⟩).elim
        have hasc : (prC (parL c ll m L) (parL c ll m (2 ^ R)) (clsI (parL c ll m L) (a : Int)).toNat (clsI (parL c ll m (2 ^ R)) (a : Int)).toNat).Pairwise (fun x y => x < y) := by
          obtain ⟨-, hcl⟩ := partP_iff.mp pL
          have hge := clsI_ge (parL c ll m L) (a : Int)
          have h4 := (hcl (clsI (parL c ll m L) (a : Int)).toNat (by omega)).2.2.2.1
          unfold prC
          refine List.Pairwise.filter _ ?_
          rw [List.pairwise_iff_getElem]
          intro i j hi hj hij
          have := asc_lt h4 (i := i) (j - i - 1) (by omega)
          rw [show i + (j - i - 1) + 1 = j by omega, ← get_getD _ _ hi, ← get_getD _ _ hj] at this
          exact this
        match hq : prC (parL c ll m L) (parL c ll m (2 ^ R)) (clsI (parL c ll m L) (a : Int)).toNat (clsI (parL c ll m (2 ^ R)) (a : Int)).toNat, hlen with
        | x :: y :: t, _ =>
          rw [hq] at hmemx hasc
          have hx := hmemx x (by simp)
          have hy := hmemx y (by simp)
          rw [List.pairwise_cons] at hasc
          have := hasc.1 y (by simp)
          omega
  rw [List.filter_congr (fun a ha => hfil a (List.mem_range.1 ha))]
  refine List.map_congr_left fun a ha => ?_
  have hm : a ∈ reps c ll m (L ||| 2 ^ R) := ha
  obtain ⟨h1, h2, h3⟩ := reps_mem.1 hm
  obtain ⟨k, k1, k2, k3⟩ := (clsC_two h1).1 h3
  exact hcls a h1 h2 ⟨k, k2, by omega, k3⟩
end
end Go.Proofs.YtfndnaldgaaieaaGreatDoor
