/- Texts of this claim, merged: CvB, RecK, SidK. Conditions: as stated. -/
import Derived.Test.YtlecfkfcjhliiaaGreatFltDm
import Derived.Test.YtlecfkfcjhliiaaGreatWc32
import Derived.Test.YtlecfkfcjhliiaaGreatWc23
import Derived.Test.YtlecfkfcjhliiaaGreatWc22
import Derived.Maps.RangeWalk
import Derived.Maps.AppendAt
import Derived.WideKeyEntry
import Derived.WideKeyPair
namespace Go.Proofs.YtlecfkfcjhliiaaGreat
open Go.RowKit

theorem box_two {w : World} {T T' : TypeId} {a b l r : Value} : (((w.alloc (.cells #[a, b] T)).alloc (.cells #[l, r] T')).cell? ⟨w.heap.size, 0, none⟩ = some a ∧ ((w.alloc (.cells #[a, b] T)).alloc (.cells #[l, r] T')).cell? ⟨w.heap.size, 1, none⟩ = some b) ∧ ((w.alloc (.cells #[a, b] T)).alloc (.cells #[l, r] T')).cell? ⟨w.heap.size + 1, 0, none⟩ = some l ∧ ((w.alloc (.cells #[a, b] T)).alloc (.cells #[l, r] T')).cell? ⟨w.heap.size + 1, 1, none⟩ = some r := boxTD (Below.refl _ _)
set_option maxHeartbeats 1600000 in
theorem covers_any (e0 e1 d0 d1 : Int) (w : World) :
    Calls Tryz.prog 93 #[.agg #[.int .i64 e0, .int .i64 e1], .agg #[.int .i64 d0, .int .i64 d1]] w fun e w' => e = .returned (.bool (covB (e0, e1) (d0, d1))) ∧ Below w.heap.size w w' := by
  have hb1 := (Below.refl w.heap.size w).alloc (Nat.le_refl _) (.cells #[.int .i64 e0, .int .i64 e1] 37)
  have hb2 := hb1.alloc hb1.size (.cells #[.int .i64 d0, .int .i64 d1] 37)
  have HB := Lib.hid hb2
  obtain ⟨⟨c0, c1⟩, c2, c3⟩ := box_two (w := w) (T := 37) (T' := 37) (a := .int .i64 e0) (b := .int .i64 e1) (l := .int .i64 d0) (r := .int .i64 d1)
  have HP := Lib.hid (fun w' => partOf_any e0 d0 w')
  clear hb1 hb2
  by_cases h : e1 = d1
  · subst h
    have HE : Hid (covB (e0, e1) (d0, e1) = partZ e0 d0) := Lib.hid (by unfold covB; simp)
    go_enter Tryz.func93, Tryz.ntmps93
    go_wp2_with fail
    refine (HP.out _).mono ?_
    rintro e w' ⟨rfl, rfl⟩
    go_wp2_with fail
    go_ret
    exact ⟨ret_b HE.out, HB.out⟩
  · have HE : Hid (covB (e0, e1) (d0, d1) = false) := Lib.hid (by unfold covB; rw [decide_eq_false h]; rfl)
    have hne : (e1 == d1) = false := by simpa using h
    clear h
    go_enter Tryz.func93, Tryz.ntmps93
    go_wp2_with fail
    go_ret
    exact ⟨ret_b HE.out, HB.out⟩
set_option maxHeartbeats 1600000 in
theorem otherFun_any (e0 e1 d0 d1 : Int) (b : Nat) (w : World) (h0 : w.cell? ⟨b, 0, none⟩ = some (.int .i64 d0)) (h1 : w.cell? ⟨b, 1, none⟩ = some (.int .i64 d1)) :
    Calls Tryz.prog 92 #[.agg #[.int .i64 e0, .int .i64 e1], .pointer (some ⟨b, 0, none⟩)] w fun e w' => e = .returned (.bool (!decide ((e0, e1) = (d0, d1)) && covB (e0, e1) (d0, d1))) ∧ Below w.heap.size w w' := by
  have hb1 := (Below.refl w.heap.size w).alloc (Nat.le_refl _) (.cells #[.int .i64 e0, .int .i64 e1] 37)
  have HB := Lib.hid hb1
  have HC := Lib.hid (fun w' => covers_any e0 e1 d0 d1 w')
  obtain ⟨c0, c1⟩ := zero2 w 37 (.int .i64 e0) (.int .i64 e1)
  replace h0 := (hb1.cell (World.block_lt_of_cell? _ _ h0)).trans h0
  replace h1 := (hb1.cell (World.block_lt_of_cell? _ _ h1)).trans h1
  clear hb1
  by_cases h : e0 = d0 ∧ e1 = d1
  · obtain ⟨rfl, rfl⟩ := h
    have HE : Hid ((!decide ((e0, e1) = (e0, e1)) && covB (e0, e1) (e0, e1)) = false) := Lib.hid (by simp)
    go_enter Tryz.func92, Tryz.ntmps92
    go_wp2_with fail
    go_ret
    exact ⟨ret_b HE.out, HB.out⟩
  · have HE : Hid ((!decide ((e0, e1) = (d0, d1)) && covB (e0, e1) (d0, d1)) = covB (e0, e1) (d0, d1)) := Lib.hid (by
      rw [decide_eq_false (fun hh => h (Prod.mk.inj hh))]; rfl)
    by_cases hx : e0 = d0
    · have hy : ¬ e1 = d1 := fun hh => h ⟨hx, hh⟩
      clear h
      subst hx
      go_enter Tryz.func92, Tryz.ntmps92
      go_wp2_with fail
      refine (HC.out _).mono ?_
      rintro e w2 ⟨rfl, b2⟩
      have hb2 := HB.out.trans (b2.mono HB.out.size)
      go_wp2_with fail
      go_ret
      exact ⟨ret_b HE.out, hb2⟩
    · clear h
      go_enter Tryz.func92, Tryz.ntmps92
      go_wp2_with fail
      refine (HC.out _).mono ?_
      rintro e w2 ⟨rfl, b2⟩
      have hb2 := HB.out.trans (b2.mono HB.out.size)
      go_wp2_with fail
      go_ret
      exact ⟨ret_b HE.out, hb2⟩
theorem any_no {α : Type} (p : α → Bool) (l : List α) (d : α) (k : Nat) (h : k < l.length) (h0 : (l.take k).any p = false) (h1 : p (l.getD k d) = false) : (l.take (k + 1)).any p = false := by
  rw [take_succ_getD l d k h, List.any_append, h0, Bool.false_or]
  show (p (l.getD k d) || false) = false
  rw [h1]; rfl
theorem any_yes {α : Type} (p : α → Bool) (l : List α) (d : α) (k : Nat) (h : k < l.length) (h1 : p (l.getD k d) = true) : l.any p = true := by
  rw [List.any_eq_true]
  exact ⟨l.getD k d, by rw [List.getD_eq_getElem?_getD, List.getElem?_eq_getElem h]; exact List.getElem_mem h, h1⟩
/-- An index that is not negative just if one is so. -/
def IxOk (b : Bool) (i : Int) : Prop := (b = true → 0 ≤ i) ∧ (b = false → i = -1)
set_option maxHeartbeats 1600000 in
theorem indexOther_any (v c1 : Value) (p : Int × Int → Bool) (l : List (Int × Int)) (w : World) (hr : ReadD w v l) (hl : l.length ≤ 1048576)
    (HP : ∀ x, x ∈ l → ∀ w', Below w.heap.size w w' → Calls Tryz.prog 92 #[.agg #[.int .i64 x.1, .int .i64 x.2], c1] w' fun e w'' => e = .returned (.bool (p x)) ∧ Below w'.heap.size w' w'') :
    Calls Tryz.prog 100 #[v, .func (.func 92) #[] #[c1]] w fun e w' => ∃ i, e = .returned (.int .i64 i) ∧ IxOk (l.any p) i ∧ Below w.heap.size w w' := by
  have HQ := Lib.hid HP
  obtain ⟨a, cap, rfl, ha⟩ := hr
  have HA := Lib.hid ha
  clear ha HP
  go_enter Tryz.func100, Tryz.ntmps100
  go_wp2_with fail
  go_loopw [8] (fun iv wr => ∃ (k : Nat), k ≤ l.length ∧ iv = .int .i64 (k : Int) ∧ Hid ((l.take k).any p = false) ∧ Below w.heap.size w wr) (fun iv _ => l.length - (intOf iv).toNat)
  case atStart => exact ⟨0, by omega, rfl, Lib.hid rfl, Below.refl _ _⟩
  case round =>
    obtain ⟨k, hk, rfl, hno, hb⟩ := hrel
    by_cases hlt : k < l.length
    · obtain ⟨b, o, rfl, h0, h1⟩ := HA.out k hlt
      replace h0 := (hb.cell (World.block_lt_of_cell? w _ h0)).trans h0
      replace h1 := (hb.cell (World.block_lt_of_cell? w _ h1)).trans h1
      have hm : l.getD k (0, 0) ∈ l := by rw [List.getD_eq_getElem?_getD, List.getElem?_eq_getElem hlt]; exact List.getElem_mem hlt
      have HNO := Lib.hid (any_no p l (0, 0) k hlt hno.out)
      have HYE := Lib.hid (any_yes p l (0, 0) k hlt)
      obtain ⟨⟨y0, y1⟩, hy⟩ : ∃ y, y = l.getD k (0, 0) := ⟨_, rfl⟩
      rw [← hy] at h0 h1 hm HNO HYE
      simp only at h0 h1
      have HC := Lib.hid (HQ.out (y0, y1) hm)
      have HB := Lib.hid hb
      clear hy hm hb
      have z0 : (0 : Int) ≤ (k : Int) := by omega
      have z1 : (k : Int) < (l.length : Int) := by omega
      cases hp : p (y0, y1) with
      | true =>
        have HE := Lib.hid (HYE.out hp)
        rw [hp] at HC
        clear hp
        go_wp2_with fail
        refine (HC.out _ HB.out).mono ?_
        rintro e w1 ⟨rfl, b1⟩
        have hb1 := HB.out.trans (b1.mono HB.out.size)
        clear b1 h0 h1
        go_wp2_with fail
        go_ret
        exact ⟨_, rfl, ⟨fun _ => (by omega), fun h => absurd h (by rw [HE.out]; decide)⟩, hb1⟩
      | false =>
        have HE := Lib.hid (HNO.out hp)
        rw [hp] at HC
        clear hp
        go_wp2_with fail
        refine (HC.out _ HB.out).mono ?_
        rintro e w1 ⟨rfl, b1⟩
        have hb1 := HB.out.trans (b1.mono HB.out.size)
        clear b1 h0 h1
        go_wp2_with fail
        go_roundw
        case rel => exact ⟨k + 1, by omega, by go_num, HE, hb1⟩
        case measure => simp [intOf]; omega
    · obtain rfl : k = l.length := by omega
      go_wp2_with fail
      go_ret
      exact ⟨_, rfl, ⟨fun h => absurd h (by have := hno.out; rw [List.take_length] at this; rw [this]; decide), fun _ => rfl⟩, hb⟩
set_option maxHeartbeats 1600000 in
theorem containsOther_any (v c1 : Value) (p : Int × Int → Bool) (l : List (Int × Int)) (w : World) (hr : ReadD w v l) (hl : l.length ≤ 1048576)
    (HP : ∀ x, x ∈ l → ∀ w', Below w.heap.size w w' → Calls Tryz.prog 92 #[.agg #[.int .i64 x.1, .int .i64 x.2], c1] w' fun e w'' => e = .returned (.bool (p x)) ∧ Below w'.heap.size w' w'') :
    Calls Tryz.prog 91 #[v, .func (.func 92) #[] #[c1]] w fun e w' => e = .returned (.bool (l.any p)) ∧ Below w.heap.size w w' := by
  have HI := Lib.hid (indexOther_any v c1 p l w hr hl HP)
  clear hr HP
  go_enter Tryz.func91, Tryz.ntmps91
  go_wp2_with fail
  refine HI.out.mono ?_
  rintro e w' ⟨i, rfl, hi, hb⟩
  have HX : Hid (l.any p = decide (0 ≤ i)) := Lib.hid (by
    cases h : l.any p with
    | true => exact (decide_eq_true (hi.1 h)).symm
    | false => rw [hi.2 h]; rfl)
  clear hi
  go_wp2_with fail
  go_ret
  exact ⟨ret_b HX.out, hb⟩
set_option maxHeartbeats 1600000 in
theorem uncFun_any (d0 d1 : Int) (b : Nat) (v : Value) (l : List (Int × Int)) (w : World) (hr : ReadD w v l) (hl : l.length ≤ 1048576) (hc : w.cell? ⟨b, 0, none⟩ = some v) :
    Calls Tryz.prog 90 #[.agg #[.int .i64 d0, .int .i64 d1], .pointer (some ⟨b, 0, none⟩)] w fun e w' => e = .returned (.bool (!unB l (d0, d1))) ∧ Below w.heap.size w w' := by
  have hb1 := (Below.refl w.heap.size w).alloc (Nat.le_refl _) (.cells #[.int .i64 d0, .int .i64 d1] 37)
  have HB := Lib.hid hb1
  obtain ⟨c0, c1⟩ := zero2 w 37 (.int .i64 d0) (.int .i64 d1)
  have HC := Lib.hid (containsOther_any v (.pointer (some ⟨w.heap.size, 0, none⟩)) (fun e => !decide (e = (d0, d1)) && covB e (d0, d1)) l (w.alloc (.cells #[.int .i64 d0, .int .i64 d1] 37)) (hr.kept hb1) hl
    (fun x _ w' hb => otherFun_any x.1 x.2 d0 d1 w.heap.size w' ((hb.cell (World.block_lt_of_cell? _ _ c0)).trans c0) ((hb.cell (World.block_lt_of_cell? _ _ c1)).trans c1)))
  replace hc := (hb1.cell (World.block_lt_of_cell? _ _ hc)).trans hc
  have HE : Hid (unB l (d0, d1) = l.any (fun e => !decide (e = (d0, d1)) && covB e (d0, d1))) := Lib.hid rfl
  obtain ⟨q, hq⟩ : ∃ q, q = l.any (fun e => !decide (e = (d0, d1)) && covB e (d0, d1)) := ⟨_, rfl⟩
  rw [← hq] at HC HE
  obtain ⟨a, cap, rfl, -⟩ := hr
  clear hb1 c0 c1 hq
  cases q with
  | true =>
    go_enter Tryz.func90, Tryz.ntmps90
    go_wp2_with fail
    refine HC.out.mono ?_
    rintro e w2 ⟨rfl, b2⟩
    have hb2 := HB.out.trans (b2.mono HB.out.size)
    go_wp2_with fail
    go_ret
    exact ⟨by rw [HE.out]; rfl, hb2⟩
  | false =>
    go_enter Tryz.func90, Tryz.ntmps90
    go_wp2_with fail
    refine HC.out.mono ?_
    rintro e w2 ⟨rfl, b2⟩
    have hb2 := HB.out.trans (b2.mono HB.out.size)
    go_wp2_with fail
    go_ret
    exact ⟨by rw [HE.out]; rfl, hb2⟩
set_option maxHeartbeats 1600000 in
theorem uncovered_any (v : Value) (l : List (Int × Int)) (w : World) (hr : ReadD w v l) (hl : l.length ≤ 1048576) :
    Calls Tryz.prog 65 #[v] w (RetD (uncL l) w) := by
  have hb1 := (Below.refl w.heap.size w).alloc (Nat.le_refl _) (.cells #[v] 31)
  have HB := Lib.hid hb1
  have hc := one_at w 31 v
  have HF := Lib.hid (filtUC_any (.pointer (some ⟨w.heap.size, 0, none⟩)) (fun d => !unB l d) v l (w.alloc (.cells #[v] 31)) (hr.kept hb1) hl
    (fun x _ w' hb => uncFun_any x.1 x.2 w.heap.size v l w' ((hr.kept hb1).kept hb) hl ((hb.cell (World.block_lt_of_cell? _ _ hc)).trans hc)))
  obtain ⟨a, cap, rfl, -⟩ := hr
  clear hb1
  go_enter Tryz.func65, Tryz.ntmps65
  go_wp2_with fail
  refine HF.out.mono ?_
  rintro e w2 ⟨v2, rfl, ho2, b2⟩
  have hb2 := HB.out.trans (b2.mono HB.out.size)
  have ho3 := ho2.base HB.out.size
  clear ho2 b2
  go_wp2_with fail
  go_ret
  exact ⟨_, rfl, ho3, hb2⟩
end Go.Proofs.YtlecfkfcjhliiaaGreat
namespace Go.Proofs.YtlecfkfcjhliiaaGreat
open Go.RowKit
open Go.Maps (Keyed)
open Go.WideMaps (ArrKey)
open Go.ChangeMaps (setBlock)

theorem arrR : ArrKey Tryz.prog 92 3 5 := ⟨Tryz.underlying92, by kernel_rfl, by kernel_rfl, by kernel_rfl⟩
theorem keyR : Keyed Tryz.prog 92 := Keyed.of_law arrR.law
theorem sizeT : ∃ m, Tryz.prog.types.size = m + 1 := ⟨Tryz.prog.types.size - 1, by kernel_rfl⟩
/-- The value of a record. -/
def recV (r : List Int) : Value := .agg #[.int .i64 (r.getD 0 0), .int .i64 (r.getD 1 0), .int .i64 (r.getD 2 0), .int .i64 (r.getD 3 0), .int .i64 (r.getD 4 0)]
/-- Five ints. -/
def R5 (r : List Int) : Prop := r.length = 5 ∧ ∀ j, j < 5 → (Lit.int .i64 (r.getD j 0)).wf = true
theorem r5_list {r : List Int} (h : R5 r) : r = [r.getD 0 0, r.getD 1 0, r.getD 2 0, r.getD 3 0, r.getD 4 0] := by
  obtain ⟨h, -⟩ := h
  match r, h with
  | [a, b, c, d, e], _ => rfl
theorem recV_inj {r s : List Int} (hr : R5 r) (hs : R5 s) (h : recV r = recV s) : r = s := by
  rw [r5_list hr, r5_list hs]
  unfold recV at h
  simp only [Value.agg.injEq, Array.mk.injEq, List.cons.injEq, Value.int.injEq, true_and, and_true] at h
  obtain ⟨h0, h1, h2, h3, h4⟩ := h
  rw [h0, h1, h2, h3, h4]
instance : Nonempty Lit := ⟨.bool false⟩
theorem keyOf_rec {r : List Int} (h : R5 r) : ∃ kl, keyOf Tryz.prog 92 (recV r) = some kl := by
  have hkt := arrR.keyType sizeT
  obtain ⟨m, hm⟩ := sizeT
  obtain ⟨-, hw⟩ := h
  have w0 := hw 0 (by omega)
  have w1 := hw 1 (by omega)
  have w2 := hw 2 (by omega)
  have w3 := hw 3 (by omega)
  have w4 := hw 4 (by omega)
  refine ⟨.string (keyBytes [.int .i64 (r.getD 0 0), .int .i64 (r.getD 1 0), .int .i64 (r.getD 2 0), .int .i64 (r.getD 3 0), .int .i64 (r.getD 4 0)]), ?_⟩
  · unfold keyOf recV
    generalize r.getD 0 0 = a0, r.getD 1 0 = a1, r.getD 2 0 = a2, r.getD 3 0 = a3, r.getD 4 0 = a4 at *
    simp only [arrR.hu]
    rw [if_pos (by simp [hkt, Value.formed, arrR.hu, arrR.size]), hm]
    unfold Program.keyLits
    simp only [arrR.hu, Value.cells]
    rw [if_pos (by rw [arrR.size]; rfl), show List.range 5 = [0, 1, 2, 3, 4] from rfl, List.mapM_cons, List.mapM_cons, List.mapM_cons, List.mapM_cons, List.mapM_cons, List.mapM_nil]
    simp [arrR.one, Program.keyLits, Tryz.underlying3, w0, w1, w2, w3, w4]
/-- What a record reads as. -/
noncomputable def klR (r : List Int) : Lit := Classical.epsilon fun kl => keyOf Tryz.prog 92 (recV r) = some kl
theorem keyOf_klR {r : List Int} (h : R5 r) : keyOf Tryz.prog 92 (recV r) = some (klR r) := by
  exact Classical.epsilon_spec (keyOf_rec h)
theorem klR_inj {r s : List Int} (hr : R5 r) (hs : R5 s) (h : klR r = klR s) : r = s := by
  have h1 := keyOf_klR hr
  rw [h] at h1
  exact recV_inj hr hs (keyR.inj h1 (keyOf_klR hs))
theorem klR_key {r : List Int} (h : R5 r) : WideAt.IsKeyLit (klR r) := keyR.key (keyOf_klR h)
theorem lit_one {m : Nat} {c : Value} {ls : List Lit} (h : Tryz.prog.keyLits (m + 1) 3 [c] = some ls) : ∃ a, c = .int .i64 a ∧ (Lit.int .i64 a).wf = true := by
  unfold Program.keyLits at h
  simp only [Tryz.underlying3] at h
  cases c <;> simp at h
  obtain ⟨⟨rfl, hw⟩, -⟩ := h
  exact ⟨_, rfl, hw⟩
set_option maxRecDepth 100000 in
theorem rec_inv {v : Value} {kl : Lit} (h : keyOf Tryz.prog 92 v = some kl) : ∃ r, R5 r ∧ v = recV r ∧ kl = klR r := by
  have h' := h
  obtain ⟨m, hm⟩ := sizeT
  unfold keyOf at h
  simp only [arrR.hu] at h
  split at h
  · next hf =>
    rw [Bool.and_eq_true] at hf
    have hfm := hf.2
    cases v with
    | agg cs =>
      simp only [Value.formed, arrR.hu, arrR.size, beq_iff_eq] at hfm
      obtain ⟨c0, c1, c2, c3, c4, rfl⟩ : ∃ c0 c1 c2 c3 c4, cs = #[c0, c1, c2, c3, c4] := by
        obtain ⟨l⟩ := cs
        match l, hfm with
        | [a, b, c, d, e], _ => exact ⟨a, b, c, d, e, rfl⟩
      rw [hm] at h
      unfold Program.keyLits at h
      simp only [arrR.hu, Value.cells] at h
      rw [if_pos (by rw [arrR.size]; rfl), show List.range 5 = [0, 1, 2, 3, 4] from rfl, List.mapM_cons, List.mapM_cons, List.mapM_cons, List.mapM_cons, List.mapM_cons, List.mapM_nil] at h
      simp only [arrR.one, Nat.mul_one, List.drop_zero, List.drop_succ_cons, List.take_succ_cons, List.take_zero, Option.map_eq_some_iff, bind, Option.bind_eq_some_iff, pure] at h
      obtain ⟨-, ⟨-, ⟨y0, h0, -, ⟨y1, h1, -, ⟨y2, h2, -, ⟨y3, h3, -, ⟨y4, h4, -⟩, -⟩, -⟩, -⟩, -⟩, -⟩, -⟩ := h
      obtain ⟨a0, rfl, v0⟩ := lit_one h0
      obtain ⟨a1, rfl, v1⟩ := lit_one h1
      obtain ⟨a2, rfl, v2⟩ := lit_one h2
      obtain ⟨a3, rfl, v3⟩ := lit_one h3
      obtain ⟨a4, rfl, v4⟩ := lit_one h4
      have hR : R5 [a0, a1, a2, a3, a4] := ⟨rfl, fun j hj => by
        rcases (show j = 0 ∨ j = 1 ∨ j = 2 ∨ j = 3 ∨ j = 4 by omega) with rfl | rfl | rfl | rfl | rfl
        · exact v0
        · exact v1
        · exact v2
        · exact v3
        · exact v4⟩
      have hk := keyOf_klR hR
      refine ⟨_, hR, rfl, ?_⟩
      rw [show recV [a0, a1, a2, a3, a4] = .agg #[.int .i64 a0, .int .i64 a1, .int .i64 a2, .int .i64 a3, .int .i64 a4] from rfl, h'] at hk
      exact Option.some.inj hk
    | _ => simp [Value.formed, arrR.hu] at hfm
  · cases h

/-- A value reads as itself. -/
def tokR (v : Value) : Option (DataW Value × List MemPlace) := some (.held v, [])
abbrev nilS : Value := .slice none 0 0
theorem zeroS (w : World) : (zeroValue 29).run Tryz.prog w = .ok nilS w := by kernel_rfl
/-- Block b is a map of at most n entries from records to slices that reads as D. -/
def MapR (w : World) (b n : Nat) (D : DataW Value) : Prop := w.ownsMap Tryz.prog 92 tokR b n D
section
variable (w : World) {ops : Array Oper} {rest : List Oper} {o : Oper} {a : Act} {Q : Exit → Act → World → Prop}
end
end Go.Proofs.YtlecfkfcjhliiaaGreat
namespace Go.Proofs.YtlecfkfcjhliiaaGreat
open Go.RowKit
open Go.Maps (Keyed)

theorem keyS : Keyed Tryz.prog 96 := Keyed.of_law (deep_law (m := 3) (by omega) (by kernel_rfl) (by kernel_rfl) (by kernel_rfl))
theorem typS : Tryz.prog.keyType 96 = true := by kernel_rfl
theorem sizS : Tryz.prog.cellsOf 96 = 6 := by kernel_rfl
/-- The value of the sides of a row: five ints and one. -/
def sidV (r : List Int) : Value := .agg #[.int .i64 (r.getD 0 0), .int .i64 (r.getD 1 0), .int .i64 (r.getD 2 0), .int .i64 (r.getD 3 0), .int .i64 (r.getD 4 0), .int .i64 (r.getD 5 0)]
/-- Six ints. -/
def S6 (r : List Int) : Prop := r.length = 6 ∧ ∀ j, j < 6 → (Lit.int .i64 (r.getD j 0)).wf = true
theorem s6_list {r : List Int} (h : S6 r) : r = [r.getD 0 0, r.getD 1 0, r.getD 2 0, r.getD 3 0, r.getD 4 0, r.getD 5 0] := by
  obtain ⟨h, -⟩ := h
  match r, h with
  | [a, b, c, d, e, f], _ => rfl
theorem sidV_inj {r s : List Int} (hr : S6 r) (hs : S6 s) (h : sidV r = sidV s) : r = s := by
  rw [s6_list hr, s6_list hs]
  unfold sidV at h
  simp only [Value.agg.injEq, Array.mk.injEq, List.cons.injEq, Value.int.injEq, true_and, and_true] at h
  obtain ⟨h0, h1, h2, h3, h4, h5⟩ := h
  rw [h0, h1, h2, h3, h4, h5]
theorem lits_int {m : Nat} {a : Int} (h : (Lit.int .i64 a).wf = true) : Tryz.prog.keyLits (m + 1) 3 [.int .i64 a] = some [.int .i64 a] := by
  unfold Program.keyLits
  simp [Tryz.underlying3, h]
theorem lits_rec {m : Nat} {a0 a1 a2 a3 a4 : Int} (w0 : (Lit.int .i64 a0).wf = true) (w1 : (Lit.int .i64 a1).wf = true) (w2 : (Lit.int .i64 a2).wf = true) (w3 : (Lit.int .i64 a3).wf = true) (w4 : (Lit.int .i64 a4).wf = true) :
    Tryz.prog.keyLits (m + 2) 92 [.int .i64 a0, .int .i64 a1, .int .i64 a2, .int .i64 a3, .int .i64 a4] = some [.int .i64 a0, .int .i64 a1, .int .i64 a2, .int .i64 a3, .int .i64 a4] := by
  unfold Program.keyLits
  simp only [arrR.hu]
  rw [if_pos (by rw [arrR.size]; rfl), show List.range 5 = [0, 1, 2, 3, 4] from rfl, List.mapM_cons, List.mapM_cons, List.mapM_cons, List.mapM_cons, List.mapM_cons, List.mapM_nil]
  simp [arrR.one, lits_int w0, lits_int w1, lits_int w2, lits_int w3, lits_int w4]
theorem sizeT2 : ∃ m, Tryz.prog.types.size = m + 2 := ⟨Tryz.prog.types.size - 2, by kernel_rfl⟩
theorem keyOf_sid {r : List Int} (h : S6 r) : ∃ kl, keyOf Tryz.prog 96 (sidV r) = some kl := by
  obtain ⟨m, hm⟩ := sizeT2
  obtain ⟨-, hw⟩ := h
  have w0 := hw 0 (by omega)
  have w1 := hw 1 (by omega)
  have w2 := hw 2 (by omega)
  have w3 := hw 3 (by omega)
  have w4 := hw 4 (by omega)
  have w5 := hw 5 (by omega)
  refine ⟨.string (keyBytes [.int .i64 (r.getD 0 0), .int .i64 (r.getD 1 0), .int .i64 (r.getD 2 0), .int .i64 (r.getD 3 0), .int .i64 (r.getD 4 0), .int .i64 (r.getD 5 0)]), ?_⟩
  unfold keyOf sidV
  generalize r.getD 0 0 = a0, r.getD 1 0 = a1, r.getD 2 0 = a2, r.getD 3 0 = a3, r.getD 4 0 = a4, r.getD 5 0 = a5 at *
  simp only [Tryz.underlying96]
  rw [if_pos (by simp [typS, Value.formed, Tryz.underlying96, sizS]), hm]
  unfold Program.keyLits
  simp only [Tryz.underlying96, Value.cells]
  rw [if_pos (by rw [sizS]; exact ⟨rfl, by simp⟩)]
  have e5 := @lits_rec (m) a0 a1 a2 a3 a4 w0 w1 w2 w3 w4
  have e1 := @lits_int (m + 1) a5 w5
  simp [arrR.size, arrR.one, e5, e1]
noncomputable def klS (r : List Int) : Lit := Classical.epsilon fun kl => keyOf Tryz.prog 96 (sidV r) = some kl
theorem keyOf_klS {r : List Int} (h : S6 r) : keyOf Tryz.prog 96 (sidV r) = some (klS r) := by
  exact Classical.epsilon_spec (keyOf_sid h)
theorem klS_inj {r s : List Int} (hr : S6 r) (hs : S6 s) (h : klS r = klS s) : r = s := by
  have h1 := keyOf_klS hr
  rw [h] at h1
  exact sidV_inj hr hs (keyS.inj h1 (keyOf_klS hs))
theorem klS_key {r : List Int} (h : S6 r) : WideAt.IsKeyLit (klS r) := keyS.key (keyOf_klS h)
/-- Block b is a map of at most n entries from sides to numbers: f's, 0 where it has none. -/
def MapT (w : World) (b n : Nat) (f : List Int → Nat) : Prop :=
  ∃ D : DataW Unit, w.ownsMap Tryz.prog 96 (plainElem Tryz.prog 3) b n D ∧ ∀ x, S6 x → D.atKey (klS x) (.lit (.int .i64 0)) = .lit (.int .i64 (f x : Int))
/-- The same from records; only those with a number above 0 are there. -/
def MapQ (w : World) (b n : Nat) (f : List Int → Nat) : Prop :=
  ∃ D : DataW Unit, w.ownsMap Tryz.prog 92 (plainElem Tryz.prog 3) b n D ∧ ∀ x, R5 x → Maps.has D (klR x) = decide (f x ≠ 0) ∧ D.atKey (klR x) (.lit (.int .i64 0)) = .lit (.int .i64 (f x : Int))
theorem zeroJ (w : World) : (zeroValue 3).run Tryz.prog w = .ok (.int .i64 0) w := by kernel_rfl
theorem MapT.made (w : World) : MapT (w.alloc (.map #[] 0)) w.heap.size 0 (fun _ => 0) := ⟨.map [], World.ownsMap_made _ _ _ _, fun _ _ => rfl⟩
theorem MapQ.made (w : World) : MapQ (w.alloc (.map #[] 0)) w.heap.size 0 (fun _ => 0) := ⟨.map [], World.ownsMap_made _ _ _ _, fun _ _ => ⟨rfl, rfl⟩⟩
theorem MapT.congr {w : World} {b n : Nat} {f g : List Int → Nat} (h : MapT w b n f) (e : ∀ x, f x = g x) : MapT w b n g := by
  have : f = g := funext e
  exact this ▸ h
theorem MapQ.congr {w : World} {b n : Nat} {f g : List Int → Nat} (h : MapQ w b n f) (e : ∀ x, f x = g x) : MapQ w b n g := by
  have : f = g := funext e
  exact this ▸ h
theorem MapT.lt {w : World} {b n : Nat} {f : List Int → Nat} (h : MapT w b n f) : b < w.heap.size := by
  obtain ⟨D, h1, -⟩ := h; exact h1.lt
theorem MapQ.lt {w : World} {b n : Nat} {f : List Int → Nat} (h : MapQ w b n f) : b < w.heap.size := by
  obtain ⟨D, h1, -⟩ := h; exact h1.lt
theorem MapT.kept {w w' : World} {b n : Nat} {f : List Int → Nat} {row : Option Nat} (h : MapT w b n f) (hg : w.grownBy w' row) (hne : some b ≠ row) : MapT w' b n f := by
  obtain ⟨D, h1, h2⟩ := h; exact ⟨D, h1.kept hg hne, h2⟩
theorem MapQ.kept {w w' : World} {b n : Nat} {f : List Int → Nat} {row : Option Nat} (h : MapQ w b n f) (hg : w.grownBy w' row) (hne : some b ≠ row) : MapQ w' b n f := by
  obtain ⟨D, h1, h2⟩ := h; exact ⟨D, h1.kept hg hne, h2⟩
theorem MapT.below {w w' : World} {b n C : Nat} {f : List Int → Nat} (h : MapT w b n f) (hb : Below C w w') (hC : b < C) : MapT w' b n f := by
  obtain ⟨D, h1, h2⟩ := h
  obtain ⟨es, clock, h3, r⟩ := h1
  exact ⟨D, ⟨es, clock, (hb.block b hC).trans h3, r⟩, h2⟩
theorem MapQ.below {w w' : World} {b n C : Nat} {f : List Int → Nat} (h : MapQ w b n f) (hb : Below C w w') (hC : b < C) : MapQ w' b n f := by
  obtain ⟨D, h1, h2⟩ := h
  obtain ⟨es, clock, h3, r⟩ := h1
  exact ⟨D, ⟨es, clock, (hb.block b hC).trans h3, r⟩, h2⟩
/-- The two maps are two blocks. -/
theorem MapT.store {w' : World} {b n : Nat} {f : List Int → Nat} {D : DataW Unit} {r : List Int} {c : Nat} (h : w'.ownsMap Tryz.prog 96 (plainElem Tryz.prog 3) b (n + 1) (D.put (klS r) (.lit (.int .i64 (c : Int))))) (hr : S6 r) (hD : Maps.IsMap D)
    (h2 : ∀ x, S6 x → D.atKey (klS x) (.lit (.int .i64 0)) = .lit (.int .i64 (f x : Int))) : MapT w' b (n + 1) (fun x => if x = r then c else f x) := by
  refine ⟨_, h, fun x hx => ?_⟩
  by_cases hxr : x = r
  · subst hxr
    have hkk := @klS_key x hr
    rw [Go.Maps.atKey_put_same (k := klS x) hD hkk]; simp
  · rw [Go.Maps.atKey_put_other (fun e => hxr (klS_inj hx hr e))]
    simpa only [if_neg hxr] using h2 x hx
theorem MapQ.store {w' : World} {b n : Nat} {f : List Int → Nat} {D : DataW Unit} {r : List Int} {c : Nat} (h : w'.ownsMap Tryz.prog 92 (plainElem Tryz.prog 3) b (n + 1) (D.put (klR r) (.lit (.int .i64 (c : Int))))) (hr : R5 r) (hD : Maps.IsMap D) (hc : c ≠ 0)
    (h2 : ∀ x, R5 x → Maps.has D (klR x) = decide (f x ≠ 0) ∧ D.atKey (klR x) (.lit (.int .i64 0)) = .lit (.int .i64 (f x : Int))) : MapQ w' b (n + 1) (fun x => if x = r then c else f x) := by
  refine ⟨_, h, fun x hx => ?_⟩
  by_cases hxr : x = r
  · subst hxr
    have hkk := @klR_key x hr
    rw [Go.Maps.has_put_same (k := klR x) hD hkk, Go.Maps.atKey_put_same (k := klR x) hD hkk]
    simp [hc]
  · rw [Go.Maps.has_put_other (fun e => hxr (klR_inj hx hr e)), Go.Maps.atKey_put_other (fun e => hxr (klR_inj hx hr e))]
    simpa only [if_neg hxr] using h2 x hx
section
variable (w : World) {ops : Array Oper} {rest : List Oper} {o : Oper} {a : Act} {Q : Exit → Act → World → Prop}
theorem mapT_look (hg : o.guard = none) (m x : Operand) (hop : o.op = Op.lookup 98 m x false) (b n : Nat) (f : List Int → Nat) (hm : a.eval m = .map (some b)) (h : MapT w b n f) (r : List Int) (hr : S6 r) (hx : a.eval x = sidV r)
    (hK : wpList Tryz.prog ops Q rest (a.put o.dst (.int .i64 (f r : Int))) w) : wpList Tryz.prog ops Q (o :: rest) a w := by
  obtain ⟨D, h1, h2⟩ := h
  refine wpList_lookup_own_int w hg m x 98 hop 96 3 .i64 keyS Tryz.underlying98 Tryz.underlying3 (zeroJ w) b n D hm h1 _ (klS r) hx (keyOf_klS hr) (fun c hc _ => ?_)
  rw [h2 r hr] at hc
  cases hc
  exact hK
theorem mapQ_look (hg : o.guard = none) (m x : Operand) (hop : o.op = Op.lookup 99 m x false) (b n : Nat) (f : List Int → Nat) (hm : a.eval m = .map (some b)) (h : MapQ w b n f) (r : List Int) (hr : R5 r) (hx : a.eval x = recV r)
    (hK : wpList Tryz.prog ops Q rest (a.put o.dst (.int .i64 (f r : Int))) w) : wpList Tryz.prog ops Q (o :: rest) a w := by
  obtain ⟨D, h1, h2⟩ := h
  refine wpList_lookup_own_int w hg m x 99 hop 92 3 .i64 keyR Tryz.underlying99 Tryz.underlying3 (zeroJ w) b n D hm h1 _ (klR r) hx (keyOf_klR hr) (fun c hc _ => ?_)
  rw [(h2 r hr).2] at hc
  cases hc
  exact hK
theorem mapQ_store (hg : o.guard = none) (m x v : Operand) (hop : o.op = Op.mapUpdate 99 m x v) (b n : Nat) (f : List Int → Nat) (hm : a.eval m = .map (some b)) (h : MapQ w b n f) (hn : n < maxLen) (r : List Int) (hr : R5 r) (c : Nat) (hc : c ≠ 0) (hx : a.eval x = recV r) (hv : a.eval v = .int .i64 (c : Int)) (hwc : (Lit.int .i64 (c : Int)).wf = true)
    (hK : ∀ w', MapQ w' b (n + 1) (fun x => if x = r then c else f x) → w.grownBy w' (some b) → wpList Tryz.prog ops Q rest (a.put o.dst undef) w') : wpList Tryz.prog ops Q (o :: rest) a w := by
  obtain ⟨D, h1, h2⟩ := h
  exact wpList_mapUpdate_own w hg m x v 99 hop 92 3 keyR Tryz.underlying99 _ b n D hm h1 hn _ _ (klR r) hx hv (keyOf_klR hr) _ [] (plainElem_int Tryz.underlying3 hwc) (fun w' hown hgr => hK w' (MapQ.store hown hr h1.isMap hc h2) hgr)
theorem mapT_store (hg : o.guard = none) (m x v : Operand) (hop : o.op = Op.mapUpdate 98 m x v) (b n : Nat) (f : List Int → Nat) (hm : a.eval m = .map (some b)) (h : MapT w b n f) (hn : n < maxLen) (r : List Int) (hr : S6 r) (c : Nat) (hx : a.eval x = sidV r) (hv : a.eval v = .int .i64 (c : Int)) (hwc : (Lit.int .i64 (c : Int)).wf = true)
    (hK : ∀ w', MapT w' b (n + 1) (fun x => if x = r then c else f x) → w.grownBy w' (some b) → wpList Tryz.prog ops Q rest (a.put o.dst undef) w') : wpList Tryz.prog ops Q (o :: rest) a w := by
  obtain ⟨D, h1, h2⟩ := h
  exact wpList_mapUpdate_own w hg m x v 98 hop 96 3 keyS Tryz.underlying98 _ b n D hm h1 hn _ _ (klS r) hx hv (keyOf_klS hr) _ [] (plainElem_int Tryz.underlying3 hwc) (fun w' hown hgr => hK w' (MapT.store hown hr h1.isMap h2) hgr)
end
end Go.Proofs.YtlecfkfcjhliiaaGreat
