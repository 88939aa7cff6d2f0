/- Texts of this claim, merged: PcB, ImJ, Fam, ImK. Conditions: as stated. -/
import Derived.Test.YtpnapdhcdhcacaaXa13
import Derived.Test.YtpnapdhcdhcacaaXa12
import Derived.Test.YtpnapdhcdhcacaaXa26
import Derived.Test.YtpnapdhcdhcacaaXa17
import Derived.Test.YtpnapdhcdhcacaaXa3
import Derived.Test.YtpnapdhcdhcacaaXa23
import Derived.Laws.CopyOwn
import Derived.Laws.ResultCell
import Derived.Test.YtpnapdhcdhcacaaXa8
namespace Go.Proofs.Ytpnapdhcdhcacaa
open Go.RowKit

section
set_option maxRecDepth 20000
set_option maxHeartbeats 3200000
theorem partP_sub {L X : Nat} (hL : L < 32) (hX : X < 32) (w : World) : Calls Try.prog 87 #[.int .i64 (L : Int), .int .i64 (X : Int)] w fun e w' => e = .returned (.bool (subN L X)) ∧ w = w' := by
  have h := partOf_any (L : Int) (X : Int) w
  rw [partZ_eq (L : Int) (X : Int) (by omega) (by omega), sub_and ⟨L, hL⟩ ⟨X, hX⟩] at h
  exact h
theorem applies10_any (L X : Nat) (r : Int) (hL : L < 32) (hX : X < 32) (w : World) :
    Calls Try.prog 92 #[.agg #[.int .i64 (L : Int), .int .i64 r], .int .i64 (X : Int)] w fun e w' => e = .returned (.bool (subN L X)) ∧ Below w.heap.size w w' := by
  have HB := Lib.hid ((Below.refl w.heap.size w).alloc (Nat.le_refl _) (.cells #[.int .i64 (L : Int), .int .i64 r] 39))
  obtain ⟨c0, c1⟩ := zero2 w 39 (.int .i64 (L : Int)) (.int .i64 r)
  have HP := Lib.hid (fun w' => partP_sub hL hX w')
  clear hL hX
  go_enter Try.func92, Try.ntmps92
  go_wp2_with fail
  refine (HP.out _).mono ?_
  rintro e w' ⟨rfl, rfl⟩
  go_wp2_with fail
  go_ret
  exact ⟨rfl, HB.out⟩
theorem added10_any (X R : Nat) (l : Int) (hX : X < 32) (hR : R < 5) (w : World) :
    Calls Try.prog 97 #[.agg #[.int .i64 l, .int .i64 (R : Int)], .int .i64 (X : Int)] w fun e w' => e = .returned (.int .i64 (orN X R : Int)) ∧ Below w.heap.size w w' := by
  have HB := Lib.hid ((Below.refl w.heap.size w).alloc (Nat.le_refl _) (.cells #[.int .i64 l, .int .i64 (R : Int)] 39))
  obtain ⟨c0, c1⟩ := zero2 w 39 (.int .i64 l) (.int .i64 (R : Int))
  have HOW : Hid (bits .or .i64 (X : Int) (wrap64 (2 ^ R)) = (orN X R : Int)) := Lib.hid (or_w ⟨X, hX⟩ ⟨R, hR⟩)
  have zR : (0 : Int) ≤ (R : Int) := by omega
  clear hX
  go_enter Try.func97, Try.ntmps97
  go_wp2_with fail
  go_ret
  exact ⟨ret_int HOW.out, HB.out⟩
theorem outside10_any (n l r : Int) (_w1 : (Lit.int .i64 l).wf = true) (w : World) :
    Calls Try.prog 67 #[.agg #[.int .i64 l, .int .i64 r], .int .i64 n] w fun e w' => e = .returned (.bool (!depB n l r)) ∧ Below w.heap.size w w' := by
  have HB := Lib.hid ((Below.refl w.heap.size w).alloc (Nat.le_refl _) (.cells #[.int .i64 l, .int .i64 r] 39))
  obtain ⟨c0, c1⟩ := zero2 w 39 (.int .i64 l) (.int .i64 r)
  have HP := Lib.hid (fun w' => implIsDep_all n l r _w1 w')
  go_enter Try.func67, Try.ntmps67
  go_wp2_with fail
  refine (HP.out _).mono ?_
  rintro e w2 ⟨rfl, b2⟩
  have hb2 := HB.out.trans (b2.mono HB.out.size)
  clear b2 c0 c1
  go_wp2_with fail
  go_ret
  exact ⟨rfl, hb2⟩
theorem enlarges10_any (L R X : Nat) (hL : L < 32) (hR : R < 5) (hX : X < 32) (w : World) :
    Calls Try.prog 65 #[.agg #[.int .i64 (L : Int), .int .i64 (R : Int)], .int .i64 (X : Int)] w fun e w' => e = .returned (.bool (subN L X && !bitB X R)) ∧ Below w.heap.size w w' := by
  have hb1 := (Below.refl w.heap.size w).alloc (Nat.le_refl _) (.cells #[.int .i64 (L : Int), .int .i64 (R : Int)] 39)
  have HB := Lib.hid hb1
  obtain ⟨c0, c1⟩ := zero2 w 39 (.int .i64 (L : Int)) (.int .i64 (R : Int))
  have HC := Lib.hid (And.intro c0 c1)
  have HP := Lib.hid (fun w' => applies10_any L X (R : Int) hL hX w')
  have HH := Lib.hid (fun w' => has_any X R (by omega) w')
  clear hb1 hL hX hR
  cases hs : subN L X with
  | false =>
    rw [hs] at HP
    clear hs
    go_enter Try.func65, Try.ntmps65
    go_wp2_with fail
    refine (HP.out _).mono ?_
    rintro e w2 ⟨rfl, b2⟩
    have hb2 := HB.out.trans (b2.mono HB.out.size)
    clear b2 c0 c1
    go_wp2_with fail
    go_ret
    exact ⟨rfl, hb2⟩
  | true =>
    rw [hs] at HP
    clear hs
    go_enter Try.func65, Try.ntmps65
    go_wp2_with fail
    refine (HP.out _).mono ?_
    rintro e w2 ⟨rfl, b2⟩
    have d0 := keep_in HC.out.1 b2
    have d1 := keep_in HC.out.2 b2
    have hb2 := HB.out.trans (b2.mono HB.out.size)
    clear b2 c0 c1
    go_wp2_with fail
    refine (HH.out _).mono ?_
    rintro e w3 ⟨rfl, rfl⟩
    go_wp2_with fail
    go_ret
    exact ⟨ret_b (by rw [Bool.true_and]), hb2⟩
/-- The index of the first element with a property, or -1. -/
def ixZ {α : Type} (p : α → Bool) (l : List α) : Int := if l.findIdx p < l.length then (l.findIdx p : Int) else -1
theorem ixZ_at {p : Int × Int → Bool} {l : List (Int × Int)} {i : Nat} (hi : i < l.length) (h : p (l.getD i (0, 0)) = true) (hn : ∀ j, j < i → p (l.getD j (0, 0)) = false) : ixZ p l = (i : Int) := by
  have hg : ∀ j (hj : j < l.length), l.getD j (0, 0) = l[j] := fun j hj => by rw [List.getD_eq_getElem?_getD, List.getElem?_eq_getElem hj]; rfl
  have e : l.findIdx p = i := by
    rw [List.findIdx_eq hi]
    refine ⟨by rw [← hg i hi]; exact h, fun j hj => ?_⟩
    rw [← hg j (by omega)]; exact hn j hj
  unfold ixZ
  rw [e, if_pos hi]
theorem ixZ_none {p : Int × Int → Bool} {l : List (Int × Int)} (hn : ∀ j, j < l.length → p (l.getD j (0, 0)) = false) : ixZ p l = -1 := by
  unfold ixZ
  rw [if_neg]
  intro h
  have h1 := List.findIdx_getElem (w := h)
  have h2 := hn _ h
  rw [List.getD_eq_getElem?_getD, List.getElem?_eq_getElem h] at h2
  have : p l[l.findIdx p] = false := h2
  rw [this] at h1
  cases h1
theorem ixZ_neg {p : Int × Int → Bool} {l : List (Int × Int)} : decide (ixZ p l < 0) = l.all (fun d => !p d) := by
  unfold ixZ
  split
  · rename_i h
    have h1 := List.findIdx_getElem (w := h)
    have e : l.all (fun d => !p d) = false := by
      rw [List.all_eq_false]
      exact ⟨_, List.getElem_mem h, by rw [h1]; decide⟩
    rw [e]
    exact decide_eq_false (by omega)
  · rename_i h
    have e : l.all (fun d => !p d) = true := by
      rw [List.all_eq_true]
      intro d hd
      cases hp : p d with
      | false => rfl
      | true => exact absurd (List.findIdx_lt_length_of_exists ⟨d, hd, hp⟩) h
    rw [e]
    exact decide_eq_true (by omega)
theorem index_out (v c1 c2 : Value) (p : Int × Int → Bool) (l : List (Int × Int)) (w : World) (hr : ReadD w v l) (hl : l.length ≤ 1048576)
    (HP : ∀ x, x ∈ l → ∀ w', Below w.heap.size w w' → Calls Try.prog 93 #[.agg #[.int .i64 x.1, .int .i64 x.2], c1, c2] w' fun e w'' => e = .returned (.bool (p x)) ∧ Below w'.heap.size w' w'') :
    Calls Try.prog 83 #[v, .func (.func 93) #[] #[c1, c2]] w fun e w' => e = .returned (.int .i64 (ixZ p l)) ∧ Below w.heap.size w w' := by
  have HQ := Lib.hid HP
  obtain ⟨a, cap, rfl, ha⟩ := hr
  have HA := Lib.hid ha
  clear ha HP
  go_enter Try.func83, Try.ntmps83
  go_wp2_with fail
  go_loopw [8] (fun iv wr => ∃ (k : Nat), k ≤ l.length ∧ iv = .int .i64 (k : Int) ∧ Hid (∀ j, j < k → p (l.getD j (0, 0)) = false) ∧ Below w.heap.size w wr) (fun iv _ => l.length - (intOf iv).toNat)
  case atStart => exact ⟨0, by omega, rfl, Lib.hid (fun j hj => absurd hj (by omega)), Below.refl _ _⟩
  case round =>
    obtain ⟨k, hk, rfl, hno, hb⟩ := hrel
    by_cases hlt : k < l.length
    · obtain ⟨b, o, rfl, h0, h1⟩ := HA.out k hlt
      replace h0 := (hb.cell (World.block_lt_of_cell? w _ h0)).trans h0
      replace h1 := (hb.cell (World.block_lt_of_cell? w _ h1)).trans h1
      have hm : l.getD k (0, 0) ∈ l := by rw [List.getD_eq_getElem?_getD, List.getElem?_eq_getElem hlt]; exact List.getElem_mem hlt
      obtain ⟨⟨y0, y1⟩, hy⟩ : ∃ y, y = l.getD k (0, 0) := ⟨_, rfl⟩
      have HNO : Hid (p (y0, y1) = false → ∀ j, j < k + 1 → p (l.getD j (0, 0)) = false) := Lib.hid (fun h j hj => by
        by_cases e : j = k
        · subst e; rw [← hy]; exact h
        · exact hno.out j (by omega))
      have HYE : Hid (p (y0, y1) = true → ixZ p l = (k : Int)) := Lib.hid (fun h => ixZ_at hlt (by rw [← hy]; exact h) hno.out)
      rw [← hy] at h0 h1 hm
      simp only at h0 h1
      have HC := Lib.hid (HQ.out (y0, y1) hm)
      have HB := Lib.hid hb
      clear hy hm hb
      have z0 : (0 : Int) ≤ (k : Int) := by omega
      have z1 : (k : Int) < (l.length : Int) := by omega
      cases hp : p (y0, y1) with
      | true =>
        have HE := Lib.hid (HYE.out hp)
        rw [hp] at HC
        clear hp
        go_wp2_with fail
        refine (HC.out _ HB.out).mono ?_
        rintro e w1 ⟨rfl, b1⟩
        have hb1 := HB.out.trans (b1.mono HB.out.size)
        clear b1 h0 h1
        go_wp2_with fail
        go_ret
        exact ⟨ret_int HE.out.symm, hb1⟩
      | false =>
        have HE := Lib.hid (HNO.out hp)
        rw [hp] at HC
        clear hp
        go_wp2_with fail
        refine (HC.out _ HB.out).mono ?_
        rintro e w1 ⟨rfl, b1⟩
        have hb1 := HB.out.trans (b1.mono HB.out.size)
        clear b1 h0 h1
        go_wp2_with fail
        go_roundw
        case rel => exact ⟨k + 1, by omega, by go_num, HE, hb1⟩
        case measure => simp [intOf]; omega
    · obtain rfl : k = l.length := by omega
      have HE := Lib.hid (ixZ_none hno.out)
      go_wp2_with fail
      go_ret
      exact ⟨ret_int HE.out.symm, hb⟩
theorem index_enl (v c1 c2 : Value) (p : Int × Int → Bool) (l : List (Int × Int)) (w : World) (hr : ReadD w v l) (hl : l.length ≤ 1048576)
    (HP : ∀ x, x ∈ l → ∀ w', Below w.heap.size w w' → Calls Try.prog 94 #[.agg #[.int .i64 x.1, .int .i64 x.2], c1, c2] w' fun e w'' => e = .returned (.bool (p x)) ∧ Below w'.heap.size w' w'') :
    Calls Try.prog 83 #[v, .func (.func 94) #[] #[c1, c2]] w fun e w' => e = .returned (.int .i64 (ixZ p l)) ∧ Below w.heap.size w w' := by
  have HQ := Lib.hid HP
  obtain ⟨a, cap, rfl, ha⟩ := hr
  have HA := Lib.hid ha
  clear ha HP
  go_enter Try.func83, Try.ntmps83
  go_wp2_with fail
  go_loopw [8] (fun iv wr => ∃ (k : Nat), k ≤ l.length ∧ iv = .int .i64 (k : Int) ∧ Hid (∀ j, j < k → p (l.getD j (0, 0)) = false) ∧ Below w.heap.size w wr) (fun iv _ => l.length - (intOf iv).toNat)
  case atStart => exact ⟨0, by omega, rfl, Lib.hid (fun j hj => absurd hj (by omega)), Below.refl _ _⟩
  case round =>
    obtain ⟨k, hk, rfl, hno, hb⟩ := hrel
    by_cases hlt : k < l.length
    · obtain ⟨b, o, rfl, h0, h1⟩ := HA.out k hlt
      replace h0 := (hb.cell (World.block_lt_of_cell? w _ h0)).trans h0
      replace h1 := (hb.cell (World.block_lt_of_cell? w _ h1)).trans h1
      have hm : l.getD k (0, 0) ∈ l := by rw [List.getD_eq_getElem?_getD, List.getElem?_eq_getElem hlt]; exact List.getElem_mem hlt
      obtain ⟨⟨y0, y1⟩, hy⟩ : ∃ y, y = l.getD k (0, 0) := ⟨_, rfl⟩
      have HNO : Hid (p (y0, y1) = false → ∀ j, j < k + 1 → p (l.getD j (0, 0)) = false) := Lib.hid (fun h j hj => by
        by_cases e : j = k
        · subst e; rw [← hy]; exact h
        · exact hno.out j (by omega))
      have HYE : Hid (p (y0, y1) = true → ixZ p l = (k : Int)) := Lib.hid (fun h => ixZ_at hlt (by rw [← hy]; exact h) hno.out)
      rw [← hy] at h0 h1 hm
      simp only at h0 h1
      have HC := Lib.hid (HQ.out (y0, y1) hm)
      have HB := Lib.hid hb
      clear hy hm hb
      have z0 : (0 : Int) ≤ (k : Int) := by omega
      have z1 : (k : Int) < (l.length : Int) := by omega
      cases hp : p (y0, y1) with
      | true =>
        have HE := Lib.hid (HYE.out hp)
        rw [hp] at HC
        clear hp
        go_wp2_with fail
        refine (HC.out _ HB.out).mono ?_
        rintro e w1 ⟨rfl, b1⟩
        have hb1 := HB.out.trans (b1.mono HB.out.size)
        clear b1 h0 h1
        go_wp2_with fail
        go_ret
        exact ⟨ret_int HE.out.symm, hb1⟩
      | false =>
        have HE := Lib.hid (HNO.out hp)
        rw [hp] at HC
        clear hp
        go_wp2_with fail
        refine (HC.out _ HB.out).mono ?_
        rintro e w1 ⟨rfl, b1⟩
        have hb1 := HB.out.trans (b1.mono HB.out.size)
        clear b1 h0 h1
        go_wp2_with fail
        go_roundw
        case rel => exact ⟨k + 1, by omega, by go_num, HE, hb1⟩
        case measure => simp [intOf]; omega
    · obtain rfl : k = l.length := by omega
      have HE := Lib.hid (ixZ_none hno.out)
      go_wp2_with fail
      go_ret
      exact ⟨ret_int HE.out.symm, hb⟩
theorem outFun_any (n l r : Int) (_w1 : (Lit.int .i64 l).wf = true) (bf bv : Nat) (w : World) (hf : w.cell? ⟨bf, 0, none⟩ = some (.func (.func 67) #[] #[])) (hv : w.cell? ⟨bv, 0, none⟩ = some (.int .i64 n)) :
    Calls Try.prog 93 #[.agg #[.int .i64 l, .int .i64 r], .pointer (some ⟨bf, 0, none⟩), .pointer (some ⟨bv, 0, none⟩)] w fun e w' => e = .returned (.bool (!depB n l r)) ∧ Below w.heap.size w w' := by
  have hb1 := (Below.refl w.heap.size w).alloc (Nat.le_refl _) (.cells #[.int .i64 l, .int .i64 r] 39)
  have HB := Lib.hid hb1
  obtain ⟨c0, c1⟩ := zero2 w 39 (.int .i64 l) (.int .i64 r)
  replace hf := keep_in hf hb1
  replace hv := keep_in hv hb1
  have HC := Lib.hid (fun w' => outside10_any n l r _w1 w')
  clear hb1
  go_enter Try.func93, Try.ntmps93
  go_wp2_with fail
  refine (HC.out _).mono ?_
  rintro e w2 ⟨rfl, b2⟩
  have hb2 := HB.out.trans (b2.mono HB.out.size)
  clear b2 c0 c1 hf hv
  go_wp2_with fail
  go_ret
  exact ⟨rfl, hb2⟩
theorem two_boxes {w : World} {T T' : TypeId} {a b : Value} : ((w.alloc (.cells #[a] T)).alloc (.cells #[b] T')).cell? ⟨w.heap.size, 0, none⟩ = some a ∧ ((w.alloc (.cells #[a] T)).alloc (.cells #[b] T')).cell? ⟨w.heap.size + 1, 0, none⟩ = some b := by
  have hb2 := (Below.refl (w.alloc (.cells #[a] T)).heap.size (w.alloc (.cells #[a] T))).alloc (Nat.le_refl _) (.cells #[b] T')
  have hm := one_at (w.alloc (.cells #[a] T)) T' b
  rw [World.size_alloc] at hm
  exact ⟨keep_in (one_at w T a) hb2, hm⟩
theorem firstOut_any (v : Value) (n : Int) (l : List (Int × Int)) (bd : ∀ d ∈ l, (Lit.int .i64 d.1).wf = true ∧ (Lit.int .i64 d.2).wf = true) (w : World) (hr : ReadD w v l) (hl : l.length ≤ 1048576) :
    Calls Try.prog 66 #[v, .int .i64 n, .func (.func 67) #[] #[]] w fun e w' => e = .returned (.int .i64 (ixZ (fun d => !depB n d.1 d.2) l)) ∧ Below w.heap.size w w' := by
  have hb2 := ((Below.refl w.heap.size w).alloc (Nat.le_refl _) (.cells #[.int .i64 n] 3)).alloc (by simp) (.cells #[.func (.func 67) #[] #[]] 81)
  obtain ⟨c0, c1⟩ := two_boxes (w := w) (T := 3) (T' := 81) (a := .int .i64 n) (b := .func (.func 67) #[] #[])
  have HI := Lib.hid (index_out v (.pointer (some ⟨w.heap.size + 1, 0, none⟩)) (.pointer (some ⟨w.heap.size, 0, none⟩)) (fun d => !depB n d.1 d.2) l _ (hr.kept hb2) hl (fun x hx w' hb => outFun_any n x.1 x.2 (bd x hx).1 (w.heap.size + 1) w.heap.size w' (keep_in c1 hb) (keep_in c0 hb)))
  have HB := Lib.hid hb2
  obtain ⟨a, cap, rfl, -⟩ := hr
  clear hb2 c0 c1 bd
  go_enter Try.func66, Try.ntmps66
  go_wp2_with fail
  refine HI.out.mono ?_
  rintro e w2 ⟨rfl, b2⟩
  have hb2 := HB.out.trans (b2.mono HB.out.size)
  clear b2
  go_wp2_with fail
  go_ret
  exact ⟨rfl, hb2⟩
theorem enlFun_any (L R X : Nat) (hL : L < 32) (hR : R < 5) (hX : X < 32) (bf bv : Nat) (w : World) (hf : w.cell? ⟨bf, 0, none⟩ = some (.func (.func 65) #[] #[])) (hv : w.cell? ⟨bv, 0, none⟩ = some (.int .i64 (X : Int))) :
    Calls Try.prog 94 #[.agg #[.int .i64 (L : Int), .int .i64 (R : Int)], .pointer (some ⟨bf, 0, none⟩), .pointer (some ⟨bv, 0, none⟩)] w fun e w' => e = .returned (.bool (subN L X && !bitB X R)) ∧ Below w.heap.size w w' := by
  have hb1 := (Below.refl w.heap.size w).alloc (Nat.le_refl _) (.cells #[.int .i64 (L : Int), .int .i64 (R : Int)] 39)
  have HB := Lib.hid hb1
  obtain ⟨c0, c1⟩ := zero2 w 39 (.int .i64 (L : Int)) (.int .i64 (R : Int))
  replace hf := keep_in hf hb1
  replace hv := keep_in hv hb1
  have HC := Lib.hid (fun w' => enlarges10_any L R X hL hR hX w')
  clear hb1
  go_enter Try.func94, Try.ntmps94
  go_wp2_with fail
  refine (HC.out _).mono ?_
  rintro e w2 ⟨rfl, b2⟩
  have hb2 := HB.out.trans (b2.mono HB.out.size)
  clear b2 c0 c1 hf hv
  go_wp2_with fail
  go_ret
  exact ⟨rfl, hb2⟩
theorem firstEnl_any (C : Nat) (hC : C ≤ 5) (v : Value) (l : List (Int × Int)) (hd : DepsN C l) (X : Nat) (hX : X < 32) (w : World) (hr : ReadD w v l) (hl : l.length ≤ 1048576) :
    Calls Try.prog 69 #[v, .int .i64 (X : Int), .func (.func 65) #[] #[]] w fun e w' => e = .returned (.int .i64 (ixZ (fun d : Int × Int => subN d.1.toNat X && !bitB X d.2.toNat) l)) ∧ Below w.heap.size w w' := by
  have hb2 := ((Below.refl w.heap.size w).alloc (Nat.le_refl _) (.cells #[.int .i64 (X : Int)] 63)).alloc (by simp) (.cells #[.func (.func 65) #[] #[]] 84)
  obtain ⟨c0, c1⟩ := two_boxes (w := w) (T := 63) (T' := 84) (a := .int .i64 (X : Int)) (b := .func (.func 65) #[] #[])
  have HI := Lib.hid (index_enl v (.pointer (some ⟨w.heap.size + 1, 0, none⟩)) (.pointer (some ⟨w.heap.size, 0, none⟩)) (fun d : Int × Int => subN d.1.toNat X && !bitB X d.2.toNat) l _ (hr.kept hb2) hl (fun x hx w' hb => by
    obtain ⟨L, R, rfl, hL, hR⟩ := hd x hx
    have h32 := two5 hC
    exact enlFun_any L R X (by omega) (by omega) hX (w.heap.size + 1) w.heap.size w' (keep_in c1 hb) (keep_in c0 hb)))
  have HB := Lib.hid hb2
  obtain ⟨a, cap, rfl, -⟩ := hr
  clear hb2 c0 c1 hd
  go_enter Try.func69, Try.ntmps69
  go_wp2_with fail
  refine HI.out.mono ?_
  rintro e w2 ⟨rfl, b2⟩
  have hb2 := HB.out.trans (b2.mono HB.out.size)
  clear b2
  go_wp2_with fail
  go_ret
  exact ⟨rfl, hb2⟩
end
end Go.Proofs.Ytpnapdhcdhcacaa
namespace Go.Proofs.Ytpnapdhcdhcacaa
open Go.RowKit

/-- The marks of a family. -/
def famC (f : Nat → Bool) : Array Value := ((List.range 32).map (fun i => Value.bool (f i))).toArray
theorem famC_size (f : Nat → Bool) : (famC f).size = 32 := by simp [famC]
theorem famC_get (f : Nat → Bool) (i : Nat) (h : i < 32) : (famC f)[i]? = some (.bool (f i)) := by
  simp [famC, h]
theorem famC_none : famC (fun _ => false) = Array.replicate 32 (.bool false) := by rfl
theorem famC_set (f : Nat → Bool) (i : Nat) (b : Bool) : (famC f).setIfInBounds i (.bool b) = famC (fun j => if j = i then b else f j) := by
  apply Array.ext_getElem?
  intro k
  rw [Array.getElem?_setIfInBounds]
  by_cases hk : k < 32
  · rw [famC_get _ k hk, famC_get _ k hk, famC_size]
    by_cases h : i = k
    · subst h; simp [hk]
    · have h' : ¬ k = i := fun e => h e.symm
      simp [h, h']
  · have e1 : (famC f)[k]? = none := by rw [Array.getElem?_eq_none]; rw [famC_size]; omega
    have e2 : (famC fun j => if j = i then b else f j)[k]? = none := by rw [Array.getElem?_eq_none]; rw [famC_size]; omega
    rw [e1, e2, famC_size]
    by_cases h : i = k
    · subst h; simp [hk]
    · simp [h]
theorem famC_congr {f g : Nat → Bool} (h : ∀ i, i < 32 → f i = g i) : famC f = famC g := by
  unfold famC
  congr 1
  apply List.map_congr_left
  intro i hi
  rw [h i (List.mem_range.mp hi)]
theorem famC_one (f : Nat → Bool) : (famC f).all (·.oneCell') = true := by
  simp [famC, Value.oneCell']
/-- The sets of a family in ascending order, those below n. -/
def lstTo (f : Nat → Bool) : Nat → List Int
  | 0 => []
  | n + 1 => if f n = true then lstTo f n ++ [(n : Int)] else lstTo f n
def lstF (f : Nat → Bool) : List Int := lstTo f 32
theorem lstTo_len (f : Nat → Bool) (n : Nat) : (lstTo f n).length ≤ n := by
  induction n with
  | zero => simp [lstTo]
  | succ n ih =>
    unfold lstTo
    split
    · simp; omega
    · omega
theorem boolOne (w : World) : (sizeOf 4).run Try.prog w = .ok 1 w := by
  have h : (Try.prog.info? 4).map (·.size) = some 1 := by kernel_rfl
  cases hq : Try.prog.info? 4 with
  | none => simp [hq] at h
  | some i => simp only [hq, Option.map_some, Option.some.injEq] at h; simp [sizeOf, typeInfo, hq, h]
end Go.Proofs.Ytpnapdhcdhcacaa
namespace Go.Proofs.Ytpnapdhcdhcacaa
open Go.RowKit

def noF : Nat → Bool := fun _ => false
end Go.Proofs.Ytpnapdhcdhcacaa
namespace Go.Proofs.Ytpnapdhcdhcacaa
open Go.RowKit

/-- The family of a list's elements. -/
def memF (l : List Int) : Nat → Bool := fun j => decide ((j : Int) ∈ l)
theorem memF_nil : memF [] = noF := by funext j; simp [memF, noF]
theorem memF_snoc (l : List Int) (X : Nat) : memF (l ++ [(X : Int)]) = fun j => if j = X then true else memF l j := by
  funext j
  unfold memF
  by_cases h : j = X
  · subst h; simp
  · have h' : ¬ (j : Int) = (X : Int) := by omega
    simp [h, h']
/-- Every element is an integer that a slice of int may hold. -/
def I64s (l : List Int) : Prop := ∀ x ∈ l, -9223372036854775808 ≤ x ∧ x ≤ 9223372036854775807
def famOf (l : List Int) : Nat → Bool := if setsOk l = true then memF l else noF
theorem valB_nat {x : Int} (h : valB x = true) : ∃ X : Nat, x = (X : Int) ∧ X < 32 := by
  have : 0 ≤ x ∧ x ≤ 31 := by simpa [valB] using h
  exact ⟨x.toNat, by omega, by omega⟩

end Go.Proofs.Ytpnapdhcdhcacaa
