/- Texts of this claim, merged: DdA, PcB. Conditions: as stated. -/
import Derived.Test.YtcgkfbjdlhapkaaYa26
import Derived.Test.YtcgkfbjdlhapkaaYa13
import Derived.Test.YtcgkfbjdlhapkaaYa12
import Derived.Test.YtcgkfbjdlhapkaaYa15
namespace Go.Proofs.Ytcgkfbjdlhapkaa
open Go.RowKit

theorem isA_cols {n x : Int} (h : isA n x = true) : 0 ≤ n ∧ n ≤ 5 := by unfold isA at h; rw [decide_eq_true_iff] at h; exact h.1
theorem depB_eq (n l r : Int) : depB n l r = (isA n l && (decide (0 ≤ r) && decide (r < n))) := by
  rw [Bool.eq_iff_iff, depB_iff, Bool.and_eq_true, Bool.and_eq_true, decide_eq_true_iff, decide_eq_true_iff]
  constructor
  · rintro ⟨h1, h2, h3, h4⟩; exact ⟨h2, h3, by omega⟩
  · rintro ⟨h1, h2, h3⟩
    have hn := isA_cols h1
    exact ⟨by omega, h1, h2, by omega⟩
set_option maxHeartbeats 800000 in
theorem implIsDep_all (n l r : Int) (_w1 : (Lit.int .i64 l).wf = true) (w : World) :
    Calls Try.prog 118 #[.int .i64 n, .agg #[.int .i64 l, .int .i64 r]] w fun e w' => e = .returned (.bool (depB n l r)) ∧ Below w.heap.size w w' := by
  have hb1 := (Below.refl w.heap.size w).alloc (Nat.le_refl _) (.cells #[.int .i64 l, .int .i64 r] 44)
  obtain ⟨c0, c1⟩ := zero2 w 44 (.int .i64 l) (.int .i64 r)
  have HBX := Lib.hid (fun w' (hb : Below (w.alloc (.cells #[.int .i64 l, .int .i64 r] 44)).heap.size (w.alloc (.cells #[.int .i64 l, .int .i64 r] 44)) w') => And.intro (hb1.trans (hb.mono hb1.size)) (box2 hb))
  have HA := Lib.hid (implIsA_any n l (wf_i64_ge _w1) (wf_i64_le _w1))
  have hE := depB_eq n l r
  cases ha : isA n l with
  | false =>
    rw [ha] at HA hE
    have HE : Hid (depB n l r = false) := Lib.hid (by rw [hE]; rfl)
    clear hE ha
    go_enter Try.func118, Try.ntmps118
    go_wp2_with fail
    refine (HA.out _).mono ?_
    rintro e w1 ⟨rfl, b1⟩
    obtain ⟨hb2, d0, d1⟩ := HBX.out _ b1
    clear b1 c0 c1
    go_wp2_with fail
    go_ret
    exact ⟨ret_b HE.out, hb2⟩
  | true =>
    rw [ha] at HA hE
    rw [Bool.true_and] at hE
    by_cases h0 : 0 ≤ r
    · by_cases h1 : r < n
      · have HE : Hid (depB n l r = true) := Lib.hid (by rw [hE, decide_eq_true h0, decide_eq_true h1]; rfl)
        clear hE ha
        go_enter Try.func118, Try.ntmps118
        go_wp2_with fail
        refine (HA.out _).mono ?_
        rintro e w1 ⟨rfl, b1⟩
        obtain ⟨hb2, d0, d1⟩ := HBX.out _ b1
        clear b1 c0 c1
        go_wp2_with fail
        go_ret
        exact ⟨ret_b HE.out, hb2⟩
      · have HE : Hid (depB n l r = false) := Lib.hid (by rw [hE, decide_eq_false h1]; simp)
        clear hE ha
        go_enter Try.func118, Try.ntmps118
        go_wp2_with fail
        refine (HA.out _).mono ?_
        rintro e w1 ⟨rfl, b1⟩
        obtain ⟨hb2, d0, d1⟩ := HBX.out _ b1
        clear b1 c0 c1
        go_wp2_with fail
        go_ret
        exact ⟨ret_b (by rw [HE.out, decide_eq_false (Int.not_lt.2 h1)]), hb2⟩
    · have HE : Hid (depB n l r = false) := Lib.hid (by rw [hE, decide_eq_false h0]; rfl)
      clear hE ha
      go_enter Try.func118, Try.ntmps118
      go_wp2_with fail
      refine (HA.out _).mono ?_
      rintro e w1 ⟨rfl, b1⟩
      obtain ⟨hb2, d0, d1⟩ := HBX.out _ b1
      clear b1 c0 c1
      go_wp2_with fail
      go_ret
      exact ⟨ret_b HE.out, hb2⟩
theorem implIsDep_any (n l r : Int) (_w0 : (Lit.int .i64 n).wf = true) (_w1 : (Lit.int .i64 l).wf = true) (_w2 : (Lit.int .i64 r).wf = true) (w : World) :
    Calls Try.prog 118 #[.int .i64 n, .agg #[.int .i64 l, .int .i64 r]] w fun e w' => e = .returned (.bool (depB n l r)) ∧ Below w.heap.size w w' := implIsDep_all n l r _w1 w
theorem depB_five {l r : Int} (h : depB 5 l r = true) : ∃ L R : Nat, l = (L : Int) ∧ r = (R : Int) ∧ L < 32 ∧ R ≤ 4 := by
  rw [depB_iff] at h
  obtain ⟨-, h2, h3, h4⟩ := h
  unfold isA at h2
  rw [decide_eq_true_iff] at h2
  obtain ⟨-, h5, h6⟩ := h2
  have h7 : l ≤ 31 := h6
  exact ⟨l.toNat, r.toNat, by omega, by omega, by omega, by omega⟩
theorem fmtD_dep (l r : Int) : fmtD l r = if depB 5 l r = true then fmtA l ++ ⟨#[62]⟩ ++ fmtA (2 ^ r.toNat : Nat) else ⟨#[]⟩ := by
  have h : (depB 5 l r = true) ↔ (valB l = true ∧ 0 ≤ r ∧ r ≤ 4) := by
    rw [depB_iff]
    unfold isA valB
    rw [decide_eq_true_iff, decide_eq_true_iff]
    have : (2 : Int) ^ (5 : Int).toNat - 1 = 31 := rfl
    rw [this]
    constructor
    · rintro ⟨-, ⟨-, h1⟩, h2, h3⟩; exact ⟨h1, h2, by omega⟩
    · rintro ⟨h1, h2, h3⟩; exact ⟨by omega, ⟨by omega, h1⟩, h2, by omega⟩
  unfold fmtD
  by_cases h' : depB 5 l r = true
  · rw [if_pos h', if_pos (h.1 h')]
  · rw [if_neg h', if_neg (fun e => h' (h.2 e))]
end Go.Proofs.Ytcgkfbjdlhapkaa
namespace Go.Proofs.Ytcgkfbjdlhapkaa
open Go.RowKit

section
set_option maxRecDepth 20000
set_option maxHeartbeats 3200000
theorem partP_sub {L X : Nat} (hL : L < 32) (hX : X < 32) (w : World) : Calls Try.prog 88 #[.int .i64 (L : Int), .int .i64 (X : Int)] w fun e w' => e = .returned (.bool (subN L X)) ∧ w = w' := by
  have h := partOf_any (L : Int) (X : Int) w
  rw [partZ_eq (L : Int) (X : Int) (by omega) (by omega), sub_and ⟨L, hL⟩ ⟨X, hX⟩] at h
  exact h
theorem applies10_any (L X : Nat) (r : Int) (hL : L < 32) (hX : X < 32) (w : World) :
    Calls Try.prog 97 #[.agg #[.int .i64 (L : Int), .int .i64 r], .int .i64 (X : Int)] w fun e w' => e = .returned (.bool (subN L X)) ∧ Below w.heap.size w w' := by
  have HB := Lib.hid ((Below.refl w.heap.size w).alloc (Nat.le_refl _) (.cells #[.int .i64 (L : Int), .int .i64 r] 44))
  obtain ⟨c0, c1⟩ := zero2 w 44 (.int .i64 (L : Int)) (.int .i64 r)
  have HP := Lib.hid (fun w' => partP_sub hL hX w')
  clear hL hX
  go_enter Try.func97, Try.ntmps97
  go_wp2_with fail
  refine (HP.out _).mono ?_
  rintro e w' ⟨rfl, rfl⟩
  go_wp2_with fail
  go_ret
  exact ⟨rfl, HB.out⟩
theorem added10_any (X R : Nat) (l : Int) (hX : X < 32) (hR : R < 5) (w : World) :
    Calls Try.prog 110 #[.agg #[.int .i64 l, .int .i64 (R : Int)], .int .i64 (X : Int)] w fun e w' => e = .returned (.int .i64 (orN X R : Int)) ∧ Below w.heap.size w w' := by
  have HB := Lib.hid ((Below.refl w.heap.size w).alloc (Nat.le_refl _) (.cells #[.int .i64 l, .int .i64 (R : Int)] 44))
  obtain ⟨c0, c1⟩ := zero2 w 44 (.int .i64 l) (.int .i64 (R : Int))
  have HOW : Hid (bits .or .i64 (X : Int) (wrap64 (2 ^ R)) = (orN X R : Int)) := Lib.hid (or_w ⟨X, hX⟩ ⟨R, hR⟩)
  have zR : (0 : Int) ≤ (R : Int) := by omega
  clear hX
  go_enter Try.func110, Try.ntmps110
  go_wp2_with fail
  go_ret
  exact ⟨ret_int HOW.out, HB.out⟩
theorem outside10_any (n l r : Int) (_w1 : (Lit.int .i64 l).wf = true) (w : World) :
    Calls Try.prog 83 #[.agg #[.int .i64 l, .int .i64 r], .int .i64 n] w fun e w' => e = .returned (.bool (!depB n l r)) ∧ Below w.heap.size w w' := by
  have HB := Lib.hid ((Below.refl w.heap.size w).alloc (Nat.le_refl _) (.cells #[.int .i64 l, .int .i64 r] 44))
  obtain ⟨c0, c1⟩ := zero2 w 44 (.int .i64 l) (.int .i64 r)
  have HP := Lib.hid (fun w' => implIsDep_all n l r _w1 w')
  go_enter Try.func83, Try.ntmps83
  go_wp2_with fail
  refine (HP.out _).mono ?_
  rintro e w2 ⟨rfl, b2⟩
  have hb2 := HB.out.trans (b2.mono HB.out.size)
  clear b2 c0 c1
  go_wp2_with fail
  go_ret
  exact ⟨rfl, hb2⟩
theorem enlarges10_any (L R X : Nat) (hL : L < 32) (hR : R < 5) (hX : X < 32) (w : World) :
    Calls Try.prog 55 #[.agg #[.int .i64 (L : Int), .int .i64 (R : Int)], .int .i64 (X : Int)] w fun e w' => e = .returned (.bool (subN L X && !bitB X R)) ∧ Below w.heap.size w w' := by
  have hb1 := (Below.refl w.heap.size w).alloc (Nat.le_refl _) (.cells #[.int .i64 (L : Int), .int .i64 (R : Int)] 44)
  have HB := Lib.hid hb1
  obtain ⟨c0, c1⟩ := zero2 w 44 (.int .i64 (L : Int)) (.int .i64 (R : Int))
  have HC := Lib.hid (And.intro c0 c1)
  have HP := Lib.hid (fun w' => applies10_any L X (R : Int) hL hX w')
  have HH := Lib.hid (fun w' => has_any X R (by omega) w')
  clear hb1 hL hX hR
  cases hs : subN L X with
  | false =>
    rw [hs] at HP
    clear hs
    go_enter Try.func55, Try.ntmps55
    go_wp2_with fail
    refine (HP.out _).mono ?_
    rintro e w2 ⟨rfl, b2⟩
    have hb2 := HB.out.trans (b2.mono HB.out.size)
    clear b2 c0 c1
    go_wp2_with fail
    go_ret
    exact ⟨rfl, hb2⟩
  | true =>
    rw [hs] at HP
    clear hs
    go_enter Try.func55, Try.ntmps55
    go_wp2_with fail
    refine (HP.out _).mono ?_
    rintro e w2 ⟨rfl, b2⟩
    have d0 := keep_in HC.out.1 b2
    have d1 := keep_in HC.out.2 b2
    have hb2 := HB.out.trans (b2.mono HB.out.size)
    clear b2 c0 c1
    go_wp2_with fail
    refine (HH.out _).mono ?_
    rintro e w3 ⟨rfl, rfl⟩
    go_wp2_with fail
    go_ret
    exact ⟨ret_b (by rw [Bool.true_and]), hb2⟩
/-- The index of the first element with a property, or -1. -/
def ixZ {α : Type} (p : α → Bool) (l : List α) : Int := if l.findIdx p < l.length then (l.findIdx p : Int) else -1
theorem ixZ_at {p : Int × Int → Bool} {l : List (Int × Int)} {i : Nat} (hi : i < l.length) (h : p (l.getD i (0, 0)) = true) (hn : ∀ j, j < i → p (l.getD j (0, 0)) = false) : ixZ p l = (i : Int) := by
  have hg : ∀ j (hj : j < l.length), l.getD j (0, 0) = l[j] := fun j hj => by rw [List.getD_eq_getElem?_getD, List.getElem?_eq_getElem hj]; rfl
  have e : l.findIdx p = i := by
    rw [List.findIdx_eq hi]
    refine ⟨by rw [← hg i hi]; exact h, fun j hj => ?_⟩
    rw [← hg j (by omega)]; exact hn j hj
  unfold ixZ
  rw [e, if_pos hi]
theorem ixZ_none {p : Int × Int → Bool} {l : List (Int × Int)} (hn : ∀ j, j < l.length → p (l.getD j (0, 0)) = false) : ixZ p l = -1 := by
  unfold ixZ
  rw [if_neg]
  intro h
  have h1 := List.findIdx_getElem (w := h)
  have h2 := hn _ h
  rw [List.getD_eq_getElem?_getD, List.getElem?_eq_getElem h] at h2
  have : p l[l.findIdx p] = false := h2
  rw [this] at h1
  cases h1
theorem ixZ_neg {p : Int × Int → Bool} {l : List (Int × Int)} : decide (ixZ p l < 0) = l.all (fun d => !p d) := by
  unfold ixZ
  split
  · rename_i h
    have h1 := List.findIdx_getElem (w := h)
    have e : l.all (fun d => !p d) = false := by
      rw [List.all_eq_false]
      exact ⟨_, List.getElem_mem h, by rw [h1]; decide⟩
    rw [e]
    exact decide_eq_false (by omega)
  · rename_i h
    have e : l.all (fun d => !p d) = true := by
      rw [List.all_eq_true]
      intro d hd
      cases hp : p d with
      | false => rfl
      | true => exact absurd (List.findIdx_lt_length_of_exists ⟨d, hd, hp⟩) h
    rw [e]
    exact decide_eq_true (by omega)
theorem index_out (v c1 c2 : Value) (p : Int × Int → Bool) (l : List (Int × Int)) (w : World) (hr : ReadD w v l) (hl : l.length ≤ 1048576)
    (HP : ∀ x, x ∈ l → ∀ w', Below w.heap.size w w' → Calls Try.prog 117 #[.agg #[.int .i64 x.1, .int .i64 x.2], c1, c2] w' fun e w'' => e = .returned (.bool (p x)) ∧ Below w'.heap.size w' w'') :
    Calls Try.prog 115 #[v, .func (.func 117) #[] #[c1, c2]] w fun e w' => e = .returned (.int .i64 (ixZ p l)) ∧ Below w.heap.size w w' := by
  have HQ := Lib.hid HP
  obtain ⟨a, cap, rfl, ha⟩ := hr
  have HA := Lib.hid ha
  clear ha HP
  go_enter Try.func115, Try.ntmps115
  go_wp2_with fail
  go_loopw [8] (fun iv wr => ∃ (k : Nat), k ≤ l.length ∧ iv = .int .i64 (k : Int) ∧ Hid (∀ j, j < k → p (l.getD j (0, 0)) = false) ∧ Below w.heap.size w wr) (fun iv _ => l.length - (intOf iv).toNat)
  case atStart => exact ⟨0, by omega, rfl, Lib.hid (fun j hj => absurd hj (by omega)), Below.refl _ _⟩
  case round =>
    obtain ⟨k, hk, rfl, hno, hb⟩ := hrel
    by_cases hlt : k < l.length
    · obtain ⟨b, o, rfl, h0, h1⟩ := HA.out k hlt
      replace h0 := (hb.cell (World.block_lt_of_cell? w _ h0)).trans h0
      replace h1 := (hb.cell (World.block_lt_of_cell? w _ h1)).trans h1
      have hm : l.getD k (0, 0) ∈ l := by rw [List.getD_eq_getElem?_getD, List.getElem?_eq_getElem hlt]; exact List.getElem_mem hlt
      obtain ⟨⟨y0, y1⟩, hy⟩ : ∃ y, y = l.getD k (0, 0) := ⟨_, rfl⟩
      have HNO : Hid (p (y0, y1) = false → ∀ j, j < k + 1 → p (l.getD j (0, 0)) = false) := Lib.hid (fun h j hj => by
        by_cases e : j = k
        · subst e; rw [← hy]; exact h
        · exact hno.out j (by omega))
      have HYE : Hid (p (y0, y1) = true → ixZ p l = (k : Int)) := Lib.hid (fun h => ixZ_at hlt (by rw [← hy]; exact h) hno.out)
      rw [← hy] at h0 h1 hm
      simp only at h0 h1
      have HC := Lib.hid (HQ.out (y0, y1) hm)
      have HB := Lib.hid hb
      clear hy hm hb
      have z0 : (0 : Int) ≤ (k : Int) := by omega
      have z1 : (k : Int) < (l.length : Int) := by omega
      cases hp : p (y0, y1) with
      | true =>
        have HE := Lib.hid (HYE.out hp)
        rw [hp] at HC
        clear hp
        go_wp2_with fail
        refine (HC.out _ HB.out).mono ?_
        rintro e w1 ⟨rfl, b1⟩
        have hb1 := HB.out.trans (b1.mono HB.out.size)
        clear b1 h0 h1
        go_wp2_with fail
        go_ret
        exact ⟨ret_int HE.out.symm, hb1⟩
      | false =>
        have HE := Lib.hid (HNO.out hp)
        rw [hp] at HC
        clear hp
        go_wp2_with fail
        refine (HC.out _ HB.out).mono ?_
        rintro e w1 ⟨rfl, b1⟩
        have hb1 := HB.out.trans (b1.mono HB.out.size)
        clear b1 h0 h1
        go_wp2_with fail
        go_roundw
        case rel => exact ⟨k + 1, by omega, by go_num, HE, hb1⟩
        case measure => simp [intOf]; omega
    · obtain rfl : k = l.length := by omega
      have HE := Lib.hid (ixZ_none hno.out)
      go_wp2_with fail
      go_ret
      exact ⟨ret_int HE.out.symm, hb⟩
theorem outFun_any (n l r : Int) (_w1 : (Lit.int .i64 l).wf = true) (bf bv : Nat) (w : World) (hf : w.cell? ⟨bf, 0, none⟩ = some (.func (.func 83) #[] #[])) (hv : w.cell? ⟨bv, 0, none⟩ = some (.int .i64 n)) :
    Calls Try.prog 117 #[.agg #[.int .i64 l, .int .i64 r], .pointer (some ⟨bf, 0, none⟩), .pointer (some ⟨bv, 0, none⟩)] w fun e w' => e = .returned (.bool (!depB n l r)) ∧ Below w.heap.size w w' := by
  have hb1 := (Below.refl w.heap.size w).alloc (Nat.le_refl _) (.cells #[.int .i64 l, .int .i64 r] 44)
  have HB := Lib.hid hb1
  obtain ⟨c0, c1⟩ := zero2 w 44 (.int .i64 l) (.int .i64 r)
  replace hf := keep_in hf hb1
  replace hv := keep_in hv hb1
  have HC := Lib.hid (fun w' => outside10_any n l r _w1 w')
  clear hb1
  go_enter Try.func117, Try.ntmps117
  go_wp2_with fail
  refine (HC.out _).mono ?_
  rintro e w2 ⟨rfl, b2⟩
  have hb2 := HB.out.trans (b2.mono HB.out.size)
  clear b2 c0 c1 hf hv
  go_wp2_with fail
  go_ret
  exact ⟨rfl, hb2⟩
theorem two_boxes {w : World} {T T' : TypeId} {a b : Value} : ((w.alloc (.cells #[a] T)).alloc (.cells #[b] T')).cell? ⟨w.heap.size, 0, none⟩ = some a ∧ ((w.alloc (.cells #[a] T)).alloc (.cells #[b] T')).cell? ⟨w.heap.size + 1, 0, none⟩ = some b := by
  have hb2 := (Below.refl (w.alloc (.cells #[a] T)).heap.size (w.alloc (.cells #[a] T))).alloc (Nat.le_refl _) (.cells #[b] T')
  have hm := one_at (w.alloc (.cells #[a] T)) T' b
  rw [World.size_alloc] at hm
  exact ⟨keep_in (one_at w T a) hb2, hm⟩
theorem firstOut_any (v : Value) (n : Int) (l : List (Int × Int)) (bd : ∀ d ∈ l, (Lit.int .i64 d.1).wf = true ∧ (Lit.int .i64 d.2).wf = true) (w : World) (hr : ReadD w v l) (hl : l.length ≤ 1048576) :
    Calls Try.prog 82 #[v, .int .i64 n, .func (.func 83) #[] #[]] w fun e w' => e = .returned (.int .i64 (ixZ (fun d => !depB n d.1 d.2) l)) ∧ Below w.heap.size w w' := by
  have hb2 := ((Below.refl w.heap.size w).alloc (Nat.le_refl _) (.cells #[.int .i64 n] 3)).alloc (by simp) (.cells #[.func (.func 83) #[] #[]] 88)
  obtain ⟨c0, c1⟩ := two_boxes (w := w) (T := 3) (T' := 88) (a := .int .i64 n) (b := .func (.func 83) #[] #[])
  have HI := Lib.hid (index_out v (.pointer (some ⟨w.heap.size + 1, 0, none⟩)) (.pointer (some ⟨w.heap.size, 0, none⟩)) (fun d => !depB n d.1 d.2) l _ (hr.kept hb2) hl (fun x hx w' hb => outFun_any n x.1 x.2 (bd x hx).1 (w.heap.size + 1) w.heap.size w' (keep_in c1 hb) (keep_in c0 hb)))
  have HB := Lib.hid hb2
  obtain ⟨a, cap, rfl, -⟩ := hr
  clear hb2 c0 c1 bd
  go_enter Try.func82, Try.ntmps82
  go_wp2_with fail
  refine HI.out.mono ?_
  rintro e w2 ⟨rfl, b2⟩
  have hb2 := HB.out.trans (b2.mono HB.out.size)
  clear b2
  go_wp2_with fail
  go_ret
  exact ⟨rfl, hb2⟩
end
end Go.Proofs.Ytcgkfbjdlhapkaa
