/- The program's chapter 11: a dependency among others, the reduced ones, CoverOf, by contract. Conditions: as stated. -/
import Derived.Test.YtcgkfbjdlhapkaaYa44
import Derived.Test.YtcgkfbjdlhapkaaYa22
import Derived.Deep.RegionLaw
namespace Go.Proofs.Ytcgkfbjdlhapkaa
open Go.RowKit

theorem contains_ix (q : List (Int × Int)) (e : Int × Int) : decide (0 ≤ ixZ (fun d => decide (d = e)) q) = memTo q e q.length := by
  have h := ixZ_neg (p := fun d => decide (d = e)) (l := q)
  have h2 : decide (0 ≤ ixZ (fun d => decide (d = e)) q) = !decide (ixZ (fun d => decide (d = e)) q < 0) := by
    rw [Bool.eq_iff_iff, decide_eq_true_iff, Bool.not_eq_true', decide_eq_false_iff_not]
    omega
  rw [h2, h, Bool.eq_iff_iff, Bool.not_eq_true', memTo_mem, List.all_eq_false]
  constructor
  · rintro ⟨d, hd, h3⟩
    have : d = e := by simpa using h3
    rw [← this]; exact hd
  · intro hd
    exact ⟨e, hd, by simp⟩
section
set_option maxRecDepth 20000
set_option maxHeartbeats 3200000
theorem indexDep_any (v : Value) (x y : Int) (l : List (Int × Int)) (w : World) (hr : ReadD w v l) (hl : l.length ≤ 1048576) :
    Calls Try.prog 140 #[v, .agg #[.int .i64 x, .int .i64 y]] w fun e w' => e = .returned (.int .i64 (ixZ (fun d => decide (d = (x, y))) l)) ∧ Below w.heap.size w w' := by
  have hb1 := (Below.refl w.heap.size w).alloc (Nat.le_refl _) (.cells #[.int .i64 x, .int .i64 y] 44)
  have HX1 := Lib.hid (bx_new w x y)
  have HB1 := Lib.hid hb1
  have HR := Lib.hid (fun w' (hb : Below w.heap.size w w') => hr.kept hb)
  have HIX := Lib.hid (fun i (hi : i < l.length) h hn => ixZ_at (p := fun d => decide (d = (x, y))) (l := l) (i := i) hi h hn)
  have HIN := Lib.hid (fun hn => ixZ_none (p := fun d => decide (d = (x, y))) (l := l) hn)
  obtain ⟨a, cap, rfl, -⟩ := hr
  clear hb1
  go_enter Try.func140, Try.ntmps140
  go_wp2_with fail
  go_loopw [8] (fun iv wr => ∃ i : Nat, i ≤ l.length ∧ iv = .int .i64 (i : Int) ∧ Hid (∀ j, j < i → decide (l.getD j (0, 0) = (x, y)) = false) ∧ Hid (Bx wr w.heap.size x y) ∧ Hid (Below w.heap.size w wr)) (fun iv _ => l.length - (intOf iv).toNat)
  case atStart => exact ⟨0, by omega, rfl, Lib.hid (fun j h => by omega), HX1, HB1⟩
  case round =>
    clear HX1 HB1
    obtain ⟨i, hi, rfl, HNO, HX, HB⟩ := hrel
    obtain ⟨w9, hw9⟩ : ∃ w', w' = wr := ⟨_, rfl⟩
    rw [← hw9] at HX HB ⊢
    clear hw9
    have z0 : (0 : Int) ≤ (i : Int) := by omega
    by_cases hlt : i < l.length
    · have z1 : (i : Int) < (l.length : Int) := by omega
      obtain ⟨b, o, rfl, h0, h1⟩ := readD_cells (HR.out w9 HB.out) hlt
      have c0 := HX.out.c0
      have c1 := HX.out.c1
      have HD := Lib.hid (And.intro (HX.out.keep (Below.refl _ _).drew) HB.out.drew)
      cases ht : decide (l.getD i (0, 0) = (x, y)) with
      | true =>
        have HF := Lib.hid (HIX.out i hlt ht HNO.out)
        have he : l.getD i (0, 0) = (x, y) := of_decide_eq_true ht
        rw [he] at h0 h1
        have hq := fun w' => eq_dep11 x y x y w'
        rw [show (x == x && y == y) = true from by simp] at hq
        clear he ht
        go_wp2_with fail
        go_region_law (go_simp)
        all_goals
          go_wp2_with fail
          go_ret
          exact ⟨ret_int HF.out.symm, HD.out.2⟩
      | false =>
        have HNO' : Hid (∀ j, j < i + 1 → decide (l.getD j (0, 0) = (x, y)) = false) := Lib.hid (fun j hj => by
          rcases Nat.lt_succ_iff_lt_or_eq.1 hj with h | h
          · exact HNO.out j h
          · subst h; exact ht)
        obtain ⟨⟨e0, e1⟩, he⟩ : ∃ e, e = l.getD i (0, 0) := ⟨_, rfl⟩
        rw [← he] at h0 h1 ht
        simp only at h0 h1
        have hq := fun w' => eq_dep11 x y e0 e1 w'
        rw [eqP, show decide ((x, y) = (e0, e1)) = false from by rw [← ht, decide_eq_decide]; exact ⟨Eq.symm, Eq.symm⟩] at hq
        clear he ht
        go_wp2_with fail
        go_region_law (go_simp)
        all_goals
          go_wp2_with fail
          go_roundw
          case rel => exact ⟨i + 1, by omega, by go_num, HNO', Lib.hid HD.out.1, Lib.hid HD.out.2⟩
          case measure => simp [intOf]; omega
    · obtain rfl : i = l.length := by omega
      have HF := Lib.hid (HIN.out HNO.out)
      have z1 : ¬ ((l.length : Int) < (l.length : Int)) := by omega
      go_wp2_with fail
      go_ret
      exact ⟨ret_int HF.out.symm, HB.out⟩
theorem containsDep_any (v : Value) (x y : Int) (l : List (Int × Int)) (w : World) (hr : ReadD w v l) (hl : l.length ≤ 1048576) :
    Calls Try.prog 132 #[v, .agg #[.int .i64 x, .int .i64 y]] w fun e w' => e = .returned (.bool (memTo l (x, y) l.length)) ∧ Below w.heap.size w w' := by
  have hb1 := (Below.refl w.heap.size w).alloc (Nat.le_refl _) (.cells #[.int .i64 x, .int .i64 y] 44)
  have HI := Lib.hid (indexDep_any v x y l _ (hr.kept hb1) hl)
  have HB1 := Lib.hid hb1
  have HX1 := bx_new w x y
  have c0 := HX1.c0
  have c1 := HX1.c1
  rw [← contains_ix]
  obtain ⟨q, hq⟩ : ∃ q, q = ixZ (fun d => decide (d = (x, y))) l := ⟨_, rfl⟩
  rw [← hq] at HI ⊢
  obtain ⟨a, cap, rfl, -⟩ := hr
  clear hb1 HX1 hq
  go_enter Try.func132, Try.ntmps132
  go_wp2_with fail
  refine HI.out.mono ?_
  rintro e w3 ⟨rfl, b3⟩
  have HB3 := Lib.hid (HB1.out.trans (b3.mono HB1.out.size))
  clear b3 c0 c1
  go_wp2_with fail
  go_ret
  exact ⟨rfl, HB3.out⟩
theorem reduced_any (v : Value) (n : Int) (l : List (Int × Int)) (_w0 : (Lit.int .i64 n).wf = true) (bd : ∀ d ∈ l, (Lit.int .i64 d.1).wf = true ∧ (Lit.int .i64 d.2).wf = true) (w : World) (hr : ReadD w v l) (hl : l.length ≤ 1000) :
    Calls Try.prog 111 #[.int .i64 n, v] w (RetD (dedTo n l l.length) w) := by
  obtain ⟨i0, hi, hz0, hz1, hz2⟩ := info_parts infoDp
  have HI : Hid (_ ∧ _ ∧ _ ∧ _) := Lib.hid ⟨hi, hz0, hz1, hz2⟩
  clear hi hz0 hz1 hz2
  have HR := Lib.hid (fun w' (hb : Below w.heap.size w w') => hr.kept hb)
  have HR0 := Lib.hid (fun d0 d1 (hd : (d0, d1) ∈ l) w' (hb : Below w.heap.size w w') => implReduceLeft_any v n d0 d1 l _w0 bd (bd _ hd).1 (bd _ hd).2 w' (hr.kept hb) (by omega))
  have HB1 := Lib.hid (Below.refl w.heap.size w)
  have HO1 : Hid (OwnD w w.heap.size (.slice none 0 0) []) := Lib.hid (OwnD.nil _ _)
  have HDL := Lib.hid (dedTo_len n l)
  have HMM := Lib.hid (fun i (hi : i < l.length) => memD hi)
  obtain ⟨a, cap, rfl, -⟩ := hr
  clear bd
  go_enter Try.func111, Try.ntmps111
  go_wp2_with fail
  go_loopw [5, 11] (fun ov iv wr => ∃ (i : Nat) (q : List (Int × Int)), i ≤ l.length ∧ iv = .int .i64 (i : Int) ∧ Hid (q = dedTo n l i) ∧ Hid (OwnD wr w.heap.size ov q) ∧ Hid (Below w.heap.size w wr)) (fun _ iv _ => l.length - (intOf iv).toNat)
  case atStart => exact ⟨0, [], by omega, rfl, Lib.hid rfl, HO1, HB1⟩
  case round =>
    clear HO1 HB1
    obtain ⟨i, q, hi, rfl, HQ, HO, HB⟩ := hrel
    obtain ⟨w3, hw⟩ : ∃ w', w' = wr := ⟨_, rfl⟩
    rw [← hw] at HO HB ⊢
    clear hw
    have hql := HDL.out i
    rw [← HQ.out] at hql
    by_cases hlt : i < l.length
    · have z0 : (0 : Int) ≤ (i : Int) := by omega
      have z1 : (i : Int) < (l.length : Int) := by omega
      obtain ⟨b', o', rfl, h0, h1⟩ := readD_cells (HR.out w3 HB.out) hlt
      have HS : Hid (dedTo n l (i + 1) = if memTo q (redD n l (l.getD i (0, 0))) q.length = true then q else q ++ [redD n l (l.getD i (0, 0))]) := Lib.hid (by rw [HQ.out]; rfl)
      have hdm := HMM.out i hlt
      obtain ⟨⟨d0, d1⟩, hd⟩ : ∃ d, d = l.getD i (0, 0) := ⟨_, rfl⟩
      rw [← hd] at h0 h1 HS hdm
      simp only at h0 h1
      have HRD := Lib.hid (HR0.out d0 d1 hdm)
      obtain ⟨⟨p0, p1⟩, hp⟩ : ∃ p, p = redD n l (d0, d1) := ⟨_, rfl⟩
      rw [← hp] at HRD HS
      simp only at HRD
      have ha3 := (Below.refl w3.heap.size w3).alloc (Nat.le_refl _) (.cells #[.int .i64 d0, .int .i64 d1] 44)
      have HX3 := Lib.hid (bx_new w3 d0 d1)
      have HB3 := Lib.hid (HB.out.trans (ha3.mono HB.out.size))
      have HO3 := Lib.hid (HO.out.below ha3 (fun k hk => (HO.out.lt k hk).2))
      clear hd hp hdm ha3
      obtain ⟨a3, c3, hov⟩ := HO.out.shape
      subst hov
      go_wp2_with fail
      have x0 := HX3.out.c0
      have x1 := HX3.out.c1
      go_wp2_with fail
      refine (HRD.out _ HB3.out).mono ?_
      rintro e w4 ⟨rfl, b4⟩
      have HO4 := Lib.hid (HO3.out.below b4 (fun k hk => (HO3.out.lt k hk).2))
      have HB4 := Lib.hid (HB3.out.trans (b4.mono HB3.out.size))
      clear b4 h0 h1 x0 x1 HX3 HO HB HO3 HB3
      have HX5 := Lib.hid (bx_new w4 p0 p1)
      have ha5 := (Below.refl w4.heap.size w4).alloc (Nat.le_refl _) (.cells #[.int .i64 p0, .int .i64 p1] 44)
      have HB5 := Lib.hid (HB4.out.trans (ha5.mono HB4.out.size))
      have HO5 := Lib.hid (HO4.out.below ha5 (fun k hk => (HO4.out.lt k hk).2))
      have HCN := Lib.hid (containsDep_any _ p0 p1 q _ HO5.out.read (by omega))
      have x0 := HX5.out.c0
      have x1 := HX5.out.c1
      clear ha5 HO4 HB4
      go_wp2_with fail
      refine HCN.out.mono ?_
      rintro e w6 ⟨rfl, b6⟩
      have HO6 := Lib.hid (HO5.out.below b6 (fun k hk => (HO5.out.lt k hk).2))
      have HB6 := Lib.hid (HB5.out.trans (b6.mono HB5.out.size))
      have HX6 := Lib.hid (HX5.out.keep b6)
      clear b6 x0 x1 HO5 HB5 HX5 HCN
      cases hm : memTo q (p0, p1) q.length with
      | true =>
        rw [hm] at HS
        have HQ' : Hid (q = dedTo n l (i + 1)) := Lib.hid (by rw [HS.out]; rfl)
        clear hm
        go_wp2_with fail
        go_roundw
        case rel => exact ⟨i + 1, q, by omega, by go_num, HQ', HO6, HB6⟩
        case measure => simp [intOf]; omega
      | false =>
        rw [hm] at HS
        have HQ' : Hid (q ++ [(p0, p1)] = dedTo n l (i + 1)) := Lib.hid (by rw [HS.out]; rfl)
        have ho6 := HO6.out
        unfold OwnD at ho6
        have x0 := HX6.out.c0
        have x1 := HX6.out.c1
        clear hm
        go_wp2_with (at_builtin; refine wpList_append_own _ rfl _ _ 26 rfl w.heap.size 44 i0 (.agg #[.int .i64 0, .int .i64 0]) 2 16 Try.underlying26 HI.out.1 HI.out.2.1 HI.out.2.2.1 HI.out.2.2.2 rfl (by decide) _ _ _ rfl (World.ownsRow.alloc ho6 _) ⟨w6.heap.size, 0, none⟩ 1 1 [.int .i64 p0, .int .i64 p1] rfl rfl (cell_two_new _ _ _ _) (two_i64 _ _) (by unfold maxLen; omega) (by omega) (le_alloc HB6.out (Nat.le_refl _) _) ?_; intro v1 w7 hown1 hgrow1 _; have HO7 := Lib.hid (OwnD.snoc hown1); have HB7 := Lib.hid ((HB6.out.alloc HB6.out.size (.cells #[.int .i64 p0, .int .i64 p1] 44)).grown hgrow1 (by simp; have := HB6.out.size; omega) (fun k hk => (OwnD.lt HO6.out k hk).1)); clear hown1 hgrow1)
        go_roundw
        case rel => exact ⟨i + 1, _, by omega, by go_num, HQ', HO7, HB7⟩
        case measure => simp [intOf]; omega
    · obtain rfl : i = l.length := by omega
      have z0 : ¬ (((l.length : Nat) : Int) < ((l.length : Nat) : Int)) := by omega
      go_wp2_with fail
      go_ret
      exact ⟨_, rfl, by rw [← HQ.out]; exact HO.out, HB.out⟩
end
end Go.Proofs.Ytcgkfbjdlhapkaa
