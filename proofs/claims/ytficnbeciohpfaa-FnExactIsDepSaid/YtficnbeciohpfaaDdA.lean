/- The program's IsDep and FormatDep, by contract. Conditions: as stated. -/
import Derived.Test.YtficnbeciohpfaaDepE
import Derived.Test.YtficnbeciohpfaaImC
namespace Go.Proofs.Ytficnbeciohpfaa
open Go.RowKit

theorem isA_cols {n x : Int} (h : isA n x = true) : 0 ≤ n ∧ n ≤ 5 := by unfold isA at h; rw [decide_eq_true_iff] at h; exact h.1
theorem depB_eq (n l r : Int) : depB n l r = (isA n l && (decide (0 ≤ r) && decide (r < n))) := by
  rw [Bool.eq_iff_iff, depB_iff, Bool.and_eq_true, Bool.and_eq_true, decide_eq_true_iff, decide_eq_true_iff]
  constructor
  · rintro ⟨h1, h2, h3, h4⟩; exact ⟨h2, h3, by omega⟩
  · rintro ⟨h1, h2, h3⟩
    have hn := isA_cols h1
    exact ⟨by omega, h1, h2, by omega⟩
set_option maxHeartbeats 800000 in
theorem implIsDep_any (n l r : Int) (_w0 : (Lit.int .i64 n).wf = true) (_w1 : (Lit.int .i64 l).wf = true) (_w2 : (Lit.int .i64 r).wf = true) (w : World) :
    Calls Try.prog 12 #[.int .i64 n, .agg #[.int .i64 l, .int .i64 r]] w fun e w' => e = .returned (.bool (depB n l r)) ∧ Below w.heap.size w w' := by
  have hb1 := (Below.refl w.heap.size w).alloc (Nat.le_refl _) (.cells #[.int .i64 l, .int .i64 r] 25)
  obtain ⟨c0, c1⟩ := zero2 w 25 (.int .i64 l) (.int .i64 r)
  have HBX := Lib.hid (fun w' (hb : Below (w.alloc (.cells #[.int .i64 l, .int .i64 r] 25)).heap.size (w.alloc (.cells #[.int .i64 l, .int .i64 r] 25)) w') => And.intro (hb1.trans (hb.mono hb1.size)) (box2 hb))
  have HA := Lib.hid (implIsA_any n l (wf_i64_ge _w1) (wf_i64_le _w1))
  have hE := depB_eq n l r
  cases ha : isA n l with
  | false =>
    rw [ha] at HA hE
    have HE : Hid (depB n l r = false) := Lib.hid (by rw [hE]; rfl)
    clear hE ha
    go_enter Try.func12, Try.ntmps12
    go_wp2_with fail
    refine (HA.out _).mono ?_
    rintro e w1 ⟨rfl, b1⟩
    obtain ⟨hb2, d0, d1⟩ := HBX.out _ b1
    clear b1 c0 c1
    go_wp2_with fail
    go_ret
    exact ⟨ret_b HE.out, hb2⟩
  | true =>
    rw [ha] at HA hE
    rw [Bool.true_and] at hE
    by_cases h0 : 0 ≤ r
    · by_cases h1 : r < n
      · have HE : Hid (depB n l r = true) := Lib.hid (by rw [hE, decide_eq_true h0, decide_eq_true h1]; rfl)
        clear hE ha
        go_enter Try.func12, Try.ntmps12
        go_wp2_with fail
        refine (HA.out _).mono ?_
        rintro e w1 ⟨rfl, b1⟩
        obtain ⟨hb2, d0, d1⟩ := HBX.out _ b1
        clear b1 c0 c1
        go_wp2_with fail
        go_ret
        exact ⟨ret_b HE.out, hb2⟩
      · have HE : Hid (depB n l r = false) := Lib.hid (by rw [hE, decide_eq_false h1]; simp)
        clear hE ha
        go_enter Try.func12, Try.ntmps12
        go_wp2_with fail
        refine (HA.out _).mono ?_
        rintro e w1 ⟨rfl, b1⟩
        obtain ⟨hb2, d0, d1⟩ := HBX.out _ b1
        clear b1 c0 c1
        go_wp2_with fail
        go_ret
        exact ⟨ret_b (by rw [HE.out, decide_eq_false (Int.not_lt.2 h1)]), hb2⟩
    · have HE : Hid (depB n l r = false) := Lib.hid (by rw [hE, decide_eq_false h0]; rfl)
      clear hE ha
      go_enter Try.func12, Try.ntmps12
      go_wp2_with fail
      refine (HA.out _).mono ?_
      rintro e w1 ⟨rfl, b1⟩
      obtain ⟨hb2, d0, d1⟩ := HBX.out _ b1
      clear b1 c0 c1
      go_wp2_with fail
      go_ret
      exact ⟨ret_b HE.out, hb2⟩
theorem depB_five {l r : Int} (h : depB 5 l r = true) : ∃ L R : Nat, l = (L : Int) ∧ r = (R : Int) ∧ L < 32 ∧ R ≤ 4 := by
  rw [depB_iff] at h
  obtain ⟨-, h2, h3, h4⟩ := h
  unfold isA at h2
  rw [decide_eq_true_iff] at h2
  obtain ⟨-, h5, h6⟩ := h2
  have h7 : l ≤ 31 := h6
  exact ⟨l.toNat, r.toNat, by omega, by omega, by omega, by omega⟩
theorem fmtD_dep (l r : Int) : fmtD l r = if depB 5 l r = true then fmtA l ++ ⟨#[62]⟩ ++ fmtA (2 ^ r.toNat : Nat) else ⟨#[]⟩ := by
  have h : (depB 5 l r = true) ↔ (valB l = true ∧ 0 ≤ r ∧ r ≤ 4) := by
    rw [depB_iff]
    unfold isA valB
    rw [decide_eq_true_iff, decide_eq_true_iff]
    have : (2 : Int) ^ (5 : Int).toNat - 1 = 31 := rfl
    rw [this]
    constructor
    · rintro ⟨-, ⟨-, h1⟩, h2, h3⟩; exact ⟨h1, h2, by omega⟩
    · rintro ⟨h1, h2, h3⟩; exact ⟨by omega, ⟨by omega, h1⟩, h2, by omega⟩
  unfold fmtD
  by_cases h' : depB 5 l r = true
  · rw [if_pos h', if_pos (h.1 h')]
  · rw [if_neg h', if_neg (fun e => h' (h.2 e))]
set_option maxHeartbeats 1600000 in
theorem implFormatDep_any (l r : Int) (_w0 : (Lit.int .i64 l).wf = true) (_w1 : (Lit.int .i64 r).wf = true) (w : World) :
    Calls Try.prog 23 #[.agg #[.int .i64 l, .int .i64 r]] w fun e w' => e = .returned (.string (fmtD l r)) ∧ Below w.heap.size w w' := by
  have hb1 := (Below.refl w.heap.size w).alloc (Nat.le_refl _) (.cells #[.int .i64 l, .int .i64 r] 25)
  obtain ⟨c0, c1⟩ := zero2 w 25 (.int .i64 l) (.int .i64 r)
  have HBX := Lib.hid (fun w' (hb : Below (w.alloc (.cells #[.int .i64 l, .int .i64 r] 25)).heap.size (w.alloc (.cells #[.int .i64 l, .int .i64 r] 25)) w') => And.intro (hb1.trans (hb.mono hb1.size)) (box2 hb))
  have HRF := Lib.hid (Below.refl (w.alloc (.cells #[.int .i64 l, .int .i64 r] 25)).heap.size (w.alloc (.cells #[.int .i64 l, .int .i64 r] 25)))
  have hE := fmtD_dep l r
  have HI := Lib.hid (implIsDep_any 5 l r (by decide) _w0 _w1)
  cases hd : depB 5 l r with
  | false =>
    rw [hd] at hE HI
    have HE : Hid (fmtD l r = ⟨#[]⟩) := Lib.hid (by rw [hE, if_neg (by decide)])
    clear hE hd hb1
    go_enter Try.func23, Try.ntmps23
    go_wp2_with fail
    refine (HI.out _).mono ?_
    rintro e w1 ⟨rfl, b1⟩
    obtain ⟨hb2, d0, d1⟩ := HBX.out _ b1
    clear b1 c0 c1
    go_wp2_with fail
    go_ret
    exact ⟨ret_s HE.out, hb2⟩
  | true =>
    rw [hd] at hE HI
    rw [if_pos rfl] at hE
    obtain ⟨L, R, rfl, rfl, hL, hR⟩ := depB_five hd
    rw [show ((R : Int)).toNat = R from rfl] at hE
    have hw : wrap64 (2 ^ R) = ((2 ^ R : Nat) : Int) := by
      rcases (show R = 0 ∨ R = 1 ∨ R = 2 ∨ R = 3 ∨ R = 4 by omega) with rfl | rfl | rfl | rfl | rfl <;> decide +kernel
    have hp : 2 ^ R < 32 := by
      rcases (show R = 0 ∨ R = 1 ∨ R = 2 ∨ R = 3 ∨ R = 4 by omega) with rfl | rfl | rfl | rfl | rfl <;> decide
    have HF := text_any L hL
    have HF2 := text_any (2 ^ R) hp
    rw [← hw] at HF2
    have hs := fmtA_size (L : Int)
    have hts := fmtA_size (wrap64 (2 ^ R))
    obtain ⟨s, hss⟩ : ∃ s, s = fmtA (L : Int) := ⟨_, rfl⟩
    obtain ⟨t, ht⟩ : ∃ t, t = fmtA (wrap64 (2 ^ R)) := ⟨_, rfl⟩
    rw [← hss] at HF hs hE
    rw [← ht] at HF2 hts
    rw [hw] at ht
    rw [← ht] at hE
    have HE := Lib.hid hE
    replace HF := Lib.hid HF
    replace HF2 := Lib.hid HF2
    have hcat : s.size + (({ data := #[62] } : ByteArray)).size ≤ 9223372036854775807 := by show s.size + 1 ≤ _; omega
    have hcat2 : (s ++ ({ data := #[62] } : ByteArray)).size + t.size ≤ 9223372036854775807 := by
      have : (s ++ ({ data := #[62] } : ByteArray)).size = s.size + 1 := by rw [str_size, str_add, List.length_append, ← str_size]; rfl
      omega
    clear hE hd hb1 hss ht hw
    go_enter Try.func23, Try.ntmps23
    go_wp2_with fail
    refine (HI.out _).mono ?_
    rintro e w1 ⟨rfl, b1⟩
    clear c0 c1
    have b2 := HRF.out.trans (b1.mono HRF.out.size)
    obtain ⟨hb3, c0, c1⟩ := HBX.out _ b2
    clear b1
    go_wp2_with fail
    refine (HF.out _).mono ?_
    rintro e w2 ⟨rfl, b3⟩
    have hb4 := hb3.trans (b3.mono hb3.size)
    clear c0 c1 b3
    go_wp2_with fail
    refine (HF2.out _).mono ?_
    rintro e w3 ⟨rfl, b3⟩
    have hb5 := hb4.trans (b3.mono hb4.size)
    clear b3
    go_wp2_with fail
    go_ret
    exact ⟨ret_s HE.out, hb5⟩
end Go.Proofs.Ytficnbeciohpfaa
