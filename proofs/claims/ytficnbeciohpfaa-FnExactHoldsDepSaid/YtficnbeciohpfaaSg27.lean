/- Texts of this claim, merged: ImC, DdA. Conditions: as stated. -/
import Derived.Test.YtficnbeciohpfaaSg15
import Derived.Test.YtficnbeciohpfaaSg6
import Derived.Lib.OthersKept
import Derived.Test.YtficnbeciohpfaaSg26
namespace Go.Proofs.Ytficnbeciohpfaa
open Go.RowKit

theorem info8s : (Try.prog.info? 5).map (fun i => (i.zero, i.size, i.bytes)) = some (some (.int .u8 0), 1, 1) := by kernel_rfl
/-- The letters of columns. -/
def ltr (l : List Int) : List UInt8 := l.map fun i => UInt8.ofNat (65 + i).toNat
theorem ltr_take {l : List Int} {k : Nat} (h : k < l.length) : ltr (l.take (k + 1)) = ltr (l.take k) ++ [UInt8.ofNat (65 + l[k]).toNat] := by
  unfold ltr; rw [List.take_succ_eq_append_getElem h, List.map_append]; rfl
theorem ltr_len (l : List Int) (k : Nat) : (ltr (l.take k)).length ≤ k := by
  unfold ltr; rw [List.length_map]; exact List.length_take_le _ _
theorem ltr_fmt : ∀ X : Fin 32, X.val ≠ 0 → (⟨(ltr (mems ((X.val : Nat) : Int))).toArray⟩ : ByteArray) = fmtA ((X.val : Nat) : Int) := by
  intro X h
  apply str_ext
  revert X
  decide +kernel
theorem own_apart {w : World} {B B' : Nat} {v v' : Value} {l : List UInt8} {l' : List Int} (h : OwnB w B 5 v l) (h' : OwnI w B' v' l') : ∀ g, v.ownBlock = some g → v'.ownBlock ≠ some g := by
  intro g hg hg'
  rcases h.2 with ⟨rfl, _⟩ | ⟨g1, cap, cur, rfl, hB, hgg, rest⟩
  · cases hg
  · rcases h'.2 with ⟨rfl, _⟩ | ⟨g2, cap2, cur2, rfl, hB2, hgg2, rest2⟩
    · cases hg'
    · simp [Value.ownBlock] at hg hg'
      subst hg hg'
      rw [hgg] at hgg2
      simp at hgg2
set_option maxHeartbeats 800000 in
theorem text_any (X : Nat) (hX : X < 32) (w : World) :
    Calls Try.prog 45 #[.int .i64 (X : Int)] w fun e w' => e = .returned (.string (fmtA (X : Int))) ∧ Below w.heap.size w w' := by
  obtain ⟨i0, hi, hz0, hz1, hz2⟩ := info_parts info8s
  have HI : Hid (_ ∧ _ ∧ _ ∧ _) := Lib.hid ⟨hi, hz0, hz1, hz2⟩
  clear hi hz0 hz1 hz2
  by_cases h0 : X = 0
  · subst h0
    go_enter Try.func45, Try.ntmps45
    go_wp2_with fail
    go_ret
    exact ⟨ret_s (by rfl), Below.refl _ _⟩
  · have hne : ((X : Int) == 0) = false := by simp; omega
    have HF := Lib.hid (ltr_fmt ⟨X, hX⟩ h0)
    have HM := Lib.hid (members_any X hX)
    have hml := mems_len (X : Int)
    have HB : Hid (∀ k (h : k < (mems (X : Int)).length), 0 ≤ (mems (X : Int))[k] ∧ (mems (X : Int))[k] ≤ 4) := Lib.hid fun k h => (mems_at h).2
    obtain ⟨l, hl⟩ : ∃ l, l = mems (X : Int) := ⟨_, rfl⟩
    rw [← hl] at HM HB hml
    simp only [← hl] at HF
    clear hl h0
    go_enter Try.func45, Try.ntmps45
    go_wp2_with (at_make; refine wpList_make_own _ rfl _ _ 100 rfl w.heap.size 5 i0 (.int .u8 0) 1 Try.underlying100 HI.out.1 HI.out.2.1 HI.out.2.2.1 .i64 .i64 _ 5 rfl rfl (by omega) (by rw [HI.out.2.2.2]; omega) (by unfold maxLen; omega) (Nat.le_refl _) ?_; intro w0 hown0 hgrow0)
    have hb0 := (Below.refl w.heap.size w).grown hgrow0 (Nat.le_refl _) (by simp)
    have hown := OwnB.made hown0
    clear hown0 hgrow0
    refine (HM.out _).mono ?_
    rintro e w1 ⟨v, rfl, om, hb1'⟩
    have hown1 := hown.kept hb1' (fun k hk => (OwnB.lt hown k hk).2)
    have hb1 := hb0.trans (hb1'.mono hb0.size)
    have om1 : OwnI w1 w.heap.size v l := om.base hb0.size
    obtain ⟨am, capm, rfl, -⟩ := om1.read
    clear hown hb0 hb1' om
    go_wp2_with fail
    go_loopw [3, 12] (fun ov iv wr => ∃ (k : Nat) (bs : List UInt8), k ≤ l.length ∧ iv = .int .i64 (k : Int) ∧ Hid (bs = ltr (l.take k)) ∧ OwnB wr w.heap.size 5 ov bs ∧ OwnI wr w.heap.size (.slice am l.length capm) l ∧ Below w.heap.size w wr) (fun _ iv _ => l.length - (intOf iv).toNat)
    case atStart => exact ⟨0, [], by omega, rfl, Lib.hid rfl, hown1, om1, hb1⟩
    case round =>
      obtain ⟨k, bs, hk, rfl, hbs, ho, om, hb⟩ := hrel
      clear hown1 hb1 om1
      have hll : bs.length ≤ 5 := by rw [hbs.out]; have := ltr_len l k; omega
      by_cases hlt : k < l.length
      · obtain ⟨ya, hya, hy⟩ : ∃ y, am = some y ∧ wr.cell? (y.add k) = some (.int .i64 l[k]) := by
          obtain ⟨a', cap', h1, h2⟩ := om.read
          simp at h1
          obtain ⟨rfl, -⟩ := h1
          exact h2 k hlt
        subst hya
        obtain ⟨c0, c4⟩ := HB.out k hlt
        have hstep := Lib.hid (ltr_take hlt)
        obtain ⟨c, hc⟩ : ∃ c : Int, c = l[k] := ⟨_, rfl⟩
        rw [← hc] at hy c0 c4 hstep
        clear hc
        have z0 : (0 : Int) ≤ (k : Int) := by omega
        have z1 : (k : Int) < (l.length : Int) := by omega
        go_wp2_with (at_builtin; refine wpList_append_own _ rfl _ _ 100 rfl w.heap.size 5 i0 (.int .u8 0) 1 1 Try.underlying100 HI.out.1 HI.out.2.1 HI.out.2.2.1 HI.out.2.2.2 rfl (by decide) _ _ _ rfl (World.ownsRow.alloc ho _) ⟨wr.heap.size, 0, none⟩ 1 1 [.int .u8 (65 + c)] rfl rfl (cell_one_new _ _ _) (one_u8 _) (by unfold maxLen; omega) (by omega) (le_alloc hb (Nat.le_refl _) _) ?_; intro v' w2 hown' hgrow _)
        have ho' := OwnB.snoc (by omega) (by omega) hown'
        have hb' := (hb.alloc hb.size (.cells #[.int .u8 (65 + c)] 5)).grown hgrow (by simp; have := hb.size; omega) (fun k hk => (OwnB.lt ho k hk).1)
        have om' := OwnI.keptBy (World.ownsRow.alloc om (.cells #[.int .u8 (65 + c)] 5)) hgrow (fun g hg => own_apart ho om g hg)
        clear hown' hgrow
        go_wp2_with fail
        go_roundw
        case rel => exact ⟨k + 1, _, by omega, by go_num, Lib.hid (by rw [hstep.out, ← hbs.out]), ho', om', hb'⟩
        case measure => simp [intOf]; omega
      · obtain rfl : k = l.length := by omega
        have hc := OwnB.conv (P := Try.prog) Try.underlying100 Try.underlying5 Try.underlying9 ho
        go_wp2_with fail
        go_ret
        exact ⟨ret_s (by rw [← HF.out, hbs.out, List.take_length]), hb⟩
end Go.Proofs.Ytficnbeciohpfaa
namespace Go.Proofs.Ytficnbeciohpfaa
open Go.RowKit

theorem isA_cols {n x : Int} (h : isA n x = true) : 0 ≤ n ∧ n ≤ 5 := by unfold isA at h; rw [decide_eq_true_iff] at h; exact h.1
theorem depB_eq (n l r : Int) : depB n l r = (isA n l && (decide (0 ≤ r) && decide (r < n))) := by
  rw [Bool.eq_iff_iff, depB_iff, Bool.and_eq_true, Bool.and_eq_true, decide_eq_true_iff, decide_eq_true_iff]
  constructor
  · rintro ⟨h1, h2, h3, h4⟩; exact ⟨h2, h3, by omega⟩
  · rintro ⟨h1, h2, h3⟩
    have hn := isA_cols h1
    exact ⟨by omega, h1, h2, by omega⟩
set_option maxHeartbeats 800000 in
theorem implIsDep_any (n l r : Int) (_w0 : (Lit.int .i64 n).wf = true) (_w1 : (Lit.int .i64 l).wf = true) (_w2 : (Lit.int .i64 r).wf = true) (w : World) :
    Calls Try.prog 12 #[.int .i64 n, .agg #[.int .i64 l, .int .i64 r]] w fun e w' => e = .returned (.bool (depB n l r)) ∧ Below w.heap.size w w' := by
  have hb1 := (Below.refl w.heap.size w).alloc (Nat.le_refl _) (.cells #[.int .i64 l, .int .i64 r] 25)
  obtain ⟨c0, c1⟩ := zero2 w 25 (.int .i64 l) (.int .i64 r)
  have HBX := Lib.hid (fun w' (hb : Below (w.alloc (.cells #[.int .i64 l, .int .i64 r] 25)).heap.size (w.alloc (.cells #[.int .i64 l, .int .i64 r] 25)) w') => And.intro (hb1.trans (hb.mono hb1.size)) (box2 hb))
  have HA := Lib.hid (implIsA_any n l (wf_i64_ge _w1) (wf_i64_le _w1))
  have hE := depB_eq n l r
  cases ha : isA n l with
  | false =>
    rw [ha] at HA hE
    have HE : Hid (depB n l r = false) := Lib.hid (by rw [hE]; rfl)
    clear hE ha
    go_enter Try.func12, Try.ntmps12
    go_wp2_with fail
    refine (HA.out _).mono ?_
    rintro e w1 ⟨rfl, b1⟩
    obtain ⟨hb2, d0, d1⟩ := HBX.out _ b1
    clear b1 c0 c1
    go_wp2_with fail
    go_ret
    exact ⟨ret_b HE.out, hb2⟩
  | true =>
    rw [ha] at HA hE
    rw [Bool.true_and] at hE
    by_cases h0 : 0 ≤ r
    · by_cases h1 : r < n
      · have HE : Hid (depB n l r = true) := Lib.hid (by rw [hE, decide_eq_true h0, decide_eq_true h1]; rfl)
        clear hE ha
        go_enter Try.func12, Try.ntmps12
        go_wp2_with fail
        refine (HA.out _).mono ?_
        rintro e w1 ⟨rfl, b1⟩
        obtain ⟨hb2, d0, d1⟩ := HBX.out _ b1
        clear b1 c0 c1
        go_wp2_with fail
        go_ret
        exact ⟨ret_b HE.out, hb2⟩
      · have HE : Hid (depB n l r = false) := Lib.hid (by rw [hE, decide_eq_false h1]; simp)
        clear hE ha
        go_enter Try.func12, Try.ntmps12
        go_wp2_with fail
        refine (HA.out _).mono ?_
        rintro e w1 ⟨rfl, b1⟩
        obtain ⟨hb2, d0, d1⟩ := HBX.out _ b1
        clear b1 c0 c1
        go_wp2_with fail
        go_ret
        exact ⟨ret_b (by rw [HE.out, decide_eq_false (Int.not_lt.2 h1)]), hb2⟩
    · have HE : Hid (depB n l r = false) := Lib.hid (by rw [hE, decide_eq_false h0]; rfl)
      clear hE ha
      go_enter Try.func12, Try.ntmps12
      go_wp2_with fail
      refine (HA.out _).mono ?_
      rintro e w1 ⟨rfl, b1⟩
      obtain ⟨hb2, d0, d1⟩ := HBX.out _ b1
      clear b1 c0 c1
      go_wp2_with fail
      go_ret
      exact ⟨ret_b HE.out, hb2⟩
theorem depB_five {l r : Int} (h : depB 5 l r = true) : ∃ L R : Nat, l = (L : Int) ∧ r = (R : Int) ∧ L < 32 ∧ R ≤ 4 := by
  rw [depB_iff] at h
  obtain ⟨-, h2, h3, h4⟩ := h
  unfold isA at h2
  rw [decide_eq_true_iff] at h2
  obtain ⟨-, h5, h6⟩ := h2
  have h7 : l ≤ 31 := h6
  exact ⟨l.toNat, r.toNat, by omega, by omega, by omega, by omega⟩
theorem fmtD_dep (l r : Int) : fmtD l r = if depB 5 l r = true then fmtA l ++ ⟨#[62]⟩ ++ fmtA (2 ^ r.toNat : Nat) else ⟨#[]⟩ := by
  have h : (depB 5 l r = true) ↔ (valB l = true ∧ 0 ≤ r ∧ r ≤ 4) := by
    rw [depB_iff]
    unfold isA valB
    rw [decide_eq_true_iff, decide_eq_true_iff]
    have : (2 : Int) ^ (5 : Int).toNat - 1 = 31 := rfl
    rw [this]
    constructor
    · rintro ⟨-, ⟨-, h1⟩, h2, h3⟩; exact ⟨h1, h2, by omega⟩
    · rintro ⟨h1, h2, h3⟩; exact ⟨by omega, ⟨by omega, h1⟩, h2, by omega⟩
  unfold fmtD
  by_cases h' : depB 5 l r = true
  · rw [if_pos h', if_pos (h.1 h')]
  · rw [if_neg h', if_neg (fun e => h' (h.2 e))]
set_option maxHeartbeats 1600000 in
theorem implFormatDep_any (l r : Int) (_w0 : (Lit.int .i64 l).wf = true) (_w1 : (Lit.int .i64 r).wf = true) (w : World) :
    Calls Try.prog 23 #[.agg #[.int .i64 l, .int .i64 r]] w fun e w' => e = .returned (.string (fmtD l r)) ∧ Below w.heap.size w w' := by
  have hb1 := (Below.refl w.heap.size w).alloc (Nat.le_refl _) (.cells #[.int .i64 l, .int .i64 r] 25)
  obtain ⟨c0, c1⟩ := zero2 w 25 (.int .i64 l) (.int .i64 r)
  have HBX := Lib.hid (fun w' (hb : Below (w.alloc (.cells #[.int .i64 l, .int .i64 r] 25)).heap.size (w.alloc (.cells #[.int .i64 l, .int .i64 r] 25)) w') => And.intro (hb1.trans (hb.mono hb1.size)) (box2 hb))
  have HRF := Lib.hid (Below.refl (w.alloc (.cells #[.int .i64 l, .int .i64 r] 25)).heap.size (w.alloc (.cells #[.int .i64 l, .int .i64 r] 25)))
  have hE := fmtD_dep l r
  have HI := Lib.hid (implIsDep_any 5 l r (by decide) _w0 _w1)
  cases hd : depB 5 l r with
  | false =>
    rw [hd] at hE HI
    have HE : Hid (fmtD l r = ⟨#[]⟩) := Lib.hid (by rw [hE, if_neg (by decide)])
    clear hE hd hb1
    go_enter Try.func23, Try.ntmps23
    go_wp2_with fail
    refine (HI.out _).mono ?_
    rintro e w1 ⟨rfl, b1⟩
    obtain ⟨hb2, d0, d1⟩ := HBX.out _ b1
    clear b1 c0 c1
    go_wp2_with fail
    go_ret
    exact ⟨ret_s HE.out, hb2⟩
  | true =>
    rw [hd] at hE HI
    rw [if_pos rfl] at hE
    obtain ⟨L, R, rfl, rfl, hL, hR⟩ := depB_five hd
    rw [show ((R : Int)).toNat = R from rfl] at hE
    have hw : wrap64 (2 ^ R) = ((2 ^ R : Nat) : Int) := by
      rcases (show R = 0 ∨ R = 1 ∨ R = 2 ∨ R = 3 ∨ R = 4 by omega) with rfl | rfl | rfl | rfl | rfl <;> decide +kernel
    have hp : 2 ^ R < 32 := by
      rcases (show R = 0 ∨ R = 1 ∨ R = 2 ∨ R = 3 ∨ R = 4 by omega) with rfl | rfl | rfl | rfl | rfl <;> decide
    have HF := text_any L hL
    have HF2 := text_any (2 ^ R) hp
    rw [← hw] at HF2
    have hs := fmtA_size (L : Int)
    have hts := fmtA_size (wrap64 (2 ^ R))
    obtain ⟨s, hss⟩ : ∃ s, s = fmtA (L : Int) := ⟨_, rfl⟩
    obtain ⟨t, ht⟩ : ∃ t, t = fmtA (wrap64 (2 ^ R)) := ⟨_, rfl⟩
    rw [← hss] at HF hs hE
    rw [← ht] at HF2 hts
    rw [hw] at ht
    rw [← ht] at hE
    have HE := Lib.hid hE
    replace HF := Lib.hid HF
    replace HF2 := Lib.hid HF2
    have hcat : s.size + (({ data := #[62] } : ByteArray)).size ≤ 9223372036854775807 := by show s.size + 1 ≤ _; omega
    have hcat2 : (s ++ ({ data := #[62] } : ByteArray)).size + t.size ≤ 9223372036854775807 := by
      have : (s ++ ({ data := #[62] } : ByteArray)).size = s.size + 1 := by rw [str_size, str_add, List.length_append, ← str_size]; rfl
      omega
    clear hE hd hb1 hss ht hw
    go_enter Try.func23, Try.ntmps23
    go_wp2_with fail
    refine (HI.out _).mono ?_
    rintro e w1 ⟨rfl, b1⟩
    clear c0 c1
    have b2 := HRF.out.trans (b1.mono HRF.out.size)
    obtain ⟨hb3, c0, c1⟩ := HBX.out _ b2
    clear b1
    go_wp2_with fail
    refine (HF.out _).mono ?_
    rintro e w2 ⟨rfl, b3⟩
    have hb4 := hb3.trans (b3.mono hb3.size)
    clear c0 c1 b3
    go_wp2_with fail
    refine (HF2.out _).mono ?_
    rintro e w3 ⟨rfl, b3⟩
    have hb5 := hb4.trans (b3.mono hb4.size)
    clear b3
    go_wp2_with fail
    go_ret
    exact ⟨ret_s HE.out, hb5⟩
end Go.Proofs.Ytficnbeciohpfaa
