/- The model's FormatDep, by contract. Conditions: none. -/
import Derived.Test.YtficnbeciohpfaaDepA
import Derived.Test.YtficnbeciohpfaaSets3
namespace Go.Proofs.Ytficnbeciohpfaa
open Go.RowKit

theorem fmtA_empty (x : Int) : (fmtA x).toList.isEmpty = !valB x := by
  rw [ByteArray.toList_eq]
  unfold fmtA valB
  by_cases h : 0 ≤ x ∧ x ≤ 31
  · rw [if_pos h, decide_eq_true h]
    split
    · rfl
    · next hl =>
      cases hq : lets x.toNat 5 with
      | nil => exact absurd hq hl
      | cons a b => rfl
  · rw [if_neg h, decide_eq_false h]; rfl
/-- The text of a dependency, empty if it has none. -/
def fmtD (l r : Int) : ByteArray := if valB l = true ∧ 0 ≤ r ∧ r ≤ 4 then fmtA l ++ ⟨#[62]⟩ ++ fmtA (2 ^ r.toNat : Nat) else ⟨#[]⟩
theorem fmtA_size (x : Int) : (fmtA x).size ≤ 5 := by
  rw [str_size]
  unfold fmtA
  split
  · split
    · decide
    · have := lets_len x.toNat 5; simpa using this
  · decide
set_option maxHeartbeats 1600000 in
theorem formatDep_any (l r : Int) (w : World) :
    Calls Try.prog 22 #[.agg #[.int .i64 l, .int .i64 r]] w fun e w' => e = .returned (.string (fmtD l r)) ∧ Below w.heap.size w w' := by
  have hb1 := (Below.refl w.heap.size w).alloc (Nat.le_refl _) (.cells #[.int .i64 l, .int .i64 r] 25)
  obtain ⟨c0, c1⟩ := zero2 w 25 (.int .i64 l) (.int .i64 r)
  have HBX := Lib.hid (fun w' (hb : Below (w.alloc (.cells #[.int .i64 l, .int .i64 r] 25)).heap.size (w.alloc (.cells #[.int .i64 l, .int .i64 r] 25)) w') => And.intro (hb1.trans (hb.mono hb1.size)) (box2 hb))
  have HRF := Lib.hid (Below.refl (w.alloc (.cells #[.int .i64 l, .int .i64 r] 25)).heap.size (w.alloc (.cells #[.int .i64 l, .int .i64 r] 25)))
  have he := fmtA_empty l
  have hs := fmtA_size l
  have HF := Lib.hid (formatS_any l)
  have HI := Lib.hid (fun w' => in_any r 0 4 w')
  by_cases hv : valB l = true
  · rw [hv] at he
    by_cases hr : 0 ≤ r ∧ r ≤ 4
    · have hd : decide (0 ≤ r ∧ r ≤ 4) = true := decide_eq_true hr
      have HE : Hid (fmtD l r = fmtA l ++ ⟨#[62]⟩ ++ fmtA (2 ^ r.toNat : Nat)) := Lib.hid (by unfold fmtD; rw [if_pos ⟨hv, hr⟩])
      obtain ⟨R, rfl⟩ : ∃ R : Nat, r = (R : Int) := ⟨r.toNat, by omega⟩
      rw [show ((R : Int)).toNat = R from rfl] at HE
      have hR : R ≤ 4 := by omega
      rw [hd] at HI
      obtain ⟨s, hss⟩ : ∃ s, s = fmtA l := ⟨_, rfl⟩
      rw [← hss] at HE HF he hs
      have hw : wrap64 (2 ^ R) = ((2 ^ R : Nat) : Int) := by
        rcases (show R = 0 ∨ R = 1 ∨ R = 2 ∨ R = 3 ∨ R = 4 by omega) with rfl | rfl | rfl | rfl | rfl <;> decide +kernel
      have HF2 := formatS_any (wrap64 (2 ^ R))
      obtain ⟨t, ht⟩ : ∃ t, t = fmtA (wrap64 (2 ^ R)) := ⟨_, rfl⟩
      have hts := fmtA_size (wrap64 (2 ^ R))
      rw [← ht] at HF2 hts
      rw [hw] at ht
      rw [← ht] at HE
      replace HF2 := Lib.hid HF2
      have hcat : s.size + (({ data := #[62] } : ByteArray)).size ≤ 9223372036854775807 := by show s.size + 1 ≤ _; omega
      have hcat2 : (s ++ ({ data := #[62] } : ByteArray)).size + t.size ≤ 9223372036854775807 := by
        have : (s ++ ({ data := #[62] } : ByteArray)).size = s.size + 1 := by rw [str_size, str_add, List.length_append, ← str_size]; rfl
        omega
      clear hv hr hd hss hb1 ht hw
      go_enter Try.func22, Try.ntmps22
      go_wp2_with fail
      refine (HF.out _).mono ?_
      rintro e w1 ⟨rfl, b1⟩
      clear c0 c1
      have b2 := HRF.out.trans (b1.mono HRF.out.size)
      obtain ⟨hb3, c0, c1⟩ := HBX.out _ b2
      clear b1
      go_wp2_with fail
      refine (HI.out _).mono ?_
      rintro e w2 ⟨rfl, rfl⟩
      go_wp2_with fail
      refine (HF2.out _).mono ?_
      rintro e w3 ⟨rfl, b3⟩
      have hb4 := hb3.trans (b3.mono hb3.size)
      clear b3 c0 c1
      go_wp2_with fail
      go_ret
      exact ⟨ret_s HE.out, hb4⟩
    · have hd : decide (0 ≤ r ∧ r ≤ 4) = false := decide_eq_false hr
      have HE : Hid (fmtD l r = ⟨#[]⟩) := Lib.hid (by unfold fmtD; rw [if_neg (fun h => hr h.2)])
      rw [hd] at HI
      obtain ⟨s, hss⟩ : ∃ s, s = fmtA l := ⟨_, rfl⟩
      rw [← hss] at HF he hs
      clear hv hr hd hss hb1
      go_enter Try.func22, Try.ntmps22
      go_wp2_with fail
      refine (HF.out _).mono ?_
      rintro e w1 ⟨rfl, b1⟩
      clear c0 c1
      have b2 := HRF.out.trans (b1.mono HRF.out.size)
      obtain ⟨hb3, c0, c1⟩ := HBX.out _ b2
      clear b1
      go_wp2_with fail
      refine (HI.out _).mono ?_
      rintro e w2 ⟨rfl, rfl⟩
      go_wp2_with fail
      go_ret
      exact ⟨ret_s HE.out, hb3⟩
  · have hv2 : valB l = false := by simpa using hv
    have HE : Hid (fmtD l r = ⟨#[]⟩) := Lib.hid (by unfold fmtD; rw [if_neg (fun h => hv h.1)])
    rw [hv2] at he
    obtain ⟨s, hss⟩ : ∃ s, s = fmtA l := ⟨_, rfl⟩
    rw [← hss] at HF he hs
    clear hv hv2 hss hb1
    go_enter Try.func22, Try.ntmps22
    go_wp2_with fail
    refine (HF.out _).mono ?_
    rintro e w1 ⟨rfl, b1⟩
    clear c0 c1
    have b2 := HRF.out.trans (b1.mono HRF.out.size)
    obtain ⟨hb3, c0, c1⟩ := HBX.out _ b2
    clear b1
    go_wp2_with fail
    go_ret
    exact ⟨ret_s HE.out, hb3⟩
end Go.Proofs.Ytficnbeciohpfaa
