/- The program's FormatAttributes and ParseAttributes, by contract. Conditions: as stated. -/
import Derived.Test.YtficnbeciohpfaaImB
import Derived.Test.YtficnbeciohpfaaSets5
import Derived.Lib.OthersKept
namespace Go.Proofs.Ytficnbeciohpfaa
open Go.RowKit

theorem info8s : (Try.prog.info? 5).map (fun i => (i.zero, i.size, i.bytes)) = some (some (.int .u8 0), 1, 1) := by kernel_rfl
/-- The letters of columns. -/
def ltr (l : List Int) : List UInt8 := l.map fun i => UInt8.ofNat (65 + i).toNat
theorem ltr_take {l : List Int} {k : Nat} (h : k < l.length) : ltr (l.take (k + 1)) = ltr (l.take k) ++ [UInt8.ofNat (65 + l[k]).toNat] := by
  unfold ltr; rw [List.take_succ_eq_append_getElem h, List.map_append]; rfl
theorem ltr_len (l : List Int) (k : Nat) : (ltr (l.take k)).length ≤ k := by
  unfold ltr; rw [List.length_map]; exact List.length_take_le _ _
theorem ltr_fmt : ∀ X : Fin 32, X.val ≠ 0 → (⟨(ltr (mems ((X.val : Nat) : Int))).toArray⟩ : ByteArray) = fmtA ((X.val : Nat) : Int) := by
  intro X h
  apply str_ext
  revert X
  decide +kernel
theorem own_apart {w : World} {B B' : Nat} {v v' : Value} {l : List UInt8} {l' : List Int} (h : OwnB w B 5 v l) (h' : OwnI w B' v' l') : ∀ g, v.ownBlock = some g → v'.ownBlock ≠ some g := by
  intro g hg hg'
  rcases h.2 with ⟨rfl, _⟩ | ⟨g1, cap, cur, rfl, hB, hgg, rest⟩
  · cases hg
  · rcases h'.2 with ⟨rfl, _⟩ | ⟨g2, cap2, cur2, rfl, hB2, hgg2, rest2⟩
    · cases hg'
    · simp [Value.ownBlock] at hg hg'
      subst hg hg'
      rw [hgg] at hgg2
      simp at hgg2
set_option maxHeartbeats 800000 in
theorem text_any (X : Nat) (hX : X < 32) (w : World) :
    Calls Try.prog 45 #[.int .i64 (X : Int)] w fun e w' => e = .returned (.string (fmtA (X : Int))) ∧ Below w.heap.size w w' := by
  obtain ⟨i0, hi, hz0, hz1, hz2⟩ := info_parts info8s
  have HI : Hid (_ ∧ _ ∧ _ ∧ _) := Lib.hid ⟨hi, hz0, hz1, hz2⟩
  clear hi hz0 hz1 hz2
  by_cases h0 : X = 0
  · subst h0
    go_enter Try.func45, Try.ntmps45
    go_wp2_with fail
    go_ret
    exact ⟨ret_s (by rfl), Below.refl _ _⟩
  · have hne : ((X : Int) == 0) = false := by simp; omega
    have HF := Lib.hid (ltr_fmt ⟨X, hX⟩ h0)
    have HM := Lib.hid (members_any X hX)
    have hml := mems_len (X : Int)
    have HB : Hid (∀ k (h : k < (mems (X : Int)).length), 0 ≤ (mems (X : Int))[k] ∧ (mems (X : Int))[k] ≤ 4) := Lib.hid fun k h => (mems_at h).2
    obtain ⟨l, hl⟩ : ∃ l, l = mems (X : Int) := ⟨_, rfl⟩
    rw [← hl] at HM HB hml
    simp only [← hl] at HF
    clear hl h0
    go_enter Try.func45, Try.ntmps45
    go_wp2_with (at_make; refine wpList_make_own _ rfl _ _ 100 rfl w.heap.size 5 i0 (.int .u8 0) 1 Try.underlying100 HI.out.1 HI.out.2.1 HI.out.2.2.1 .i64 .i64 _ 5 rfl rfl (by omega) (by rw [HI.out.2.2.2]; omega) (by unfold maxLen; omega) (Nat.le_refl _) ?_; intro w0 hown0 hgrow0)
    have hb0 := (Below.refl w.heap.size w).grown hgrow0 (Nat.le_refl _) (by simp)
    have hown := OwnB.made hown0
    clear hown0 hgrow0
    refine (HM.out _).mono ?_
    rintro e w1 ⟨v, rfl, om, hb1'⟩
    have hown1 := hown.kept hb1' (fun k hk => (OwnB.lt hown k hk).2)
    have hb1 := hb0.trans (hb1'.mono hb0.size)
    have om1 : OwnI w1 w.heap.size v l := om.base hb0.size
    obtain ⟨am, capm, rfl, -⟩ := om1.read
    clear hown hb0 hb1' om
    go_wp2_with fail
    go_loopw [3, 12] (fun ov iv wr => ∃ (k : Nat) (bs : List UInt8), k ≤ l.length ∧ iv = .int .i64 (k : Int) ∧ Hid (bs = ltr (l.take k)) ∧ OwnB wr w.heap.size 5 ov bs ∧ OwnI wr w.heap.size (.slice am l.length capm) l ∧ Below w.heap.size w wr) (fun _ iv _ => l.length - (intOf iv).toNat)
    case atStart => exact ⟨0, [], by omega, rfl, Lib.hid rfl, hown1, om1, hb1⟩
    case round =>
      obtain ⟨k, bs, hk, rfl, hbs, ho, om, hb⟩ := hrel
      clear hown1 hb1 om1
      have hll : bs.length ≤ 5 := by rw [hbs.out]; have := ltr_len l k; omega
      by_cases hlt : k < l.length
      · obtain ⟨ya, hya, hy⟩ : ∃ y, am = some y ∧ wr.cell? (y.add k) = some (.int .i64 l[k]) := by
          obtain ⟨a', cap', h1, h2⟩ := om.read
          simp at h1
          obtain ⟨rfl, -⟩ := h1
          exact h2 k hlt
        subst hya
        obtain ⟨c0, c4⟩ := HB.out k hlt
        have hstep := Lib.hid (ltr_take hlt)
        obtain ⟨c, hc⟩ : ∃ c : Int, c = l[k] := ⟨_, rfl⟩
        rw [← hc] at hy c0 c4 hstep
        clear hc
        have z0 : (0 : Int) ≤ (k : Int) := by omega
        have z1 : (k : Int) < (l.length : Int) := by omega
        go_wp2_with (at_builtin; refine wpList_append_own _ rfl _ _ 100 rfl w.heap.size 5 i0 (.int .u8 0) 1 1 Try.underlying100 HI.out.1 HI.out.2.1 HI.out.2.2.1 HI.out.2.2.2 rfl (by decide) _ _ _ rfl (World.ownsRow.alloc ho _) ⟨wr.heap.size, 0, none⟩ 1 1 [.int .u8 (65 + c)] rfl rfl (cell_one_new _ _ _) (one_u8 _) (by unfold maxLen; omega) (by omega) (le_alloc hb (Nat.le_refl _) _) ?_; intro v' w2 hown' hgrow _)
        have ho' := OwnB.snoc (by omega) (by omega) hown'
        have hb' := (hb.alloc hb.size (.cells #[.int .u8 (65 + c)] 5)).grown hgrow (by simp; have := hb.size; omega) (fun k hk => (OwnB.lt ho k hk).1)
        have om' := OwnI.keptBy (World.ownsRow.alloc om (.cells #[.int .u8 (65 + c)] 5)) hgrow (fun g hg => own_apart ho om g hg)
        clear hown' hgrow
        go_wp2_with fail
        go_roundw
        case rel => exact ⟨k + 1, _, by omega, by go_num, Lib.hid (by rw [hstep.out, ← hbs.out]), ho', om', hb'⟩
        case measure => simp [intOf]; omega
      · obtain rfl : k = l.length := by omega
        have hc := OwnB.conv (P := Try.prog) Try.underlying100 Try.underlying5 Try.underlying9 ho
        go_wp2_with fail
        go_ret
        exact ⟨ret_s (by rw [← HF.out, hbs.out, List.take_length]), hb⟩
end Go.Proofs.Ytficnbeciohpfaa
