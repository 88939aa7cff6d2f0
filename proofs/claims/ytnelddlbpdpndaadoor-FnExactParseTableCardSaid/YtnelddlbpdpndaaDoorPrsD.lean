/- The program's parseHead, parseCell, by contract. Conditions: as stated. -/
import Derived.Test.YtnelddlbpdpndaaDoorPrsC
import Derived.Test.YtnelddlbpdpndaaDoorImD
import Derived.Test.YtnelddlbpdpndaaDoorImT
import Derived.Test.YtnelddlbpdpndaaDoorParse2
namespace Go.Proofs.YtnelddlbpdpndaaDoor
open Go.RowKit

theorem Tab.at {w w1 : World} (h : Tab w.heap.size w) (hb : Below w.heap.size w w1) : Tab w1.heap.size w1 := fun w'' h' => h w'' (hb.trans (h'.mono hb.size))
/-- What a word is read as. -/
def CellR (l : List UInt8) (n : Int) (ok : Bool) : Prop := (-1 ≤ n ∧ n ≤ 40 ∧ cellB n = l ∧ ok = true) ∨ ((∀ x, -1 ≤ x → x ≤ 40 → cellB x ≠ l) ∧ n = 0 ∧ ok = false)
theorem parseCell_any (s : ByteArray) (w : World) (hT : Tab w.heap.size w) :
    Calls Tryd.prog 51 #[.string s] w (IntOk (CellR s.data.toList) w) := by
  by_cases hnull : s.data.toList = [110, 117, 108, 108]
  · have hs : s = ⟨#[110, 117, 108, 108]⟩ := str_ext hnull
    subst hs
    go_enter Tryd.func51, Tryd.ntmps51
    go_wp2_with fail
    go_ret2
    exact ⟨-1, true, .inl ⟨by omega, by omega, by rw [cellB_eq]; rfl, rfl⟩, rfl, Below.refl _ _⟩
  · have hne : (s.toList == [110, 117, 108, 108]) = false := by rw [ByteArray.toList_eq]; simpa using hnull
    have HN := Lib.hid hnull
    have HP := Lib.hid (implPI s w hT)
    have HV := Lib.hid (fun n w' => implValue_any n w')
    clear hnull hT
    go_enter Tryd.func51, Tryd.ntmps51
    go_wp2_with fail
    refine HP.out.mono ?_
    rintro e w1 ⟨n, ok, hpa, rfl, hb⟩
    have HPA := Lib.hid hpa
    clear hpa
    cases ok with
    | false =>
      go_wp2_with fail
      go_ret2
      refine ⟨0, false, .inr ⟨fun x h0 h1 he => ?_, rfl, rfl⟩, rfl, hb⟩
      rcases HPA.out with ⟨-, -, h⟩ | ⟨hno, -, -⟩
      · cases h
      · rw [cellB_eq] at he
        by_cases hx : x = -1
        · rw [if_pos hx] at he; exact HN.out he.symm
        · rw [if_neg hx] at he
          exact hno x ⟨by omega, by omega⟩ he.symm
    | true =>
      by_cases hr : 0 ≤ n ∧ n ≤ 40
      · have HQ := Lib.hid (HV.out n)
        rw [decide_eq_true hr] at HQ
        have HR := Lib.hid hr
        clear hr HV
        go_wp2_with fail
        refine (HQ.out _).mono ?_
        rintro e w' ⟨rfl, rfl⟩
        go_wp2_with fail
        go_ret2
        refine ⟨n, true, .inl ⟨by have := HR.out; omega, by have := HR.out; omega, ?_, rfl⟩, rfl, hb⟩
        rcases HPA.out with ⟨-, h, -⟩ | ⟨-, -, h⟩
        · rw [cellB_eq, if_neg (by have := HR.out; omega)]; exact h.symm
        · cases h
      · have HQ := Lib.hid (HV.out n)
        rw [decide_eq_false hr] at HQ
        have HR := Lib.hid hr
        clear hr HV
        go_wp2_with fail
        refine (HQ.out _).mono ?_
        rintro e w' ⟨rfl, rfl⟩
        go_wp2_with fail
        go_ret2
        refine ⟨0, false, .inr ⟨fun x h0 h1 he => ?_, rfl, rfl⟩, rfl, hb⟩
        rcases HPA.out with ⟨-, h, -⟩ | ⟨-, -, h⟩
        · rw [cellB_eq] at he
          by_cases hx : x = -1
          · rw [if_pos hx] at he; exact HN.out he.symm
          · rw [if_neg hx] at he
            have := itoa_inj (he.trans h)
            exact HR.out ⟨by omega, by omega⟩
        · cases h
/-- What a first line is read as. -/
def HeadR (l : List UInt8) (n : Int) (ok : Bool) : Prop := (∃ C : Nat, 1 ≤ C ∧ C ≤ 5 ∧ n = (C : Int) ∧ letC (C : Int) = l ∧ ok = true) ∨ ((∀ C : Nat, 1 ≤ C → C ≤ 5 → letC (C : Int) ≠ l) ∧ n = 0 ∧ ok = false)
theorem cnt_first : ∀ C : Fin 6, cnt (((2 ^ C.val - 1 : Nat)) : Int) = C.val := by decide +kernel
theorem letC_set {C : Nat} (h1 : 1 ≤ C) (h5 : C ≤ 5) : letC (C : Int) = (fmtA ((2 ^ C - 1 : Nat) : Int)).data.toList := by
  rcases (show C = 1 ∨ C = 2 ∨ C = 3 ∨ C = 4 ∨ C = 5 by omega) with rfl | rfl | rfl | rfl | rfl <;> rfl
theorem pow_lt32 {C : Nat} (h5 : C ≤ 5) : 2 ^ C - 1 < 32 := by
  have : 2 ^ C ≤ 2 ^ 5 := Nat.pow_le_pow_right (by omega) h5
  omega
theorem fmtA_inj {X Y : Nat} (hX : X < 32) (hY : Y < 32) (h : (fmtA (X : Int)).data.toList = (fmtA (Y : Int)).data.toList) : X = Y := by
  have := texts_apart ⟨Y, hY⟩ ⟨X, hX⟩
  simp only at this
  rw [h] at this
  simp at this
  exact this
theorem head_bad {s : ByteArray} {X : Nat} (hX : X < 32) (hs : (fmtA (X : Int)).data.toList = s.data.toList) (h : X = 0 ∨ X ≠ 2 ^ cnt (X : Int) - 1) : ∀ C : Nat, 1 ≤ C → C ≤ 5 → letC (C : Int) ≠ s.data.toList := by
  intro C h1 h5 he
  rw [letC_set h1 h5, ← hs] at he
  have := fmtA_inj (pow_lt32 h5) hX he
  subst this
  have hp : 2 ^ 1 ≤ 2 ^ C := Nat.pow_le_pow_right (by omega) h1
  rcases h with h | h
  · omega
  · exact h (by have := cnt_first ⟨C, by omega⟩; simp only at this; rw [this])
theorem parseHead_any (s : ByteArray) (w : World) :
    Calls Tryd.prog 30 #[.string s] w (IntOk (HeadR s.data.toList) w) := by
  have HP := Lib.hid (implParseA_any s w)
  go_enter Tryd.func30, Tryd.ntmps30
  go_wp2_with fail
  refine HP.out.mono ?_
  rintro e w1 ⟨x, ok, hpa, rfl, hb⟩
  rcases hpa with ⟨X, hX, rfl, htx, -, rfl⟩ | ⟨hno, rfl, rfl⟩
  · rw [isTx_eq, beq_iff_eq] at htx
    have HTX := Lib.hid htx
    clear htx
    have hc5 := cnt_le (X : Int)
    have HSZ := Lib.hid (fun w' => size_any X hX w')
    obtain ⟨C, hC⟩ : ∃ C, cnt (X : Int) = C := ⟨_, rfl⟩
    rw [hC] at HSZ hc5
    have HCN := Lib.hid hC
    clear hC
    by_cases h0 : X = 0
    · have HB := Lib.hid (head_bad hX HTX.out (.inl h0))
      subst h0
      go_wp2_with fail
      refine (HSZ.out _).mono ?_
      rintro e w' ⟨rfl, rfl⟩
      go_wp2_with fail
      go_ret2
      exact ⟨0, false, .inr ⟨HB.out, rfl, rfl⟩, rfl, hb⟩
    · have hx0 : ((X : Int) == 0) = false := by rw [beq_eq_false_iff_ne]; omega
      have HFI := Lib.hid (fun w' => first_any (C : Int) w' (by omega) (by omega))
      have hM : ((2 : Int) ^ ((C : Nat) : Int).toNat - 1) = ((2 ^ C - 1 : Nat) : Int) := by
        have h3 : ((2 ^ C : Nat) : Int) = (2 : Int) ^ C := by rw [Int.natCast_pow]; rfl
        have : 0 < 2 ^ C := Nat.pow_pos (by omega)
        rw [show ((C : Nat) : Int).toNat = C from rfl]; omega
      rw [hM] at HFI
      obtain ⟨M, hMM⟩ : ∃ M, 2 ^ C - 1 = M := ⟨_, rfl⟩
      rw [hMM] at HFI
      have HM := Lib.hid hMM
      clear hM hMM
      by_cases he : X = M
      · have hxm : ((X : Int) != (M : Int)) = false := by simp [he]
        have HE := Lib.hid he
        have H0 := Lib.hid h0
        clear he h0
        go_wp2_with fail
        refine (HSZ.out _).mono ?_
        rintro e w' ⟨rfl, rfl⟩
        go_wp2_with fail
        refine (HFI.out _).mono ?_
        rintro e w' ⟨rfl, rfl⟩
        go_wp2_with fail
        go_ret2
        have hC1 : 1 ≤ C := by
          rcases Nat.eq_zero_or_pos C with h | h
          · exfalso; have := HM.out; rw [h] at this; have := HE.out; have := H0.out; omega
          · exact h
        exact ⟨(C : Int), true, .inl ⟨C, hC1, hc5, rfl, by rw [letC_set hC1 hc5, HM.out, ← HE.out]; exact HTX.out, rfl⟩, rfl, hb⟩
      · have hxm : ((X : Int) != (M : Int)) = true := by simp; omega
        have HB := Lib.hid (head_bad hX HTX.out (.inr (by rw [HCN.out, HM.out]; exact he)))
        clear he h0
        go_wp2_with fail
        refine (HSZ.out _).mono ?_
        rintro e w' ⟨rfl, rfl⟩
        go_wp2_with fail
        refine (HFI.out _).mono ?_
        rintro e w' ⟨rfl, rfl⟩
        go_wp2_with fail
        go_ret2
        exact ⟨0, false, .inr ⟨HB.out, rfl, rfl⟩, rfl, hb⟩
  · have HNO := Lib.hid hno
    have HSZ := Lib.hid (fun w' => size_any 0 (by omega) w')
    clear hno
    go_wp2_with fail
    refine (HSZ.out _).mono ?_
    rintro e w' ⟨rfl, rfl⟩
    go_wp2_with fail
    go_ret2
    refine ⟨0, false, .inr ⟨fun C h1 h5 he => ?_, rfl, rfl⟩, rfl, hb⟩
    have h := HNO.out (2 ^ C - 1) (pow_lt32 h5)
    rw [isTx_eq, beq_eq_false_iff_ne] at h
    exact h (by rw [← letC_set h1 h5]; exact he)
end Go.Proofs.YtnelddlbpdpndaaDoor
