/- Facts and contracts for the law on integer encodings: each decoder undoes its encoder. Conditions: as stated. -/
import Derived.Test.YtcjjlgkimklegaaDoorDecFix
import Derived.Test.YtcjjlgkimklegaaDoorEncFix
import Derived.Test.YtcjjlgkimklegaaDoorDecVar
import Derived.Test.YtcjjlgkimklegaaDoorDecHex
import Derived.Test.YtcjjlgkimklegaaDoorParse2
import Derived.Test.YtcjjlgkimklegaaDoorDraw3
import Derived.Deep.Cut
import Derived.Deep.DeepCutAuto
namespace Go.Proofs.YtcjjlgkimklegaaDoor
open Go.RowKit

/-! ### Varints -/
theorem gv_vi (n : Nat) : gv (vi n) = n := by
  induction n using Nat.strongRecOn with
  | ind n ih =>
    by_cases h : n < 128
    · rw [vi_last h]
      have : n % 256 = n := Nat.mod_eq_of_lt (by omega)
      simp [gv, this]; omega
    · rw [vi_more (by omega), gv, ih (n / 128) (by omega)]
      have : (128 + n % 128) % 256 = 128 + n % 128 := Nat.mod_eq_of_lt (by omega)
      simp [this]; omega
theorem vi_len (k n : Nat) (h : n < 128 ^ (k + 1)) : 1 ≤ (vi n).length ∧ (vi n).length ≤ k + 1 := by
  induction k generalizing n with
  | zero => rw [vi_last (by omega)]; simp
  | succ k ih =>
    by_cases h1 : n < 128
    · rw [vi_last h1]; simp
    · rw [vi_more (by omega)]
      have := ih (n / 128) (by rw [Nat.pow_succ] at h; omega)
      simp; omega
theorem vi_len7 {n : Int} (h0 : 0 ≤ n) (h1 : n ≤ 562949953421311) : 1 ≤ (vi n.toNat).length ∧ (vi n.toNat).length ≤ 7 := vi_len 6 n.toNat (by omega)
theorem DV_back {n : Int} (h0 : 0 ≤ n) (h1 : n ≤ 562949953421311) (t : List UInt8) : DV (vi n.toNat ++ t) n ((vi n.toNat).length : Int) := by
  obtain ⟨a, b⟩ := vi_len7 h0 h1
  have e : (vi n.toNat ++ t).take ((vi n.toNat).length - 1 + 1) = vi n.toNat := by
    rw [Nat.sub_add_cancel a]; simp
  refine .inl ⟨(vi n.toNat).length - 1, by omega, by simp; omega, ?_, ?_, by omega⟩
  · unfold okAt; rw [e, gv_vi]
  · rw [e, gv_vi]; omega
def evB (n : Int) : ByteArray := if 0 ≤ n ∧ n ≤ 562949953421311 then viB n else ⟨#[]⟩
theorem implEV_any (n : Int) (w : World) :
    Calls Tryd.prog 9 #[.int .i64 n] w fun e w' => e = .returned (.string (evB n)) ∧ Below w.heap.size w w' := by
  by_cases h : 0 ≤ n ∧ n ≤ 562949953421311
  · have e : evB n = viB n := by unfold evB; rw [if_pos h]
    rw [e]; exact implEV n w h.1 h.2
  · have e : evB n = ⟨#[]⟩ := by unfold evB; rw [if_neg h]
    rw [e]; exact (implEV_none n w h).mono fun _ _ ⟨a, b⟩ => ⟨a, b ▸ Below.refl _ _⟩
theorem evB_in {n : Int} (h : 0 ≤ n ∧ n ≤ 562949953421311) : (evB n).data.toList = vi n.toNat ∧ (evB n).toList.isEmpty = false ∧ ((evB n).size : Int) = ((vi n.toNat).length : Int) ∧ (evB n).size ≤ 7 := by
  have e : evB n = viB n := by unfold evB; rw [if_pos h]
  have l := vi_len7 h.1 h.2
  rw [e]
  refine ⟨by simp [viB], ?_, by rw [str_size]; simp [viB], by rw [str_size]; simp [viB]; omega⟩
  rw [ByteArray.toList_eq]
  cases hv : vi n.toNat with
  | nil => rw [hv] at l; simp at l
  | cons a t => simp [viB, hv]
theorem evB_out {n : Int} (h : ¬ (0 ≤ n ∧ n ≤ 562949953421311)) : evB n = ⟨#[]⟩ := by unfold evB; rw [if_neg h]
theorem evB_size (n : Int) : (evB n).size ≤ 7 := by
  by_cases h : 0 ≤ n ∧ n ≤ 562949953421311
  · exact (evB_in h).2.2.2
  · rw [evB_out h]; show 0 ≤ 7; omega

/-! ### Fixed widths -/
theorem fbe_be (k : Nat) (n : Int) (h : n / 256 ^ k = 0) : fbe (be k n) = n := by
  induction k generalizing n with
  | zero => simp at h; subst h; rfl
  | succ k ih =>
    have hp : (0 : Int) ≤ n % 256 := by omega
    rw [be, fbe_snoc, ih (n / 256) (by rw [div_pow_succ']; exact h)]
    have : (n % 256).toNat % 256 = (n % 256).toNat := Nat.mod_eq_of_lt (by omega)
    simp [this]; omega
def efV (n wd : Int) : ByteArray := if (1 ≤ wd ∧ wd ≤ 7) ∧ 0 ≤ n then efB n wd else ⟨#[]⟩
theorem specEF_any (n wd : Int) (h9 : n ≤ 9223372036854775807) (w : World) :
    Calls Tryd.prog 14 #[.int .i64 n, .int .i64 wd] w fun e w' => e = .returned (.string (efV n wd)) ∧ Below w.heap.size w w' := by
  by_cases h : (1 ≤ wd ∧ wd ≤ 7) ∧ 0 ≤ n
  · have e : efV n wd = efB n wd := by unfold efV; rw [if_pos h]
    rw [e]; exact specEF n wd w h.1.1 h.1.2 h.2 h9
  · have e : efV n wd = ⟨#[]⟩ := by unfold efV; rw [if_neg h]
    rw [e]; exact specEF_none n wd w (by omega)
theorem implEF_any (n wd : Int) (h9 : n ≤ 9223372036854775807) (w : World) :
    Calls Tryd.prog 12 #[.int .i64 n, .int .i64 wd] w fun e w' => e = .returned (.string (efV n wd)) ∧ Below w.heap.size w w' := by
  by_cases h : (1 ≤ wd ∧ wd ≤ 7) ∧ 0 ≤ n
  · have e : efV n wd = efB n wd := by unfold efV; rw [if_pos h]
    rw [e]
    obtain ⟨d, rfl⟩ : ∃ d : Nat, wd = d := ⟨wd.toNat, by omega⟩
    by_cases h5 : n / 256 ^ d = 0
    · exact implEF n d w (by omega) (by omega) h.2 h9 h5
    · exact implEF_far n d w (by omega) (by omega) h.2 h5
  · have e : efV n wd = ⟨#[]⟩ := by unfold efV; rw [if_neg h]
    rw [e]; exact implEF_none n wd w (by omega)
/-- An encoded number of a width: its text, and what is read back of it. -/
theorem efV_facts (n wd : Int) : (efV n wd).toList.isEmpty = true ∧ (efV n wd).size = 0 ∨
    (efV n wd).toList.isEmpty = false ∧ 1 ≤ wd ∧ wd ≤ 7 ∧ ((efV n wd).size : Int) = wd ∧ ∀ t : List UInt8, fbe (((efV n wd).data.toList ++ t).take wd.toNat) = n := by
  by_cases h : (1 ≤ wd ∧ wd ≤ 7) ∧ 0 ≤ n
  · have e : efV n wd = efB n wd := by unfold efV; rw [if_pos h]
    rw [e]
    by_cases h5 : n / 256 ^ wd.toNat = 0
    · right
      have e2 : (efB n wd).data.toList = be wd.toNat n := by unfold efB; rw [if_pos h5]
      have e3 : ((efB n wd).size : Int) = wd := by rw [str_size, e2, be_length]; omega
      refine ⟨?_, h.1.1, h.1.2, e3, fun t => ?_⟩
      · rw [ByteArray.toList_eq, e2]
        cases hb : be wd.toNat n with
        | nil => have := be_length wd.toNat n; rw [hb] at this; simp at this; omega
        | cons a t => rfl
      · rw [e2, List.take_append_of_le_length (by rw [be_length]; omega), List.take_of_length_le (by rw [be_length]; omega), fbe_be _ _ h5]
    · left
      have e2 : efB n wd = ⟨#[]⟩ := by unfold efB; rw [if_neg h5]
      rw [e2]; exact ⟨by rw [ByteArray.toList_eq]; rfl, rfl⟩
  · left
    have e : efV n wd = ⟨#[]⟩ := by unfold efV; rw [if_neg h]
    rw [e]; exact ⟨by rw [ByteArray.toList_eq]; rfl, rfl⟩
def NumOk (P : Int → Bool → Prop) (w : World) (e : Ending) (w' : World) : Prop := ∃ y ok, P y ok ∧ e = .returned (.tuple #[.int .i64 y, .bool ok]) ∧ w = w'
theorem implDF_any (s : ByteArray) (wd : Int) (hs : s.size ≤ maxLen) (w : World) :
    Calls Tryd.prog 13 #[.string s, .int .i64 wd] w (NumOk (fun y ok => 1 ≤ wd → wd ≤ 7 → wd ≤ (s.size : Int) → y = fbe (s.data.toList.take wd.toNat) ∧ ok = true) w) := by
  by_cases h : (1 ≤ wd ∧ wd ≤ 7) ∧ wd ≤ (s.size : Int)
  · obtain ⟨d, rfl⟩ : ∃ d : Nat, wd = d := ⟨wd.toNat, by omega⟩
    exact (implDF s d w hs (by omega) (by omega) (by omega)).mono fun _ _ ⟨a, b⟩ => ⟨_, _, fun _ _ _ => ⟨rfl, rfl⟩, a, b⟩
  · exact (implDF_none s wd w (by omega)).mono fun _ _ ⟨a, b⟩ => ⟨_, _, fun p q r => absurd ⟨⟨p, q⟩, r⟩ h, a, b⟩

/-! ### Hexadecimal digits -/
theorem byte_of_hex {x : Int} (h0 : 0 ≤ x) (h1 : x ≤ 15) : hexV ((UInt8.ofNat (hexN x).toNat).toNat : Int) = x := by
  have hb := hexN_bd h0 h1
  have e : ((UInt8.ofNat (hexN x).toNat).toNat : Int) = hexN x := by
    have : (hexN x).toNat % 256 = (hexN x).toNat := Nat.mod_eq_of_lt (by omega)
    simp [this]; omega
  rw [e, hexV_hexN h0 h1]
theorem dg_hex (l : List UInt8) (j : Nat) (h : j < l.length) : dg (hexL l) (2 * j) = (l[j].toNat : Int) / 16 ∧ dg (hexL l) (2 * j + 1) = (l[j].toNat : Int) % 16 := by
  induction l generalizing j with
  | nil => simp at h
  | cons b l ih =>
    have hb := b.toNat_lt
    have e : hexL (b :: l) = UInt8.ofNat (hexN ((b.toNat : Int) / 16)).toNat :: UInt8.ofNat (hexN ((b.toNat : Int) % 16)).toNat :: hexL l := by simp [hexL, hx]
    cases j with
    | zero =>
      rw [e]; unfold dg
      exact ⟨byte_of_hex (by show 0 ≤ (b.toNat : Int) / 16; omega) (by show (b.toNat : Int) / 16 ≤ 15; omega), byte_of_hex (by show 0 ≤ (b.toNat : Int) % 16; omega) (by show (b.toNat : Int) % 16 ≤ 15; omega)⟩
    | succ j =>
      have := ih j (by simpa using h)
      rw [e]
      unfold dg at this ⊢
      rw [show 2 * (j + 1) = 2 * j + 1 + 1 by omega]
      exact this
theorem pr_hex (l : List UInt8) : pr (hexL l) l.length = l := by
  apply List.ext_getElem
  · rw [pr_length]
  · intro j h1 h2
    have := dg_hex l j h2
    simp only [pr, List.getElem_map, List.getElem_range]
    unfold two
    rw [this.1, this.2]
    have e : (16 * ((l[j].toNat : Int) / 16) + (l[j].toNat : Int) % 16).toNat = l[j].toNat := by omega
    rw [e]; simp
theorem DH_back (s : ByteArray) : DH (hexB s).data.toList s true := by
  have e : (hexB s).data.toList = hexL s.data.toList := by simp [hexB]
  rw [e]
  refine .inl ⟨by rw [hexL_length]; omega, fun j hj => ?_, ?_, rfl⟩
  · rw [hexL_length] at hj
    have := dg_hex s.data.toList (j / 2) (by omega)
    by_cases h : j % 2 = 0
    · rw [show j = 2 * (j / 2) by omega, this.1]; omega
    · rw [show j = 2 * (j / 2) + 1 by omega, this.2]; omega
  · rw [hexL_length, show 2 * s.data.toList.length / 2 = s.data.toList.length by omega, pr_hex]
theorem hexB_size (s : ByteArray) : (hexB s).size = 2 * s.size := by
  rw [str_size, str_size]; simp only [hexB, hexL_length]

/-! ### Decimal numerals -/
theorem PA_in {n : Int} (h : In9 n) : PA (itoaB n).data.toList n true := by
  have e : (itoaB n).data.toList = Lib.itoa n := by simp [itoaB]
  rw [e]; exact .inl ⟨h, rfl, rfl⟩
theorem PA_out {n : Int} (h : ¬ In9 n) : PA (itoaB n).data.toList 0 false := by
  have e : (itoaB n).data.toList = Lib.itoa n := by simp [itoaB]
  rw [e]; exact .inr ⟨fun m hm e => h (by rw [itoa_inj e]; exact hm), rfl, rfl⟩
end Go.Proofs.YtcjjlgkimklegaaDoor
