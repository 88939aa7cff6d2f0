/- ParseInt of the program, by contract. Conditions: at most 2^20 bytes; the library's table of powers of ten reads as its initialiser lays it. -/
import Derived.Test.YtnelddlbpdpndaaDoorFmt2
import Derived.Test.YtnelddlbpdpndaaDoorParse
namespace Go.Proofs.YtnelddlbpdpndaaDoor
open Go.RowKit

theorem PA.notD {l : List UInt8} {t : ByteArray} (hb : body l = t.data.toList) {k : Nat} (hk : k < t.size) (h : ¬ isD (t[k]'hk)) : PA l 0 false :=
  .inr ⟨fun m _ e => by
    subst e
    have e1 := (itoa_parts m).1
    have e2 : t.data.toList = Lib.decDigits m.natAbs := hb.symm.trans e1
    have hm : (t[k]'hk) ∈ t.data.toList := List.getElem_mem (l := t.data.toList) (n := k) (by rw [← str_size]; exact hk)
    rw [e2] at hm
    exact h ((dec_facts m.natAbs).2.2.1 _ hm), rfl, rfl⟩
theorem body_dk_le (l : List UInt8) (h : (body l).length ≤ 9) : dk l ≤ 9 := by
  have := (dv_lt (body l)).2
  rw [(dv_body l).2] at this; omega
theorem cutMinus (s : ByteArray) (w : World) : Calls Tryd.prog 74 #[.string s, .string ⟨#[45]⟩] w fun e w' => e = .returned (.tuple #[.string ⟨(body s.data.toList).toArray⟩, .bool (minus s.data.toList)]) ∧ w = w' :=
  (Tryd.strings_CutPrefix s ⟨#[45]⟩ w).mono fun _ _ ⟨he, hw⟩ => ⟨he, hw.symm⟩
theorem iter_pos' {w : World} {k : Nat} {s : ByteArray} {p : Nat} (h : w.heap[k]? = some (.stringIter s p)) : w.iterPos k = p := by simp [World.iterPos, h]

set_option maxHeartbeats 800000 in
theorem implPI (s : ByteArray) (w : World) (hT : Tab w.heap.size w) :
    Calls Tryd.prog 62 #[.string s] w (IntOk (PA s.data.toList) w) := by
  have HT := Lib.hid hT
  clear hT
  obtain ⟨t, ht⟩ : ∃ t : ByteArray, t = ⟨(body s.data.toList).toArray⟩ := ⟨_, rfl⟩
  obtain ⟨b, hb⟩ : ∃ b : Bool, b = minus s.data.toList := ⟨_, rfl⟩
  have hcut : ∀ w, Calls Tryd.prog 74 #[.string s, .string ⟨#[45]⟩] w fun e w' => e = .returned (.tuple #[.string t, .bool b]) ∧ w = w' := fun w => by rw [ht, hb]; exact cutMinus s w
  have HC := Lib.hid hcut
  have HB : Hid (body s.data.toList = t.data.toList) := Lib.hid (by rw [ht])
  have HM : Hid (minus s.data.toList = b) := Lib.hid hb.symm
  clear hcut ht hb
  by_cases hlen : 9 < t.size
  · go_enter Tryd.func62, Tryd.ntmps62
    go_wp2_with fail
    refine (HC.out _).mono ?_
    rintro e w' ⟨rfl, rfl⟩
    go_wp2_with fail
    go_ret2
    exact ⟨_, _, PA.longBody (by rw [HB.out, ← str_size]; exact hlen), rfl, Below.refl _ _⟩
  · go_enter Tryd.func62, Tryd.ntmps62
    go_wp2_with fail
    refine (HC.out _).mono ?_
    rintro e w' ⟨rfl, rfl⟩
    go_wp2_with fail
    go_loopw [6] (fun n wr => ∃ (pos m : Nat), pos ≤ t.size ∧ n = .int .i64 (m : Int) ∧ Hid (m = dv (t.data.toList.take pos)) ∧ wr.heap[w.heap.size]? = some (.stringIter t pos) ∧ Below w.heap.size w wr) (fun _ wr => t.size - wr.iterPos w.heap.size)
    case atStart =>
      refine ⟨0, 0, by omega, rfl, Lib.hid rfl, ?_, (Below.refl _ _).alloc (Nat.le_refl _) _⟩
      have := World.iter_heap w t 0
      simpa using this
    case round =>
      obtain ⟨pos, m, hps, rfl, hm, hit, hb⟩ := hrel
      have hm9 : (m : Int) ≤ 999999999 := by
        have h1 := (dv_lt (t.data.toList.take pos)).1
        have h2 := (dv_lt (t.data.toList.take pos)).2
        have h3 : (t.data.toList.take pos).length ≤ 9 := by simp; omega
        have h4 : 10 ^ dk (t.data.toList.take pos) ≤ 10 ^ 9 := Nat.pow_le_pow_right (by omega) (by omega)
        rw [hm.out]; omega
      by_cases hp : pos < t.size
      · by_cases ha : (t[pos]'hp).toNat < 128
        · have hnx : ∀ ty, (Instr.next (.pointer (some ⟨w.heap.size, 0, none⟩)) true ty).run Tryd.prog wr = _ := fun ty => Lib.run_next_ascii_at wr w.heap.size t pos ty hit hp ha
          have hit2 := Lib.iterAt_heap wr w.heap.size t pos (pos + 1) hit
          have hb2 := Lib.below_iterAt hb (k := w.heap.size) (Nat.le_refl _) t (pos + 1)
          by_cases hd : isD (t[pos]'hp)
          · have hd1 : 48 ≤ ((t[pos]'hp).toNat : Int) := by unfold isD at hd; omega
            have hd2 : ((t[pos]'hp).toNat : Int) ≤ 57 := by unfold isD at hd; omega
            have HD := Lib.hid hd
            clear hd ha
            go_wp2_with fail
            go_roundw
            case rel => exact ⟨pos + 1, dv (t.data.toList.take pos) * 10 + ((t[pos]'hp).toNat - 48), by omega, by have := hm.out; go_num, Lib.hid (by rw [(dv_take t pos hp HD.out).1]), hit2, hb2⟩
            case measure => rw [iter_pos' hit2, iter_pos' hit]; omega
          · have HD : Hid (¬ isD (t[pos]'hp)) := Lib.hid hd
            by_cases hlo : ((t[pos]'hp).toNat : Int) < 48
            · clear hd ha
              go_wp2_with fail
              go_ret2
              exact ⟨_, _, PA.notD HB.out hp HD.out, rfl, hb2⟩
            · have hhi : 57 < ((t[pos]'hp).toNat : Int) := by unfold isD at hd; omega
              clear hd ha
              go_wp2_with fail
              go_ret2
              exact ⟨_, _, PA.notD HB.out hp HD.out, rfl, hb2⟩
        · have hnx : ∀ ty, (Instr.next (.pointer (some ⟨w.heap.size, 0, none⟩)) true ty).run Tryd.prog wr = _ := fun ty => Lib.run_next_any_at wr w.heap.size t pos ty hit hp
          have hb2 := Lib.below_iterAt hb (k := w.heap.size) (Nat.le_refl _) t (pos + (Utf8.decode t pos).2)
          have hhi := (decode_high t pos hp (by omega)).1
          have hhi2 : 57 < ((Utf8.decode t pos).1 : Int) := by omega
          have HD : Hid (¬ isD (t[pos]'hp)) := Lib.hid (by unfold isD; omega)
          clear hhi ha
          go_wp2_with fail
          go_ret2
          exact ⟨_, _, PA.notD HB.out hp HD.out, rfl, hb2⟩
      · have hnx : ∀ ty, (Instr.next (.pointer (some ⟨w.heap.size, 0, none⟩)) true ty).run Tryd.prog wr = _ := fun ty => Lib.run_next_end_at wr w.heap.size t pos ty hit hp
        have hfull : t.data.toList.take pos = t.data.toList := List.take_of_length_le (by rw [← str_size]; omega)
        have HV : Hid (val s.data.toList = if b = true then -(m : Int) else (m : Int)) := Lib.hid (by unfold val; rw [HM.out, HB.out, hm.out, hfull])
        have HK : Hid (dk s.data.toList ≤ 9) := Lib.hid (body_dk_le _ (by rw [HB.out, ← str_size]; omega))
        clear hfull
        cases b with
        | true =>
          have HV' : Hid (val s.data.toList = -(m : Int)) := Lib.hid (by rw [HV.out, if_pos rfl])
          go_wp2_with fail
          refine (implFI (-(m : Int)) (by omega) (by omega) _ _ (HT.out.on hb)).mono ?_
          rintro e w' ⟨rfl, hb3⟩
          go_wp2_with fail
          all_goals go_ret2
          · have hh : (!((itoaB (-(m : Int))).toList == s.toList)) = true := by assumption
            have ht : ((itoaB (-(m : Int))).toList == s.toList) = false := not_true hh
            have h3 := itoa_eq_false ht
            rw [← HV'.out] at h3
            exact ⟨_, _, PA.other h3, rfl, hb.trans (hb3.mono hb.size)⟩
          · have hh : (!((itoaB (-(m : Int))).toList == s.toList)) = false := by assumption
            have ht : ((itoaB (-(m : Int))).toList == s.toList) = true := not_false' hh
            have h3 := itoa_eq_true ht
            rw [← HV'.out] at h3
            exact ⟨_, _, by have := PA.good HK.out h3; rwa [HV'.out] at this, rfl, hb.trans (hb3.mono hb.size)⟩
        | false =>
          have HV' : Hid (val s.data.toList = (m : Int)) := Lib.hid (by rw [HV.out, if_neg (by simp)])
          go_wp2_with fail
          refine (implFI (m : Int) (by omega) (by omega) _ _ (HT.out.on hb)).mono ?_
          rintro e w' ⟨rfl, hb3⟩
          go_wp2_with fail
          all_goals go_ret2
          · have hh : (!((itoaB ((m : Int))).toList == s.toList)) = true := by assumption
            have ht : ((itoaB ((m : Int))).toList == s.toList) = false := not_true hh
            have h3 := itoa_eq_false ht
            rw [← HV'.out] at h3
            exact ⟨_, _, PA.other h3, rfl, hb.trans (hb3.mono hb.size)⟩
          · have hh : (!((itoaB ((m : Int))).toList == s.toList)) = false := by assumption
            have ht : ((itoaB ((m : Int))).toList == s.toList) = true := not_false' hh
            have h3 := itoa_eq_true ht
            rw [← HV'.out] at h3
            exact ⟨_, _, by have := PA.good HK.out h3; rwa [HV'.out] at this, rfl, hb.trans (hb3.mono hb.size)⟩
end Go.Proofs.YtnelddlbpdpndaaDoor
