/- strings.SplitN at a separator of one byte, by contract. Conditions: as stated. -/
import Derived.Test.YtnelddlbpdpndaaDoorPrsB
namespace Go.Proofs.YtnelddlbpdpndaaDoor
open Go.RowKit

theorem Fil.read {w : World} {g n m : Nat} {W : List (List UInt8)} (h : Fil w g n W) (hm : m = W.length) (cap : Nat) : ReadZ w (.slice (some ⟨g, 0, none⟩) m cap) W := by
  subst hm
  exact ⟨_, cap, rfl, fun j hj => ⟨_, rfl, by rw [add_zero_off]; exact h.head j hj⟩⟩
theorem Fil.kept {w w' : World} {g n C : Nat} {W : List (List UInt8)} (h : Fil w g n W) (hb : Below C w w') (hg : g < C) : Fil w' g n W :=
  ⟨fun j hj => (hb.cell hg).trans (h.head j hj), fun j hj => by rw [hb.cell hg]; exact h.there j hj, fun j hj => by rw [hb.frozen hg]; exact h.fz j hj⟩
set_option maxRecDepth 20000 in
set_option maxHeartbeats 3200000 in
theorem genSplit_any (s : ByteArray) (b : UInt8) (c : Nat) (w : World) (hs : s.size ≤ 1048576) (hc : c ≤ 5) :
    Calls Tryd.prog 61 #[.string s, .string ⟨#[b]⟩, .int .i64 0, .int .i64 ((c : Int) + 1)] w (RetW b s.data.toList (c + 1) w) := by
  obtain ⟨i0, hi, hz0, hz1, hz2⟩ := info_parts infoStr
  have HI : Hid (_ ∧ _ ∧ _ ∧ _) := Lib.hid ⟨hi, hz0, hz1, hz2⟩
  clear hi hz0 hz1 hz2
  have hb1 : (⟨#[b]⟩ : ByteArray).size = 1 := rfl
  have hne : ((⟨#[b]⟩ : ByteArray).toList == (⟨#[]⟩ : ByteArray).toList) = false := by rw [ByteArray.toList_eq, ByteArray.toList_eq]; rfl
  obtain ⟨K, hK⟩ : ∃ K : Nat, min (c : Int) (s.size : Int) = (K : Int) := ⟨min c s.size, by omega⟩
  have hKc : K ≤ c := by omega
  have hKm : K = c ∨ K = s.size := by omega
  have e1 : ((c : Int) + 1 == 0) = false := by rw [beq_eq_false_iff_ne]; omega
  have e2 : ¬ (c : Int) + 1 < 0 := by omega
  have HK := Lib.hid hK
  have HIX := Lib.hid (fun t w' => Tryd.strings_Index_one t b w')
  go_enter Tryd.func61, Tryd.ntmps61
  go_wp2_with (at_make; refine wpList_make_full _ rfl _ _ 53 rfl w.heap.size 9 i0 (.string ⟨#[]⟩) 1 Tryd.underlying53 HI.out.1 HI.out.2.1 HI.out.2.2.1 .i64 .i64 _ _ (K + 1) rfl rfl (by omega) (by omega) (by rw [HI.out.2.2.2]; omega) (by unfold maxLen; omega) (Nat.le_refl _) ?_; intro w0 hown0 hgrow0; have hb0 := (Below.refl w.heap.size w).grown hgrow0 (Nat.le_refl _) (by simp); have HF0 := Lib.hid (Fil.made hown0); have hg0 : w.heap.size < w0.heap.size := (by rcases ownsRow_shape hown0 with ⟨h, -⟩ | ⟨g, cap, h, -, -, h2⟩; cases h; simp at h; omega); clear hown0 hgrow0)
  clear hK
  go_loopw [0, 10] (fun sv iv wr => ∃ (i : Nat) (t : ByteArray) (W : List (List UInt8)), i ≤ K ∧ sv = .string t ∧ iv = .int .i64 (i : Int) ∧ Hid (cutL b s.data.toList = W ++ cutL b t.data.toList) ∧ Hid (W.length = i) ∧ t.size + i ≤ s.size ∧ Hid (Fil wr w.heap.size (K + 1) W) ∧ Below w.heap.size w wr ∧ w.heap.size < wr.heap.size) (fun _ iv _ => K - (intOf iv).toNat)
  case atStart => exact ⟨0, s, [], by omega, rfl, rfl, Lib.hid rfl, Lib.hid rfl, by omega, HF0, hb0, hg0⟩
  case round =>
    clear hb0 hg0
    obtain ⟨i, t, W, hi, rfl, rfl, hcut, hW, hti, HF, hb, hg⟩ := hrel
    have HST := Lib.hid (fun p => HF.out.store (by rw [hW.out]; omega) p)
    have hi1 : (i : Int) < ((K + 1 : Nat) : Int) := by omega
    have hi0 : (0 : Int) ≤ (i : Int) := by omega
    obtain ⟨u, hu⟩ := Option.isSome_iff_exists.1 (HF.out.there i (by omega))
    have hfz := HF.out.fz i (by omega)
    by_cases hlt : i < K
    · have HQ := Lib.hid (HIX.out t wr)
      rcases index_cases t.data.toList b with h | ⟨o, h⟩
      · have HNO := Lib.hid (cut_none h)
        rw [h] at HQ
        clear h
        go_wp2_with fail
        refine HQ.out.mono ?_
        rintro e w' ⟨rfl, rfl⟩
        go_wp2_with fail
        go_ret
        have hf := HST.out t.data.toList
        rw [hW.out] at hf
        refine ⟨_, W ++ [t.data.toList], rfl, ?_, .inl (by rw [hcut.out, HNO.out.whole]), hb.setCell (Nat.le_refl _) _⟩
        exact hf.read (by rw [List.length_append, List.length_singleton, hW.out]) _
      · obtain ⟨ho, hc'⟩ := cut_at h
        rw [size_list] at ho
        have HYES := Lib.hid hc'
        rw [h] at HQ
        have HT : Hid (Value.string (t.extract 0 o) = strV (t.data.toList.take o)) := Lib.hid (by rw [strV_eq, ext_take])
        have HD : Hid ((t.extract (o + 1) t.size).data.toList = t.data.toList.drop (o + 1)) := Lib.hid (ext_drop t (o + 1))
        have HDS : Hid ((t.extract (o + 1) t.size).size = t.size - (o + 1)) := Lib.hid (by rw [← size_list, ext_drop, List.length_drop, size_list])
        have z0 : (0 : Int) ≤ (o : Int) := by omega
        have z1 : (o : Int) ≤ (t.size : Int) := by omega
        have z2 : IntKind.i64.wrap ((o : Int) + 1) = (o : Int) + 1 := IntWalk.i64_in _ (by omega)
        have z3 : (o : Int) + 1 ≤ (t.size : Int) := by omega
        clear h hc'
        go_wp2_with fail
        refine HQ.out.mono ?_
        rintro e w' ⟨rfl, rfl⟩
        go_wp2_with fail
        go_roundw
        case rel =>
          have hf := HST.out (t.data.toList.take o)
          rw [hW.out, ← HT.out] at hf
          exact ⟨i + 1, t.extract (o + 1) t.size, W ++ [t.data.toList.take o], by omega, rfl, by go_num, Lib.hid (by rw [hcut.out, HYES.out.parts.2, HD.out, List.append_assoc]; rfl), Lib.hid (by rw [List.length_append, List.length_singleton, hW.out]), by rw [HDS.out]; omega, Lib.hid hf, hb.setCell (Nat.le_refl _) _, by simpa using hg⟩
        case measure => simp [intOf]; omega
    · obtain rfl : i = K := by omega
      go_wp2_with fail
      go_ret
      have hf := HST.out t.data.toList
      rw [hW.out] at hf
      refine ⟨_, W ++ [t.data.toList], rfl, hf.read (by rw [List.length_append, List.length_singleton, hW.out]) _, ?_, hb.setCell (Nat.le_refl _) _⟩
      rcases hKm with rfl | hKs
      · exact .inr ⟨by rw [List.length_append, List.length_singleton, hW.out], by rw [hcut.out, List.length_append, hW.out]; have := List.length_pos_iff.2 (cutL_ne b t.data.toList); omega⟩
      · have ht0 : t.data.toList = [] := List.eq_nil_of_length_eq_zero (by rw [size_list]; omega)
        exact .inl (by rw [hcut.out, ht0]; rfl)
theorem splitN_any (s : ByteArray) (b : UInt8) (c : Nat) (w : World) (hs : s.size ≤ 1048576) (hc : c ≤ 5) :
    Calls Tryd.prog 50 #[.string s, .string ⟨#[b]⟩, .int .i64 ((c : Int) + 1)] w (RetW b s.data.toList (c + 1) w) := by
  have HC := Lib.hid (genSplit_any s b c w hs hc)
  go_enter Tryd.func50, Tryd.ntmps50
  go_wp2_with fail
  refine HC.out.mono ?_
  rintro e w' ⟨v, W, rfl, hr, hsp, hb⟩
  have HR := Lib.hid hr
  have HS := Lib.hid hsp
  clear hr hsp
  go_wp2_with fail
  go_ret
  exact ⟨_, W, rfl, HR.out, HS.out, hb⟩
end Go.Proofs.YtnelddlbpdpndaaDoor
