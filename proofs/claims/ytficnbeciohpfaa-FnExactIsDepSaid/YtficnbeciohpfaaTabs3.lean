/- Tables in the laws: toTable, by contract: a copy in memory of its own. Conditions: as stated. -/
import Derived.Test.YtficnbeciohpfaaTabs2
namespace Go.Proofs.Ytficnbeciohpfaa
open Go.RowKit

theorem info3j : (Try.prog.info? 3).map (fun i => (i.zero, i.size, i.bytes)) = some (some (.int .i64 0), 1, 8) := by kernel_rfl
theorem infoSj : (Try.prog.info? 65).map (fun i => (i.zero, i.size, i.bytes)) = some (some (.slice none 0 0), 1, 24) := by kernel_rfl
theorem OwnI.full {w : World} {B : Nat} {v : Value} {n : Nat} (h : w.ownsRow B 3 1 v n (madeCells (Value.cells (.int .i64 0)) (n * 1)).toList) : OwnI w B v (List.replicate n 0) := by
  unfold OwnI
  have e : (madeCells (Value.cells (.int .i64 0)) (n * 1)).toList = intsV (List.replicate n 0) := by
    rw [show Value.cells (.int .i64 0) = #[.int .i64 0] from rfl, toList_madeCells_one]; simp [intsV]
  rw [e] at h; rw [List.length_replicate]; exact h
theorem copy_step (l : List Int) (k : Nat) (h : k < l.length) : (l.take k ++ List.replicate (l.length - k) 0).set k l[k] = l.take (k + 1) ++ List.replicate (l.length - (k + 1)) 0 := by
  rw [List.set_append, if_neg (by simp; omega), List.take_succ_eq_append_getElem h, List.append_assoc]
  congr 1
  rw [show k - (l.take k).length = 0 by simp; omega, show l.length - k = (l.length - (k + 1)) + 1 by omega, List.replicate_succ]
  rfl
/-- A row of ints in memory of the call's own, with its blocks' bounds. -/
def RetJ (l : List Int) (w : World) (e : Ending) (w' : World) : Prop := ∃ v, e = .returned v ∧ OwnI w' w.heap.size v l ∧ Below w.heap.size w w'
set_option maxHeartbeats 800000 in
theorem toInt_any (v : Value) (l : List Int) (w : World) (hr : ReadI w v l) (hl : l.length ≤ 1048576) :
    Calls Try.prog 61 #[v] w (RetJ l w) := by
  obtain ⟨i0, hi, hz0, hz1, hz2⟩ := info_parts info3j
  have HI : Hid (_ ∧ _ ∧ _ ∧ _) := Lib.hid ⟨hi, hz0, hz1, hz2⟩
  clear hi hz0 hz1 hz2
  obtain ⟨a, cap, rfl, ha⟩ := hr
  have HA := Lib.hid ha
  clear ha
  go_enter Try.func61, Try.ntmps61
  go_wp2_with (at_make; refine wpList_make_full _ rfl _ _ 65 rfl w.heap.size 3 i0 (.int .i64 0) 1 Try.underlying65 HI.out.1 HI.out.2.1 HI.out.2.2.1 .i64 .i64 _ _ l.length rfl rfl rfl rfl (by rw [HI.out.2.2.2]; omega) (by unfold maxLen; omega) (Nat.le_refl _) ?_; intro w0 hown0 hgrow0)
  have hown := OwnI.full hown0
  have hb0 := (Below.refl w.heap.size w).grown hgrow0 (Nat.le_refl _) (by simp)
  clear hown0 hgrow0
  go_loopw [4] (fun iv wr => ∃ k : Nat, k ≤ l.length ∧ iv = .int .i64 (k : Int) ∧ OwnI wr w.heap.size (.slice (some ⟨w.heap.size, 0, none⟩) l.length l.length) (l.take k ++ List.replicate (l.length - k) 0) ∧ Below w.heap.size w wr) (fun iv _ => l.length - (intOf iv).toNat)
  case atStart => exact ⟨0, by omega, rfl, by simpa using hown, hb0⟩
  case round =>
    obtain ⟨k, hk, rfl, ho, hb⟩ := hrel
    by_cases hlt : k < l.length
    · obtain ⟨x, rfl, hx⟩ := HA.out k hlt
      have hy := (hb.cell (World.block_lt_of_cell? w _ hx)).trans hx
      have hcell := ho.cell k (by simp; omega)
      have hfz := ho.frozen k
      have ho2 := (ho.store k l[k]).1
      rw [copy_step l k hlt] at ho2
      have HO := Lib.hid ho2
      have z0 : (0 : Int) ≤ (k : Int) := by omega
      have z1 : (k : Int) < (l.length : Int) := by omega
      clear hx ho2
      go_wp2_with fail
      go_roundw
      case rel => exact ⟨k + 1, by omega, by go_num, HO.out, hb.setCell (Nat.le_refl _) _⟩
      case measure => simp [intOf]; omega
    · obtain rfl : k = l.length := by omega
      go_wp2_with fail
      go_ret
      refine ⟨_, rfl, ?_, hb⟩
      simpa using ho

theorem copy_stepL (l : List (List Int)) (k : Nat) (h : k < l.length) : (l.take k ++ List.replicate (l.length - k) []).set k (l.getD k []) = l.take (k + 1) ++ List.replicate (l.length - (k + 1)) [] := by
  rw [List.set_append, if_neg (by simp; omega), take_succ_getD l [] k h, List.append_assoc]
  congr 1
  rw [show k - (l.take k).length = 0 by simp; omega, show l.length - k = (l.length - (k + 1)) + 1 by omega, List.replicate_succ]
  rfl
set_option maxHeartbeats 800000 in
theorem toIntSS_any (v : Value) (ll : List (List Int)) (w : World) (hr : ReadSS w v ll) (hl : ll.length ≤ 1048576) (ht : ∀ i, i < ll.length → (ll.getD i []).length ≤ 1048576) :
    Calls Try.prog 38 #[v] w (RetSS ll w) := by
  obtain ⟨i0, hi, hz0, hz1, hz2⟩ := info_parts infoSj
  have HI : Hid (_ ∧ _ ∧ _ ∧ _) := Lib.hid ⟨hi, hz0, hz1, hz2⟩
  clear hi hz0 hz1 hz2
  obtain ⟨a, cap, rfl, ha⟩ := hr
  have HA := Lib.hid ha
  have HT := Lib.hid ht
  clear ha ht
  go_enter Try.func38, Try.ntmps38
  go_wp2_with (at_make; refine wpList_make_full _ rfl _ _ 28 rfl w.heap.size 65 i0 (.slice none 0 0) 1 Try.underlying28 HI.out.1 HI.out.2.1 HI.out.2.2.1 .i64 .i64 _ _ ll.length rfl rfl rfl rfl (by rw [HI.out.2.2.2]; omega) (by unfold maxLen; omega) (Nat.le_refl _) ?_; intro w0 hown0 hgrow0)
  have hown := OwnSS.full (C := w0.heap.size) hown0 (fun g hg => (World.ownsRow.lt hown0 g hg).2)
  have hb0 := (Below.refl w.heap.size w).grown hgrow0 (Nat.le_refl _) (by simp)
  clear hown0 hgrow0
  go_loopw [4] (fun iv wr => ∃ k : Nat, k ≤ ll.length ∧ iv = .int .i64 (k : Int) ∧ OwnSS wr w.heap.size wr.heap.size (.slice (some ⟨w.heap.size, 0, none⟩) ll.length ll.length) (ll.take k ++ List.replicate (ll.length - k) []) ∧ Below w.heap.size w wr) (fun iv _ => ll.length - (intOf iv).toNat)
  case atStart => exact ⟨0, by omega, rfl, by simpa using hown, hb0⟩
  case round =>
    obtain ⟨k, hk, rfl, ho, hb⟩ := hrel
    by_cases hlt : k < ll.length
    · obtain ⟨x, u, rfl, hx, hu⟩ := HA.out k hlt
      have hy := (hb.cell (World.block_lt_of_cell? w _ hx)).trans hx
      have z0 : (0 : Int) ≤ (k : Int) := by omega
      have z1 : (k : Int) < (ll.length : Int) := by omega
      have HK := Lib.hid (toInt_any u _ wr (hu.kept hb) (HT.out k hlt))
      have HS := Lib.hid (copy_stepL ll k hlt)
      obtain ⟨r, hrr⟩ : ∃ r, ll.getD k [] = r := ⟨_, rfl⟩
      rw [hrr] at HK HS
      clear hx hu hrr
      go_wp2_with fail
      refine HK.out.mono ?_
      rintro e w1 ⟨u1, rfl, ou, hb1⟩
      have ho1 := ho.same (Below.keeps hb1 (Nat.le_refl _))
      obtain ⟨⟨u0, hcell, -⟩, hfz⟩ := ho1.outer k (by simp; omega)
      have ho2 := ho1.store (C' := w1.heap.size) (k := k) (by simp; omega) (ou.base hb.size) (fun q hq => ⟨(ou.lt q hq).1, (ou.lt q hq).2⟩) hb1.size
      rw [HS.out] at ho2
      have HO := Lib.hid ho2
      have hb2 := hb.trans (hb1.mono hb.size)
      have hb3 := hb2.setCell (p := ⟨w.heap.size, k, none⟩) (Nat.le_refl _) u1
      obtain ⟨a1, cap1, rfl, -⟩ := ou.read
      clear ho ho1 ho2 ou hb1
      go_wp2_with fail
      go_roundw
      case rel => exact ⟨k + 1, by omega, by go_num, by have := HO.out; simpa using this, hb3⟩
      case measure => simp [intOf]; omega
    · obtain rfl : k = ll.length := by omega
      go_wp2_with fail
      go_ret
      refine ⟨_, rfl, ?_, hb⟩
      simpa using ho
theorem toTable_any (c : Int) (v : Value) (ll : List (List Int)) (w : World) (hr : ReadSS w v ll) (hl : ll.length ≤ 1048576) (ht : ∀ i, i < ll.length → (ll.getD i []).length ≤ 1048576) :
    Calls Try.prog 15 #[.agg #[.int .i64 c, v]] w (RetT c ll w) := by
  have HK := Lib.hid (fun (w' : World) (hb : Below w.heap.size w w') => toIntSS_any v ll w' (hr.kept hb) hl ht)
  obtain ⟨a, cap, rfl, -⟩ := hr
  clear ht
  have hb2 := (((Below.refl w.heap.size w).alloc (Nat.le_refl _) (.cells #[.int .i64 c, .slice a ll.length cap] 30)).alloc (by simp) (.cells #[.int .i64 0, .slice none 0 0] 33)).alloc (by simp; omega) (.cells #[.int .i64 c, .slice none 0 0] 33)
  go_enter Try.func15, Try.ntmps15
  go_wp2_with fail
  refine (HK.out _ hb2).mono ?_
  rintro e w1 ⟨v1, rfl, o1, hb1⟩
  obtain ⟨hc, hf⟩ := bcell hb1
  obtain ⟨a1, cap1, rfl, -⟩ := o1.read
  go_wp2_with fail
  refine bodyPost_ret (v := .agg #[.int .i64 c, .slice a1 ll.length cap1]) (by simp [results, Try.results15, go_sem, hc]) rfl ⟨_, rfl, ?_, ?_⟩
  · exact (o1.same ((((Same.refl _ _ _).setCell (.inl (by simp)) _).setCell (.inl (by simp)) _).setCell (.inl (by simp)) _)).base (by simp; omega) (by simp)
  · exact (((hb2.trans (hb1.mono hb2.size)).setCell (by simp; omega) _).setCell (by simp) _).setCell (by simp) _
end Go.Proofs.Ytficnbeciohpfaa
