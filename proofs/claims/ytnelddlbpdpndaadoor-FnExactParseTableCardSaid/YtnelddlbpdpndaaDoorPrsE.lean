/- The program's parseRow, by contract. Conditions: as stated. -/
import Derived.Test.YtnelddlbpdpndaaDoorPrsD
import Derived.Test.YtnelddlbpdpndaaDoorTabs3
namespace Go.Proofs.YtnelddlbpdpndaaDoor
open Go.RowKit

theorem fill_step (r : List Int) (C : Nat) (x : Int) (h : r.length < C) : (r ++ List.replicate (C - r.length) 0).set r.length x = (r ++ [x]) ++ List.replicate (C - (r.length + 1)) 0 := by
  rw [List.set_append, if_neg (by omega), List.append_assoc]
  congr 1
  rw [Nat.sub_self, show C - r.length = (C - (r.length + 1)) + 1 by omega, List.replicate_succ]
  rfl
/-- What parseRow returns. -/
def RetRow (C : Nat) (l : List UInt8) (w : World) (e : Ending) (w' : World) : Prop :=
  ((∃ v r, e = .returned (.tuple #[v, .bool true]) ∧ RowOK C r ∧ rowT r = l ∧ OwnI w' w.heap.size v r) ∨ (e = .returned (.tuple #[.slice none 0 0, .bool false]) ∧ ∀ q, RowOK C q → rowT q ≠ l)) ∧ Below w.heap.size w w'
set_option maxRecDepth 20000 in
set_option maxHeartbeats 3200000 in
theorem parseRow_any (s : ByteArray) (C : Nat) (w : World) (hs : s.size ≤ 1048576) (hC1 : 1 ≤ C) (hC5 : C ≤ 5) (hT : Tab w.heap.size w) :
    Calls Tryd.prog 31 #[.string s, .int .i64 (C : Int)] w (RetRow C s.data.toList w) := by
  obtain ⟨i0, hi, hz0, hz1, hz2⟩ := info_parts info3j
  have HI : Hid (_ ∧ _ ∧ _ ∧ _) := Lib.hid ⟨hi, hz0, hz1, hz2⟩
  clear hi hz0 hz1 hz2
  have HS := Lib.hid (splitN_any s 32 C w hs hC5)
  have HT := Lib.hid hT
  clear hT
  go_enter Tryd.func31, Tryd.ntmps31
  go_wp2_with fail
  refine HS.out.mono ?_
  rintro e w1 ⟨v, W, rfl, hr, hsp, hb1⟩
  have HX := Lib.hid hsp.exact
  have s1 := hb1.size
  have HR := Lib.hid hr
  obtain ⟨aw, cw, rfl, hrc⟩ := hr
  have HRC := Lib.hid hrc
  clear hsp hrc
  by_cases hlen : W.length = C
  · have HW : Hid (W = cutL 32 s.data.toList) := Lib.hid (HX.out.1 hlen)
    have hd : ((C : Int) != (C : Int)) = false := by simp
    rw [hlen]
    have HL := Lib.hid hlen
    clear hlen
    go_wp2_with (at_make; refine wpList_make_full _ rfl _ _ 39 rfl w1.heap.size 3 i0 (.int .i64 0) 1 Tryd.underlying39 HI.out.1 HI.out.2.1 HI.out.2.2.1 .i64 .i64 _ _ C rfl rfl rfl rfl (by rw [HI.out.2.2.2]; omega) (by unfold maxLen; omega) (Nat.le_refl _) ?_; intro w2 hown0 hgrow0; have hb2 := (Below.refl w1.heap.size w1).grown hgrow0 (Nat.le_refl _) (by simp); have ho := OwnI.full hown0; clear hown0 hgrow0)
    go_loopw [24] (fun iv wr => ∃ (k : Nat) (r : List Int), k ≤ C ∧ iv = .int .i64 (k : Int) ∧ Hid (r.length = k) ∧ Hid (r.map cellB = W.take k ∧ ∀ x ∈ r, -1 ≤ x ∧ x ≤ 40) ∧ Hid (OwnI wr w1.heap.size (.slice (some ⟨w1.heap.size, 0, none⟩) C C) (r ++ List.replicate (C - r.length) 0)) ∧ Below w1.heap.size w1 wr) (fun iv _ => C - (intOf iv).toNat)
    case atStart => exact ⟨0, [], by omega, rfl, Lib.hid rfl, Lib.hid ⟨rfl, by simp⟩, Lib.hid (by simpa using ho), hb2⟩
    case round =>
      clear ho hb2
      obtain ⟨k, r, hk, rfl, hrl, hrv, HO, hb⟩ := hrel
      by_cases hlt : k < C
      · have hkW : k < W.length := by rw [HL.out]; exact hlt
        obtain ⟨x, rfl, hx⟩ := HRC.out k hkW
        have hy := (hb.cell (World.block_lt_of_cell? w1 _ hx)).trans hx
        have hbw := hb1.trans (hb.mono s1)
        have HQ := Lib.hid (parseCell_any ⟨(W.getD k []).toArray⟩ wr (HT.out.at hbw))
        have hvs : strV (W.getD k []) = .string ⟨(W.getD k []).toArray⟩ := rfl
        have HTK : Hid (W.take (k + 1) = W.take k ++ [W.getD k []]) := Lib.hid (take_succ_getD W [] k hkW)
        have HCW : Hid ((cutL 32 s.data.toList).getD k [] = W.getD k []) := Lib.hid (by rw [HW.out])
        rw [hvs] at hy
        obtain ⟨t, ht⟩ : ∃ t : ByteArray, (⟨(W.getD k []).toArray⟩ : ByteArray) = t := ⟨_, rfl⟩
        have HTL : Hid (t.data.toList = W.getD k []) := Lib.hid (by rw [← ht])
        rw [ht] at hy HQ
        have hcell := HO.out.cell k (by rw [List.length_append, List.length_replicate, hrl.out]; omega)
        have hfz := HO.out.frozen k
        have z0 : (0 : Int) ≤ (k : Int) := by omega
        have z1 : (k : Int) < (C : Int) := by omega
        clear hx hvs ht
        go_wp2_with fail
        refine HQ.out.mono ?_
        rintro e w3 ⟨n, ok, hcr, rfl, hb3⟩
        rcases hcr with ⟨n0, n1, hn, rfl⟩ | ⟨hno, rfl, rfl⟩
        · have hg1 : w1.heap.size < wr.heap.size := World.block_lt_of_cell? wr ⟨w1.heap.size, k, none⟩ hcell
          have hcell3 := (hb3.cell (p := ⟨w1.heap.size, k, none⟩) hg1).trans hcell
          have hfz3 := (hb3.frozen (p := ⟨w1.heap.size, k, none⟩) hg1).trans hfz
          have ho3 := ((HO.out.kept hb3 (fun q hq => (HO.out.lt q hq).2)).store k n).1
          rw [← hrl.out, fill_step r C n (by rw [hrl.out]; exact hlt), hrl.out] at ho3
          have HO3 := Lib.hid ho3
          have HN : Hid (cellB n = W.getD k []) := Lib.hid (by rw [hn, HTL.out])
          have hbN := hb.trans (hb3.mono hb.size)
          clear hcell hfz ho3 hn hb3 hb
          go_wp2_with fail
          go_roundw
          case rel =>
            refine ⟨k + 1, r ++ [n], by omega, by go_num, Lib.hid (by rw [List.length_append, List.length_singleton, hrl.out]), Lib.hid ⟨by rw [List.map_append, hrv.out.1, HTK.out, List.map_singleton, HN.out], fun y hy => ?_⟩, Lib.hid ?_, hbN.setCell (Nat.le_refl _) _⟩
            · rcases List.mem_append.1 hy with hy | hy
              · exact hrv.out.2 y hy
              · rw [List.mem_singleton] at hy; omega
            · rw [List.length_append, List.length_singleton, hrl.out]; exact HO3.out
          case measure => simp [intOf]; omega
        · have HNO := Lib.hid hno
          have hbN := hbw.trans (hb3.mono hbw.size)
          clear hno
          go_wp2_with fail
          go_ret2
          refine ⟨.inr ⟨rfl, fun q hq he => ?_⟩, hbN⟩
          have h1 := rowT_cut hq hC1
          rw [he] at h1
          have h2 := HCW.out
          rw [h1] at h2
          have hkq : k < q.length := by rw [hq.1]; exact hlt
          have h3 : (q.map cellB).getD k [] = cellB q[k] := by rw [List.getD_eq_getElem?_getD, List.getElem?_eq_getElem (by rw [List.length_map]; exact hkq), List.getElem_map]; rfl
          rw [h3] at h2
          have h4 := hq.2 q[k] (List.getElem_mem _)
          exact HNO.out q[k] h4.1 h4.2 (by rw [h2, HTL.out])
      · obtain rfl : k = C := by omega
        have hok : RowOK k r := ⟨hrl.out, hrv.out.2⟩
        have HT2 := Lib.hid (rowT_of hok hC1 (l := s.data.toList) (by rw [hrv.out.1, List.take_of_length_le (by rw [HL.out]; exact Nat.le_refl _), HW.out]))
        have HOK := Lib.hid hok
        have HO2 : Hid (OwnI wr w1.heap.size (.slice (some ⟨w1.heap.size, 0, none⟩) k k) r) := Lib.hid (by have := HO.out; rw [hrl.out, Nat.sub_self] at this; simpa using this)
        clear hok
        go_wp2_with fail
        go_ret2
        exact ⟨.inl ⟨_, r, rfl, HOK.out, HT2.out, HO2.out.base s1⟩, hb1.trans (hb.mono s1)⟩
  · have hd : ((W.length : Int) != (C : Int)) = true := by simp; omega
    have HL := Lib.hid hlen
    clear hlen
    go_wp2_with fail
    go_ret2
    refine ⟨.inr ⟨rfl, fun q hq he => ?_⟩, hb1⟩
    have h1 := rowT_cut hq hC1
    rw [he] at h1
    exact HL.out (HX.out.2 (by rw [h1, List.length_map]; exact hq.1))
end Go.Proofs.YtnelddlbpdpndaaDoor
