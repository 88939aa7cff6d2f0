/- Texts of this claim, merged: PrsD, PrsE, PrsF. Conditions: as stated. -/
import Derived.Test.YtpkcffbfgocndaaGreatDoorMn
import Derived.Test.YtpkcffbfgocndaaGreatDoorMh
import Derived.Test.YtpkcffbfgocndaaGreatDoorMi
import Derived.Test.YtpkcffbfgocndaaGreatDoorMb
import Derived.Deep.AppendLies
namespace Go.Proofs.YtpkcffbfgocndaaGreatDoor
open Go.RowKit

theorem Tab.at {w w1 : World} (h : Tab w.heap.size w) (hb : Below w.heap.size w w1) : Tab w1.heap.size w1 := fun w'' h' => h w'' (hb.trans (h'.mono hb.size))
/-- What a word is read as. -/
def CellR (l : List UInt8) (n : Int) (ok : Bool) : Prop := (-1 ≤ n ∧ n ≤ 40 ∧ cellB n = l ∧ ok = true) ∨ ((∀ x, -1 ≤ x → x ≤ 40 → cellB x ≠ l) ∧ n = 0 ∧ ok = false)
theorem parseCell_any (s : ByteArray) (w : World) (hT : Tab w.heap.size w) :
    Calls Tryz.prog 60 #[.string s] w (IntOk (CellR s.data.toList) w) := by
  by_cases hnull : s.data.toList = [110, 117, 108, 108]
  · have hs : s = ⟨#[110, 117, 108, 108]⟩ := str_ext hnull
    subst hs
    go_enter Tryz.func60, Tryz.ntmps60
    go_wp2_with fail
    go_ret2
    exact ⟨-1, true, .inl ⟨by omega, by omega, by rw [cellB_eq]; rfl, rfl⟩, rfl, Below.refl _ _⟩
  · have hne : (s.toList == [110, 117, 108, 108]) = false := by rw [ByteArray.toList_eq]; simpa using hnull
    have HN := Lib.hid hnull
    have HP := Lib.hid (implPI s w hT)
    have HV := Lib.hid (fun n w' => implValue_any n w')
    clear hnull hT
    go_enter Tryz.func60, Tryz.ntmps60
    go_wp2_with fail
    refine HP.out.mono ?_
    rintro e w1 ⟨n, ok, hpa, rfl, hb⟩
    have HPA := Lib.hid hpa
    clear hpa
    cases ok with
    | false =>
      go_wp2_with fail
      go_ret2
      refine ⟨0, false, .inr ⟨fun x h0 h1 he => ?_, rfl, rfl⟩, rfl, hb⟩
      rcases HPA.out with ⟨-, -, h⟩ | ⟨hno, -, -⟩
      · cases h
      · rw [cellB_eq] at he
        by_cases hx : x = -1
        · rw [if_pos hx] at he; exact HN.out he.symm
        · rw [if_neg hx] at he
          exact hno x ⟨by omega, by omega⟩ he.symm
    | true =>
      by_cases hr : 0 ≤ n ∧ n ≤ 40
      · have HQ := Lib.hid (HV.out n)
        rw [decide_eq_true hr] at HQ
        have HR := Lib.hid hr
        clear hr HV
        go_wp2_with fail
        refine (HQ.out _).mono ?_
        rintro e w' ⟨rfl, rfl⟩
        go_wp2_with fail
        go_ret2
        refine ⟨n, true, .inl ⟨by have := HR.out; omega, by have := HR.out; omega, ?_, rfl⟩, rfl, hb⟩
        rcases HPA.out with ⟨-, h, -⟩ | ⟨-, -, h⟩
        · rw [cellB_eq, if_neg (by have := HR.out; omega)]; exact h.symm
        · cases h
      · have HQ := Lib.hid (HV.out n)
        rw [decide_eq_false hr] at HQ
        have HR := Lib.hid hr
        clear hr HV
        go_wp2_with fail
        refine (HQ.out _).mono ?_
        rintro e w' ⟨rfl, rfl⟩
        go_wp2_with fail
        go_ret2
        refine ⟨0, false, .inr ⟨fun x h0 h1 he => ?_, rfl, rfl⟩, rfl, hb⟩
        rcases HPA.out with ⟨-, h, -⟩ | ⟨-, -, h⟩
        · rw [cellB_eq] at he
          by_cases hx : x = -1
          · rw [if_pos hx] at he; exact HN.out he.symm
          · rw [if_neg hx] at he
            have := itoa_inj (he.trans h)
            exact HR.out ⟨by omega, by omega⟩
        · cases h
/-- What a first line is read as. -/
def HeadR (l : List UInt8) (n : Int) (ok : Bool) : Prop := (∃ C : Nat, 1 ≤ C ∧ C ≤ 5 ∧ n = (C : Int) ∧ letC (C : Int) = l ∧ ok = true) ∨ ((∀ C : Nat, 1 ≤ C → C ≤ 5 → letC (C : Int) ≠ l) ∧ n = 0 ∧ ok = false)
theorem cnt_first : ∀ C : Fin 6, cnt (((2 ^ C.val - 1 : Nat)) : Int) = C.val := by decide +kernel
theorem letC_set {C : Nat} (h1 : 1 ≤ C) (h5 : C ≤ 5) : letC (C : Int) = (fmtA ((2 ^ C - 1 : Nat) : Int)).data.toList := by
  rcases (show C = 1 ∨ C = 2 ∨ C = 3 ∨ C = 4 ∨ C = 5 by omega) with rfl | rfl | rfl | rfl | rfl <;> rfl
theorem pow_lt32 {C : Nat} (h5 : C ≤ 5) : 2 ^ C - 1 < 32 := by
  have : 2 ^ C ≤ 2 ^ 5 := Nat.pow_le_pow_right (by omega) h5
  omega
theorem fmtA_inj {X Y : Nat} (hX : X < 32) (hY : Y < 32) (h : (fmtA (X : Int)).data.toList = (fmtA (Y : Int)).data.toList) : X = Y := by
  have := texts_apart ⟨Y, hY⟩ ⟨X, hX⟩
  simp only at this
  rw [h] at this
  simp at this
  exact this
theorem head_bad {s : ByteArray} {X : Nat} (hX : X < 32) (hs : (fmtA (X : Int)).data.toList = s.data.toList) (h : X = 0 ∨ X ≠ 2 ^ cnt (X : Int) - 1) : ∀ C : Nat, 1 ≤ C → C ≤ 5 → letC (C : Int) ≠ s.data.toList := by
  intro C h1 h5 he
  rw [letC_set h1 h5, ← hs] at he
  have := fmtA_inj (pow_lt32 h5) hX he
  subst this
  have hp : 2 ^ 1 ≤ 2 ^ C := Nat.pow_le_pow_right (by omega) h1
  rcases h with h | h
  · omega
  · exact h (by have := cnt_first ⟨C, by omega⟩; simp only at this; rw [this])
theorem parseHead_any (s : ByteArray) (w : World) :
    Calls Tryz.prog 28 #[.string s] w (IntOk (HeadR s.data.toList) w) := by
  have HP := Lib.hid (implParseA_any s w)
  go_enter Tryz.func28, Tryz.ntmps28
  go_wp2_with fail
  refine HP.out.mono ?_
  rintro e w1 ⟨x, ok, hpa, rfl, hb⟩
  rcases hpa with ⟨X, hX, rfl, htx, -, rfl⟩ | ⟨hno, rfl, rfl⟩
  · rw [isTx_eq, beq_iff_eq] at htx
    have HTX := Lib.hid htx
    clear htx
    have hc5 := cnt_le (X : Int)
    have HSZ := Lib.hid (fun w' => size_any X hX w')
    obtain ⟨C, hC⟩ : ∃ C, cnt (X : Int) = C := ⟨_, rfl⟩
    rw [hC] at HSZ hc5
    have HCN := Lib.hid hC
    clear hC
    by_cases h0 : X = 0
    · have HB := Lib.hid (head_bad hX HTX.out (.inl h0))
      subst h0
      go_wp2_with fail
      refine (HSZ.out _).mono ?_
      rintro e w' ⟨rfl, rfl⟩
      go_wp2_with fail
      go_ret2
      exact ⟨0, false, .inr ⟨HB.out, rfl, rfl⟩, rfl, hb⟩
    · have hx0 : ((X : Int) == 0) = false := by rw [beq_eq_false_iff_ne]; omega
      have HFI := Lib.hid (fun w' => first_any (C : Int) w' (by omega) (by omega))
      have hM : ((2 : Int) ^ ((C : Nat) : Int).toNat - 1) = ((2 ^ C - 1 : Nat) : Int) := by
        have h3 : ((2 ^ C : Nat) : Int) = (2 : Int) ^ C := by rw [Int.natCast_pow]; rfl
        have : 0 < 2 ^ C := Nat.pow_pos (by omega)
        rw [show ((C : Nat) : Int).toNat = C from rfl]; omega
      rw [hM] at HFI
      obtain ⟨M, hMM⟩ : ∃ M, 2 ^ C - 1 = M := ⟨_, rfl⟩
      rw [hMM] at HFI
      have HM := Lib.hid hMM
      clear hM hMM
      by_cases he : X = M
      · have hxm : ((X : Int) != (M : Int)) = false := by simp [he]
        have HE := Lib.hid he
        have H0 := Lib.hid h0
        clear he h0
        go_wp2_with fail
        refine (HSZ.out _).mono ?_
        rintro e w' ⟨rfl, rfl⟩
        go_wp2_with fail
        refine (HFI.out _).mono ?_
        rintro e w' ⟨rfl, rfl⟩
        go_wp2_with fail
        go_ret2
        have hC1 : 1 ≤ C := by
          rcases Nat.eq_zero_or_pos C with h | h
          · exfalso; have := HM.out; rw [h] at this; have := HE.out; have := H0.out; omega
          · exact h
        exact ⟨(C : Int), true, .inl ⟨C, hC1, hc5, rfl, by rw [letC_set hC1 hc5, HM.out, ← HE.out]; exact HTX.out, rfl⟩, rfl, hb⟩
      · have hxm : ((X : Int) != (M : Int)) = true := by simp; omega
        have HB := Lib.hid (head_bad hX HTX.out (.inr (by rw [HCN.out, HM.out]; exact he)))
        clear he h0
        go_wp2_with fail
        refine (HSZ.out _).mono ?_
        rintro e w' ⟨rfl, rfl⟩
        go_wp2_with fail
        refine (HFI.out _).mono ?_
        rintro e w' ⟨rfl, rfl⟩
        go_wp2_with fail
        go_ret2
        exact ⟨0, false, .inr ⟨HB.out, rfl, rfl⟩, rfl, hb⟩
  · have HNO := Lib.hid hno
    have HSZ := Lib.hid (fun w' => size_any 0 (by omega) w')
    clear hno
    go_wp2_with fail
    refine (HSZ.out _).mono ?_
    rintro e w' ⟨rfl, rfl⟩
    go_wp2_with fail
    go_ret2
    refine ⟨0, false, .inr ⟨fun C h1 h5 he => ?_, rfl, rfl⟩, rfl, hb⟩
    have h := HNO.out (2 ^ C - 1) (pow_lt32 h5)
    rw [isTx_eq, beq_eq_false_iff_ne] at h
    exact h (by rw [← letC_set h1 h5]; exact he)
end Go.Proofs.YtpkcffbfgocndaaGreatDoor
namespace Go.Proofs.YtpkcffbfgocndaaGreatDoor
open Go.RowKit

theorem fill_step (r : List Int) (C : Nat) (x : Int) (h : r.length < C) : (r ++ List.replicate (C - r.length) 0).set r.length x = (r ++ [x]) ++ List.replicate (C - (r.length + 1)) 0 := by
  rw [List.set_append, if_neg (by omega), List.append_assoc]
  congr 1
  rw [Nat.sub_self, show C - r.length = (C - (r.length + 1)) + 1 by omega, List.replicate_succ]
  rfl
/-- What parseRow returns. -/
def RetRow (C : Nat) (l : List UInt8) (w : World) (e : Ending) (w' : World) : Prop :=
  ((∃ v r, e = .returned (.tuple #[v, .bool true]) ∧ RowOK C r ∧ rowT r = l ∧ OwnI w' w.heap.size v r) ∨ (e = .returned (.tuple #[.slice none 0 0, .bool false]) ∧ ∀ q, RowOK C q → rowT q ≠ l)) ∧ Below w.heap.size w w'
set_option maxRecDepth 20000 in
set_option maxHeartbeats 3200000 in
theorem parseRow_any (s : ByteArray) (C : Nat) (w : World) (hs : s.size ≤ 1048576) (hC1 : 1 ≤ C) (hC5 : C ≤ 5) (hT : Tab w.heap.size w) :
    Calls Tryz.prog 29 #[.string s, .int .i64 (C : Int)] w (RetRow C s.data.toList w) := by
  obtain ⟨i0, hi, hz0, hz1, hz2⟩ := info_parts info3j
  have HI : Hid (_ ∧ _ ∧ _ ∧ _) := Lib.hid ⟨hi, hz0, hz1, hz2⟩
  clear hi hz0 hz1 hz2
  have HS := Lib.hid (splitN_any s 32 C w hs hC5)
  have HT := Lib.hid hT
  clear hT
  go_enter Tryz.func29, Tryz.ntmps29
  go_wp2_with fail
  refine HS.out.mono ?_
  rintro e w1 ⟨v, W, rfl, hr, hsp, hb1⟩
  have HX := Lib.hid hsp.exact
  have s1 := hb1.size
  have HR := Lib.hid hr
  obtain ⟨aw, cw, rfl, hrc⟩ := hr
  have HRC := Lib.hid hrc
  clear hsp hrc
  by_cases hlen : W.length = C
  · have HW : Hid (W = cutL 32 s.data.toList) := Lib.hid (HX.out.1 hlen)
    have hd : ((C : Int) != (C : Int)) = false := by simp
    rw [hlen]
    have HL := Lib.hid hlen
    clear hlen
    go_wp2_with (at_make; refine wpList_make_full _ rfl _ _ 37 rfl w1.heap.size 3 i0 (.int .i64 0) 1 Tryz.underlying37 HI.out.1 HI.out.2.1 HI.out.2.2.1 .i64 .i64 _ _ C rfl rfl rfl rfl (by rw [HI.out.2.2.2]; omega) (by unfold maxLen; omega) (Nat.le_refl _) ?_; intro w2 hown0 hgrow0; have hb2 := (Below.refl w1.heap.size w1).grown hgrow0 (Nat.le_refl _) (by simp); have ho := OwnI.full hown0; clear hown0 hgrow0)
    go_loopw [24] (fun iv wr => ∃ (k : Nat) (r : List Int), k ≤ C ∧ iv = .int .i64 (k : Int) ∧ Hid (r.length = k) ∧ Hid (r.map cellB = W.take k ∧ ∀ x ∈ r, -1 ≤ x ∧ x ≤ 40) ∧ Hid (OwnI wr w1.heap.size (.slice (some ⟨w1.heap.size, 0, none⟩) C C) (r ++ List.replicate (C - r.length) 0)) ∧ Below w1.heap.size w1 wr) (fun iv _ => C - (intOf iv).toNat)
    case atStart => exact ⟨0, [], by omega, rfl, Lib.hid rfl, Lib.hid ⟨rfl, by simp⟩, Lib.hid (by simpa using ho), hb2⟩
    case round =>
      clear ho hb2
      obtain ⟨k, r, hk, rfl, hrl, hrv, HO, hb⟩ := hrel
      by_cases hlt : k < C
      · have hkW : k < W.length := by rw [HL.out]; exact hlt
        obtain ⟨x, rfl, hx⟩ := HRC.out k hkW
        have hy := (hb.cell (World.block_lt_of_cell? w1 _ hx)).trans hx
        have hbw := hb1.trans (hb.mono s1)
        have HQ := Lib.hid (parseCell_any ⟨(W.getD k []).toArray⟩ wr (HT.out.at hbw))
        have hvs : strV (W.getD k []) = .string ⟨(W.getD k []).toArray⟩ := rfl
        have HTK : Hid (W.take (k + 1) = W.take k ++ [W.getD k []]) := Lib.hid (take_succ_getD W [] k hkW)
        have HCW : Hid ((cutL 32 s.data.toList).getD k [] = W.getD k []) := Lib.hid (by rw [HW.out])
        rw [hvs] at hy
        obtain ⟨t, ht⟩ : ∃ t : ByteArray, (⟨(W.getD k []).toArray⟩ : ByteArray) = t := ⟨_, rfl⟩
        have HTL : Hid (t.data.toList = W.getD k []) := Lib.hid (by rw [← ht])
        rw [ht] at hy HQ
        have hcell := HO.out.cell k (by rw [List.length_append, List.length_replicate, hrl.out]; omega)
        have hfz := HO.out.frozen k
        have z0 : (0 : Int) ≤ (k : Int) := by omega
        have z1 : (k : Int) < (C : Int) := by omega
        clear hx hvs ht
        go_wp2_with fail
        refine HQ.out.mono ?_
        rintro e w3 ⟨n, ok, hcr, rfl, hb3⟩
        rcases hcr with ⟨n0, n1, hn, rfl⟩ | ⟨hno, rfl, rfl⟩
        · have hg1 : w1.heap.size < wr.heap.size := World.block_lt_of_cell? wr ⟨w1.heap.size, k, none⟩ hcell
          have hcell3 := (hb3.cell (p := ⟨w1.heap.size, k, none⟩) hg1).trans hcell
          have hfz3 := (hb3.frozen (p := ⟨w1.heap.size, k, none⟩) hg1).trans hfz
          have ho3 := ((HO.out.kept hb3 (fun q hq => (HO.out.lt q hq).2)).store k n).1
          rw [← hrl.out, fill_step r C n (by rw [hrl.out]; exact hlt), hrl.out] at ho3
          have HO3 := Lib.hid ho3
          have HN : Hid (cellB n = W.getD k []) := Lib.hid (by rw [hn, HTL.out])
          have hbN := hb.trans (hb3.mono hb.size)
          clear hcell hfz ho3 hn hb3 hb
          go_wp2_with fail
          go_roundw
          case rel =>
            refine ⟨k + 1, r ++ [n], by omega, by go_num, Lib.hid (by rw [List.length_append, List.length_singleton, hrl.out]), Lib.hid ⟨by rw [List.map_append, hrv.out.1, HTK.out, List.map_singleton, HN.out], fun y hy => ?_⟩, Lib.hid ?_, hbN.setCell (Nat.le_refl _) _⟩
            · rcases List.mem_append.1 hy with hy | hy
              · exact hrv.out.2 y hy
              · rw [List.mem_singleton] at hy; omega
            · rw [List.length_append, List.length_singleton, hrl.out]; exact HO3.out
          case measure => simp [intOf]; omega
        · have HNO := Lib.hid hno
          have hbN := hbw.trans (hb3.mono hbw.size)
          clear hno
          go_wp2_with fail
          go_ret2
          refine ⟨.inr ⟨rfl, fun q hq he => ?_⟩, hbN⟩
          have h1 := rowT_cut hq hC1
          rw [he] at h1
          have h2 := HCW.out
          rw [h1] at h2
          have hkq : k < q.length := by rw [hq.1]; exact hlt
          have h3 : (q.map cellB).getD k [] = cellB q[k] := by rw [List.getD_eq_getElem?_getD, List.getElem?_eq_getElem (by rw [List.length_map]; exact hkq), List.getElem_map]; rfl
          rw [h3] at h2
          have h4 := hq.2 q[k] (List.getElem_mem _)
          exact HNO.out q[k] h4.1 h4.2 (by rw [h2, HTL.out])
      · obtain rfl : k = C := by omega
        have hok : RowOK k r := ⟨hrl.out, hrv.out.2⟩
        have HT2 := Lib.hid (rowT_of hok hC1 (l := s.data.toList) (by rw [hrv.out.1, List.take_of_length_le (by rw [HL.out]; exact Nat.le_refl _), HW.out]))
        have HOK := Lib.hid hok
        have HO2 : Hid (OwnI wr w1.heap.size (.slice (some ⟨w1.heap.size, 0, none⟩) k k) r) := Lib.hid (by have := HO.out; rw [hrl.out, Nat.sub_self] at this; simpa using this)
        clear hok
        go_wp2_with fail
        go_ret2
        exact ⟨.inl ⟨_, r, rfl, HOK.out, HT2.out, HO2.out.base s1⟩, hb1.trans (hb.mono s1)⟩
  · have hd : ((W.length : Int) != (C : Int)) = true := by simp; omega
    have HL := Lib.hid hlen
    clear hlen
    go_wp2_with fail
    go_ret2
    refine ⟨.inr ⟨rfl, fun q hq he => ?_⟩, hb1⟩
    have h1 := rowT_cut hq hC1
    rw [he] at h1
    exact HL.out (HX.out.2 (by rw [h1, List.length_map]; exact hq.1))
end Go.Proofs.YtpkcffbfgocndaaGreatDoor
namespace Go.Proofs.YtpkcffbfgocndaaGreatDoor
open Go.RowKit

theorem BoxIs.fresh (w : World) (c : Int) (rv : Value) : BoxIs (w.alloc (.cells #[.int .i64 c, rv] 26)) w.heap.size c rv := by
  unfold BoxIs World.alloc; simp
/-- A string's length. -/
def szS (v : Value) : Nat := match v with | .string s => s.size | _ => 0
theorem BoxIs.far {w w' : World} {T : Nat} {c : Int} {u : Value} {row : Option Nat} (h : BoxIs w T c u) (hg : w.grownBy w' row) (hT : row ≠ some T) : BoxIs w' T c u := (hg.block T h.lt (Ne.symm hT)).trans h
theorem BoxIs.other {w : World} {T : Nat} {c : Int} {u x : Value} {p : Addr} (h : BoxIs w T c u) (hp : T ≠ p.block) : BoxIs (w.setCell p x) T c u := (Below.heap_setCell _ _ _ _ hp).trans h
set_option maxRecDepth 20000 in
set_option maxHeartbeats 6400000 in
theorem implParseTable_any (s : ByteArray) (w : World) (hs : s.size ≤ 1048576) (hT : Tab w.heap.size w) :
    Calls Tryz.prog 7 #[.string s] w (RetPT s w) := by
  obtain ⟨i0, hi, hz0, hz1, hz2⟩ := info_parts infoSj
  have HI : Hid (_ ∧ _ ∧ _ ∧ _) := Lib.hid ⟨hi, hz0, hz1, hz2⟩
  clear hi hz0 hz1 hz2
  have HT := Lib.hid hT
  clear hT
  have hb1 := (Below.refl w.heap.size w).alloc (Nat.le_refl _) (.cells #[.int .i64 0, .slice none 0 0] 26)
  have HB1 := Lib.hid hb1
  have HR0 := Lib.hid (BoxIs.fresh w 0 (.slice none 0 0))
  have HC := Lib.hid (cut_any s 10 (w.alloc (.cells #[.int .i64 0, .slice none 0 0] 26)) hs)
  have sz1 : (w.alloc (.cells #[.int .i64 0, .slice none 0 0] 26)).heap.size = w.heap.size + 1 := by simp
  clear hb1
  go_enter Tryz.func7, Tryz.ntmps7
  go_wp2_with fail
  refine HC.out.mono ?_
  rintro e w2 ⟨p, r, ended, rfl, hcut, hb2⟩
  have HCUT := Lib.hid hcut
  rw [sz1] at hb2
  have s2 := hb2.size
  rw [sz1] at s2
  have HR2 := Lib.hid (HR0.out.kept hb2 (by omega))
  have HW2 := Lib.hid (HB1.out.trans (hb2.mono (by omega)))
  have HH := Lib.hid (parseHead_any ⟨p.toArray⟩ w2)
  have hpe : strV p = .string ⟨p.toArray⟩ := rfl
  clear hcut hb2
  rw [hpe]
  clear hpe
  go_wp2_with fail
  refine HH.out.mono ?_
  rintro e w3 ⟨n, ok, hhd, rfl, hb3⟩
  have HHD : Hid (HeadR p n ok) := Lib.hid hhd
  have s3 := hb3.size
  have HR3 := Lib.hid (HR2.out.kept hb3 (by omega))
  have HW3 := Lib.hid (HW2.out.trans (hb3.mono (by omega)))
  clear hhd hb3
  obtain ⟨⟨d0, d1⟩, g0, g1⟩ := HR3.out.cells
  by_cases hbad : ended = false ∨ ok = false
  · have HE : Hid (parC s = 0 ∧ parR s = [] ∧ parOk s = false) := Lib.hid (by
      refine head_no HCUT.out ?_
      rcases hbad with h | h
      · exact .inl h
      · rcases HHD.out with ⟨_, _, _, _, _, h2⟩ | ⟨h2, -, -⟩
        · rw [h] at h2; cases h2
        · exact .inr h2)
    cases ended with
    | false =>
      clear hbad
      go_wp2_with fail
      refine bodyPost_ret (v := .tuple #[.agg #[.int .i64 0, .slice none 0 0], .bool false]) (by simp [results, Tryz.results7, go_sem, d0, d1]) rfl ⟨.slice none 0 0, by rw [HE.out.1, HE.out.2.2], by rw [HE.out.2.1]; exact OwnSS.nil _ _ _, ?_⟩
      exact (HW3.out.setCell (by simp) _).setCell (by simp) _
    | true =>
      obtain rfl : ok = false := by rcases hbad with h | h; cases h; exact h
      clear hbad
      go_wp2_with fail
      refine bodyPost_ret (v := .tuple #[.agg #[.int .i64 0, .slice none 0 0], .bool false]) (by simp [results, Tryz.results7, go_sem, d0, d1]) rfl ⟨.slice none 0 0, by rw [HE.out.1, HE.out.2.2], by rw [HE.out.2.1]; exact OwnSS.nil _ _ _, ?_⟩
      exact (HW3.out.setCell (by simp) _).setCell (by simp) _
  · obtain rfl : ended = true := by cases ended; exact absurd (.inl rfl) hbad; rfl
    obtain rfl : ok = true := by cases ok; exact absurd (.inr rfl) hbad; rfl
    obtain ⟨C, hC1, hC5, rfl, hlet, -⟩ : ∃ C : Nat, 1 ≤ C ∧ C ≤ 5 ∧ n = (C : Int) ∧ letC (C : Int) = p ∧ true = true := by
      rcases HHD.out with h | ⟨-, -, h⟩
      · exact h
      · cases h
    have HPRE := Lib.hid (head_ok HCUT.out hC1 hC5 hlet)
    have hre : strV r = .string ⟨r.toArray⟩ := rfl
    have hrs : (⟨r.toArray⟩ : ByteArray).size ≤ s.size := by
      have h1 := congrArg List.length HCUT.out.parts.1
      rw [size_list, List.length_append, List.length_cons] at h1
      have h2 : (⟨r.toArray⟩ : ByteArray).size = r.length := by rw [← size_list]
      omega
    rw [hre]
    have hbx := BoxIs.fresh w3 (C : Int) (.slice none 0 0)
    have hR4 := HR3.out.kept ((Below.refl w3.heap.size w3).alloc (Nat.le_refl _) (.cells #[.int .i64 (C : Int), .slice none 0 0] 26)) (by omega)
    have hw4 := HW3.out.alloc (by omega) (.cells #[.int .i64 (C : Int), .slice none 0 0] 26)
    have sz4 : w3.heap.size + 1 ≤ (w3.alloc (.cells #[.int .i64 (C : Int), .slice none 0 0] 26)).heap.size := by simp
    clear hbad hlet hre d0 d1 g0 g1
    go_wp2_with fail
    go_loopw [5] (fun tv wr => ∃ (t : ByteArray) (L : List (List Int)) (rv : Value), tv = .string t ∧ t.size ≤ s.size ∧ Hid (Pre s C L t.data.toList) ∧ Hid (BoxIs wr w3.heap.size (C : Int) rv) ∧ Hid (BoxIs wr w.heap.size 0 (.slice none 0 0)) ∧ Hid (OwnSS wr (w3.heap.size + 1) wr.heap.size rv L) ∧ Below w.heap.size w wr ∧ w3.heap.size + 1 ≤ wr.heap.size) (fun tv _ => szS tv)
    case atStart => exact ⟨⟨r.toArray⟩, [], .slice none 0 0, rfl, hrs, HPRE, Lib.hid hbx, Lib.hid hR4, Lib.hid (OwnSS.nil _ _ _), hw4, sz4⟩
    case round =>
      clear hbx hR4 hw4 sz4 hrs
      obtain ⟨t, L, rv, rfl, hts, HP, HBX, HRB, HSS, hb, hsz⟩ := hrel
      obtain ⟨⟨c0, c1⟩, f0, f1⟩ := HBX.out.cells
      obtain ⟨⟨d0, d1⟩, g0, g1⟩ := HRB.out.cells
      obtain ⟨ra, rcap, rfl, -⟩ := HSS.out.read
      have hL40 := HP.out.len
      by_cases hem : t.data.toList = []
      · have he1 : t.toList.isEmpty = true := by rw [ByteArray.toList_eq, hem]; rfl
        have HDN := Lib.hid (Pre.done (s := s) (C := C) (L := L) (by have := HP.out; rwa [hem] at this))
        have HSR := Lib.hid (((HSS.out.same (((Same.refl _ _ _).setCell (p := ⟨w.heap.size, 0, none⟩) (.inl (by show w.heap.size < _; omega)) (.int .i64 (C : Int))).setCell (p := ⟨w.heap.size, 1, none⟩) (.inl (by show w.heap.size < _; omega)) (.slice ra L.length rcap))).base (B' := w.heap.size) (C' := ((wr.setCell ⟨w.heap.size, 0, none⟩ (.int .i64 (C : Int))).setCell ⟨w.heap.size, 1, none⟩ (.slice ra L.length rcap)).heap.size) (by omega) (by simp)))
        clear hem
        go_wp2_with fail
        refine bodyPost_ret (v := .tuple #[.agg #[.int .i64 (C : Int), .slice ra L.length rcap], .bool true]) (by simp [results, Tryz.results7, go_sem, d0, d1]) rfl ⟨_, by rw [HDN.out.1, HDN.out.2.2], by rw [HDN.out.2.1]; exact HSR.out, ?_⟩
        exact (hb.setCell (by simp) _).setCell (by simp) _
      · have he1 : t.toList.isEmpty = false := by
          rw [ByteArray.toList_eq]
          cases hq : t.data.toList with
          | nil => exact absurd hq hem
          | cons a b => rfl
        have HEM := Lib.hid hem
        have HCT := Lib.hid (cut_any t 10 wr (by omega))
        clear hem
        go_wp2_with fail
        refine HCT.out.mono ?_
        rintro e w5 ⟨lp, lr, le, rfl, hct, hb5⟩
        have HCT2 := Lib.hid hct
        have s5 := hb5.size
        have HBX5 := Lib.hid (HBX.out.kept hb5 (by omega))
        have HRB5 := Lib.hid (HRB.out.kept hb5 (by omega))
        have HSS5 := Lib.hid (HSS.out.same (Below.keeps hb5 (Nat.le_refl _)))
        have hbw5 := hb.trans (hb5.mono (by omega))
        clear hct hb5 c0 c1 f0 f1 d0 d1 g0 g1
        obtain ⟨⟨c0, c1⟩, f0, f1⟩ := HBX5.out.cells
        obtain ⟨⟨d0, d1⟩, g0, g1⟩ := HRB5.out.cells
        have hpe : strV lp = .string ⟨lp.toArray⟩ := rfl
        have hre : strV lr = .string ⟨lr.toArray⟩ := rfl
        rw [hpe, hre]
        clear hpe hre
        cases le with
        | false =>
          have HE := Lib.hid (HP.out.noLine HCT2.out HEM.out)
          go_wp2_with fail
          refine bodyPost_ret (v := .tuple #[.agg #[.int .i64 0, .slice none 0 0], .bool false]) (by simp [results, Tryz.results7, go_sem, d0, d1]) rfl ⟨.slice none 0 0, by rw [HE.out.1, HE.out.2.2], by rw [HE.out.2.1]; exact OwnSS.nil _ _ _, ?_⟩
          exact (hbw5.setCell (by simp) _).setCell (by simp) _
        | true =>
          have hcl := HCT2.out.parts.1
          have hpl : (⟨lp.toArray⟩ : ByteArray).size = lp.length := by rw [← size_list]
          have hrl : (⟨lr.toArray⟩ : ByteArray).size = lr.length := by rw [← size_list]
          have hlens : lp.length + lr.length + 1 = t.size := by have := congrArg List.length hcl; rw [size_list, List.length_append, List.length_cons] at this; omega
          clear hcl
          by_cases h40 : L.length = 40
          · have HE := Lib.hid (HP.out.noRoom h40 HEM.out)
            have h4 : ((L.length : Int) == 40) = true := by rw [h40]; rfl
            clear h40
            go_wp2_with fail
            refine bodyPost_ret (v := .tuple #[.agg #[.int .i64 0, .slice none 0 0], .bool false]) (by simp [results, Tryz.results7, go_sem, d0, d1]) rfl ⟨.slice none 0 0, by rw [HE.out.1, HE.out.2.2], by rw [HE.out.2.1]; exact OwnSS.nil _ _ _, ?_⟩
            exact (hbw5.setCell (by simp) _).setCell (by simp) _
          · have h4 : ((L.length : Int) == 40) = false := by rw [beq_eq_false_iff_ne]; omega
            have h39 : L.length < 40 := by omega
            have HQ := Lib.hid (parseRow_any ⟨lp.toArray⟩ C w5 (by omega) hC1 hC5 (HT.out.at hbw5))
            clear h40
            go_wp2_with fail
            refine HQ.out.mono ?_
            rintro e w6 ⟨hrow, hb6⟩
            have s6 := hb6.size
            have HBX6 := Lib.hid (HBX5.out.kept hb6 (by omega))
            have HRB6 := Lib.hid (HRB5.out.kept hb6 (by omega))
            have HSS6 := Lib.hid (HSS5.out.same (Below.keeps hb6 s5))
            have hbw6 := hbw5.trans (hb6.mono (by omega))
            clear hb6 c0 c1 f0 f1 d0 d1 g0 g1
            obtain ⟨⟨c0, c1⟩, f0, f1⟩ := HBX6.out.cells
            obtain ⟨⟨d0, d1⟩, g0, g1⟩ := HRB6.out.cells
            rcases hrow with ⟨u, q, rfl, hq1, hq2, ho⟩ | ⟨rfl, hno⟩
            · have HPN := Lib.hid (HP.out.snoc HCT2.out h39 hq1 hq2)
              obtain ⟨au, cu, rfl, -⟩ := ho.read
              have hql : q.length = C := hq1.1
              rw [hql]
              rw [hql] at ho
              have hos := HSS6.out.same (w' := w6.alloc (.cells #[.slice au C cu] 37)) (fun k _ hk => Below.heap_alloc _ _ _ (by omega))
              obtain ⟨V, o1, o2, o3, o4⟩ := hos
              have O1 := Lib.hid o1
              have O2 := Lib.hid o2
              have O3 := Lib.hid o3
              have O4 := Lib.hid o4
              have HOU : Hid (OwnI (w6.alloc (.cells #[.slice au C cu] 37)) (w3.heap.size + 1) (.slice au C cu) q) := Lib.hid (OwnI.base (World.ownsRow.alloc ho _) (by omega))
              have HLT := Lib.hid ho.lt
              have c1A := ((BoxIs.far HBX6.out (⟨rfl, rfl, rfl, by simp, fun k hk _ => Below.heap_alloc _ _ _ hk⟩ : w6.grownBy (w6.alloc (.cells #[.slice au C cu] 37)) none) (by simp)).cells).1.2
              clear o1 o2 o3 o4 hq1 hq2 ho
              go_wp2_with (at_builtin; refine wpList_append_own _ rfl _ _ 24 rfl (w3.heap.size + 1) 37 i0 (.slice none 0 0) 1 24 Tryz.underlying24 HI.out.1 HI.out.2.1 HI.out.2.2.1 HI.out.2.2.2 rfl (by decide) _ _ _ rfl O1.out ⟨w6.heap.size, 0, none⟩ 1 1 [.slice au C cu] rfl rfl (cell_one_new _ _ _) (one_slice _ _ _) (by unfold maxLen; omega) (by omega) (by simp; omega) ?_; intro v' w7 hown' hgrow _; have HBX7 := Lib.hid (box_grown HBX6.out hgrow O1.out); have HRB7 := Lib.hid (BoxIs.far (BoxIs.far HRB6.out (⟨rfl, rfl, rfl, by simp, fun k hk _ => Below.heap_alloc _ _ _ hk⟩ : w6.grownBy (w6.alloc (.cells #[.slice au C cu] 37)) none) (by simp)) hgrow (fun e => by have := (World.ownsRow.lt O1.out _ e).1; omega)); have HO7 := Lib.hid hown'; have HG7 := Lib.hid hgrow; obtain ⟨a7, c7, rfl⟩ := row_form hown'; clear hown' hgrow; obtain ⟨⟨k0, k1⟩, k2, k3⟩ := HBX7.out.cells)
              have s7 := HG7.out.size
              rw [World.size_alloc] at s7
              have HSN := Lib.hid (OwnSS.snocV O1.out O2.out O3.out O4.out HOU.out (C' := w7.heap.size) (fun k hk => by have := HLT.out k hk; exact ⟨by omega, by omega⟩) HO7.out HG7.out (by omega) (fun k hk => (World.ownsRow.lt HO7.out k hk).2))
              have HSN2 : Hid (OwnSS (w7.setCell ⟨w3.heap.size, 1, none⟩ (.slice a7 (L.length + 1) c7)) (w3.heap.size + 1) (w7.setCell ⟨w3.heap.size, 1, none⟩ (.slice a7 (L.length + 1) c7)).heap.size (.slice a7 (L.length + 1) c7) (L ++ [q])) := Lib.hid ((HSN.out.same ((Same.refl _ _ _).setCell (p := ⟨w3.heap.size, 1, none⟩) (.inl (by show w3.heap.size < _; omega)) (.slice a7 (L.length + 1) c7))).base (Nat.le_refl _) (by simp))
              have hbw7 := ((hbw6.alloc (by omega) (.cells #[.slice au C cu] 37)).grown HG7.out (by simp; omega) (fun k hk => by have := (World.ownsRow.lt O1.out k hk).1; omega)).setCell (p := ⟨w3.heap.size, 1, none⟩) (by show w.heap.size ≤ w3.heap.size; omega) (.slice a7 (L.length + 1) c7)
              go_roundw
              case rel => exact ⟨⟨lr.toArray⟩, L ++ [q], _, rfl, by omega, HPN, Lib.hid HBX7.out.set, Lib.hid (HRB7.out.other (by show w.heap.size ≠ w3.heap.size; omega)), HSN2, hbw7, by simp; omega⟩
              case measure => show (⟨lr.toArray⟩ : ByteArray).size < t.size; omega
            · have HE := Lib.hid (HP.out.noRow HCT2.out hno)
              clear hno
              go_wp2_with fail
              refine bodyPost_ret (v := .tuple #[.agg #[.int .i64 0, .slice none 0 0], .bool false]) (by simp [results, Tryz.results7, go_sem, d0, d1]) rfl ⟨.slice none 0 0, by rw [HE.out.1, HE.out.2.2], by rw [HE.out.2.1]; exact OwnSS.nil _ _ _, ?_⟩
              exact (hbw6.setCell (by simp) _).setCell (by simp) _
end Go.Proofs.YtpkcffbfgocndaaGreatDoor
