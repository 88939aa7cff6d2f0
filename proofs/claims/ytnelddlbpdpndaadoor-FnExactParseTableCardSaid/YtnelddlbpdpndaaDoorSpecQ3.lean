/- The model's ParseTable, by contract. Conditions: at most 2^20 bytes. -/
import Derived.Test.YtnelddlbpdpndaaDoorSpecQ2
namespace Go.Proofs.YtnelddlbpdpndaaDoor
open Go.RowKit

theorem box_grown {wr w8 : World} {T : Nat} {c : Int} {rv v : Value} {o : Obj} {E : TypeId} {n : Nat} {xs : List Value} (h : BoxIs wr T c rv) (hg : (wr.alloc o).grownBy w8 v.ownBlock) (ho : (wr.alloc o).ownsRow (T + 1) E 1 v n xs) : BoxIs w8 T c rv :=
  (hg.block T (by simp; have := h.lt; omega) (fun e => by have := (World.ownsRow.lt ho T e.symm).1; omega)).trans ((Below.heap_alloc _ _ _ h.lt).trans h)
theorem row_form {w : World} {B : Nat} {E : TypeId} {v : Value} {n : Nat} {xs : List Value} (h : w.ownsRow B E 1 v n xs) : ∃ a c, v = .slice a n c := by
  rcases ownsRow_shape h with ⟨rfl, hn⟩ | ⟨g, cap, rfl, -⟩
  · exact ⟨none, 0, by rw [hn]⟩
  · exact ⟨_, _, rfl⟩
def RetPT (s : ByteArray) (w : World) (e : Ending) (w' : World) : Prop :=
  ∃ v, e = .returned (.tuple #[.agg #[.int .i64 (parC s), v], .bool (parOk s)]) ∧ OwnSS w' w.heap.size w'.heap.size v (parR s) ∧ Below w.heap.size w w'
set_option maxRecDepth 20000 in
set_option maxHeartbeats 3200000 in
theorem parseTable_any (s : ByteArray) (w : World) (hs : s.size ≤ 1048576) :
    Calls Tryd.prog 10 #[.string s] w (RetPT s w) := by
  obtain ⟨i0, hi, hz0, hz1, hz2⟩ := info_parts infoSj
  have HI : Hid (_ ∧ _ ∧ _ ∧ _) := Lib.hid ⟨hi, hz0, hz1, hz2⟩
  clear hi hz0 hz1 hz2
  obtain ⟨j0, hi, hz0, hz1, hz2⟩ := info_parts info3j
  have HJ : Hid (_ ∧ _ ∧ _ ∧ _) := Lib.hid ⟨hi, hz0, hz1, hz2⟩
  clear hi hz0 hz1 hz2
  have hsl : s.data.toList.length = s.size := (str_size s).symm
  have HML : Hid ((midL s.data.toList).length = (cutL 10 s.data.toList).length - 2) := Lib.hid (midL_len _)
  have HCL : Hid ((cutL 10 s.data.toList).length ≤ s.size + 1 ∧ 1 ≤ (cutL 10 s.data.toList).length) := Lib.hid ⟨by rw [← hsl]; exact (cutL_len 10 _).1, List.length_pos_iff.2 (cutL_ne 10 _)⟩
  have HMB : Hid (∀ j, j < (midL s.data.toList).length → ((midL s.data.toList).getD j []).length + 2 ≤ s.size) := Lib.hid (fun j hj => by rw [← hsl]; exact mid_bd _ j hj)
  have HMG : Hid (∀ j, j < (midL s.data.toList).length → (midL s.data.toList).getD j [] = (cutL 10 s.data.toList).getD (j + 1) []) := Lib.hid (fun j hj => midL_get _ j hj)
  have H0 : Hid (tabC s.data.toList = ((((cutL 10 s.data.toList).getD 0 []).length : Nat) : Int)) := Lib.hid rfl
  have HR : Hid (tabR s.data.toList = (midL s.data.toList).map rowM) := Lib.hid rfl
  have HLC := Lib.hid (l2Cut_any s 10 (w.alloc (.cells #[.int .i64 0, .slice none 0 0] 27)) hs)
  clear hsl
  have h0l : ((cutL 10 s.data.toList).getD 0 []).length ≤ 1048576 := by
    have h := (cutL_len 10 s.data.toList).2 ((cutL 10 s.data.toList).getD 0 []) (by rw [List.getD_eq_getElem?_getD, List.getElem?_eq_getElem (List.length_pos_iff.2 (cutL_ne 10 _))]; exact List.getElem_mem _)
    rw [← str_size] at h; omega
  obtain ⟨ls, hls⟩ : ∃ ls, ls = cutL 10 s.data.toList := ⟨_, rfl⟩
  obtain ⟨ms, hms⟩ : ∃ ms, ms = midL s.data.toList := ⟨_, rfl⟩
  rw [← hls] at HML HCL HMG H0 HLC h0l
  rw [← hms] at HML HMB HMG HR
  clear hls hms
  have hbx := (Below.refl w.heap.size w).alloc (Nat.le_refl _) (.cells #[.int .i64 0, .slice none 0 0] 27)
  have hzz := zero2 w 27 (.int .i64 0) (.slice none 0 0)
  go_enter Tryd.func10, Tryd.ntmps10
  go_wp2_with fail
  refine HLC.out.mono ?_
  rintro e w1 ⟨vl, rfl, ol, hb1⟩
  have HB1 := Lib.hid (hbx.trans (hb1.mono hbx.size))
  have HZ1 : Hid ((w1.cell? ⟨w.heap.size, 0, none⟩ = some (.int .i64 0) ∧ w1.cell? ⟨w.heap.size, 1, none⟩ = some (.slice none 0 0)) ∧ w1.frozen? ⟨w.heap.size, 0, none⟩ = false ∧ w1.frozen? ⟨w.heap.size, 1, none⟩ = false) :=
    Lib.hid ⟨⟨(hb1.cell (p := ⟨w.heap.size, 0, none⟩) (by simp)).trans hzz.1, (hb1.cell (p := ⟨w.heap.size, 1, none⟩) (by simp)).trans hzz.2⟩, (hb1.frozen (p := ⟨w.heap.size, 0, none⟩) (by simp)).trans (by go_simp), (hb1.frozen (p := ⟨w.heap.size, 1, none⟩) (by simp)).trans (by go_simp)⟩
  have hw1 : w.heap.size + 1 ≤ w1.heap.size := by have := hb1.size; simpa using this
  have HRD := Lib.hid ol.read
  clear hb1 hzz ol hbx
  obtain ⟨al, capl, rfl, hcl⟩ := HRD.out
  obtain ⟨xl, rfl⟩ : ∃ x, al = some x := by
    obtain ⟨x, hx, -⟩ := hcl 0 (by have := HCL.out; omega)
    exact ⟨x, hx⟩
  have hx0 : w1.cell? (xl.add 0) = some (strV (ls.getD 0 [])) := by
    obtain ⟨x, hx, hcell⟩ := hcl 0 (by have := HCL.out; omega)
    simp at hx
    subst hx
    exact hcell
  rw [Addr.add_zero'] at hx0
  have hl1 : 0 < ls.length := by have := HCL.out; omega
  obtain ⟨l0, hl0⟩ : ∃ l0 : ByteArray, l0 = ⟨(ls.getD 0 []).toArray⟩ := ⟨_, rfl⟩
  have hl0s : l0.size = (ls.getD 0 []).length := by rw [str_size, hl0]
  rw [show strV (ls.getD 0 []) = .string l0 by rw [hl0]; rfl] at hx0
  rw [← hl0s] at H0 h0l
  clear hl0 hl0s hcl
  go_wp2_with fail
  have hbs : BoxIs (w1.alloc (.cells #[.int .i64 (l0.size : Int), .slice none 0 0] 27)) w1.heap.size (l0.size : Int) (.slice none 0 0) := heap_alloc_new w1 _
  go_loopw [6] (fun iv wr => ∃ (j : Nat) (L : List (List Int)) (rv : Value), j ≤ ms.length ∧ iv = .int .i64 ((j : Int) + 1) ∧ Hid (L = (ms.take j).map rowM) ∧ Hid (BoxIs wr w1.heap.size (l0.size : Int) rv) ∧ Hid (OwnSS wr (w1.heap.size + 1) wr.heap.size rv L) ∧ Below w1.heap.size w1 wr) (fun iv _ => ms.length + 1 - (intOf iv).toNat)
  case atStart => exact ⟨0, [], _, by omega, rfl, Lib.hid rfl, Lib.hid hbs, Lib.hid (OwnSS.nil _ _ _), (Below.refl _ _).alloc (Nat.le_refl _) _⟩
  case round =>
    clear hbs hx0
    obtain ⟨j, L, rv, hj, rfl, hL, HBX, HO, hb⟩ := hrel
    have hLl : L.length = j := by rw [hL.out, List.length_map, List.length_take]; omega
    have hls2 : ms.length + 2 ≤ ls.length ∨ ms.length = 0 := by have := HML.out; omega
    by_cases hlt : j < ms.length
    · have hjl : j + 2 < ls.length := by have := HML.out; omega
      obtain ⟨al, capl', hv, hcl⟩ := HRD.out.kept hb
      simp at hv
      obtain ⟨rfl, -⟩ := hv
      obtain ⟨x, hx, hcell⟩ := hcl (j + 1) (by omega)
      simp at hx
      subst hx
      have hpb := HMB.out j hlt
      rw [← HMG.out j hlt] at hcell
      have HTK := Lib.hid (map_take_succ ms rowM [] j hlt)
      obtain ⟨p, hp⟩ : ∃ p, ms.getD j [] = p := ⟨_, rfl⟩
      rw [hp] at hpb hcell HTK
      obtain ⟨pb, hpp⟩ : ∃ pb : ByteArray, pb = ⟨p.toArray⟩ := ⟨_, rfl⟩
      have hpd : pb.data.toList = p := by rw [hpp]
      rw [show strV p = .string pb by rw [hpp]; rfl] at hcell
      have HLP := Lib.hid (l2Cut_any pb 32 wr (by rw [str_size, hpd]; omega))
      rw [hpd] at HLP
      have hcp := cutL_len 32 p
      have HRM : Hid (rowM p = (cutL 32 p).map valueM) := Lib.hid rfl
      obtain ⟨parts, hparts⟩ : ∃ parts, cutL 32 p = parts := ⟨_, rfl⟩
      rw [hparts] at HLP hcp HRM
      have hpl : parts.length ≤ 1048576 := by omega
      have HPB : Hid (∀ q ∈ parts, q.length ≤ 1048576) := Lib.hid (fun q hq => by have := hcp.2 q hq; omega)
      have hLl2 : L.length ≤ 1048576 := by have := HCL.out; omega
      obtain ⟨t, ht⟩ : ∃ t : Nat, t = j + 1 := ⟨_, rfl⟩
      have HT := Lib.hid ht
      rw [show (j : Int) + 1 = (t : Int) by omega]
      rw [← ht] at hcell
      have z0 : (0 : Int) ≤ (t : Int) := by omega
      have z1 : (t : Int) < (ls.length : Int) := by omega
      have z2 : (t : Int) + 1 < (ls.length : Int) := by omega
      have z3 : (t : Int) ≤ 2097152 := by have := HCL.out; omega
      clear hp hpp hpd hparts hcl hLl hcp hls2 ht
      go_wp2_with fail
      refine HLP.out.mono ?_
      rintro e w3 ⟨vp, rfl, op, hb3⟩
      have HRP := Lib.hid op.read
      obtain ⟨ap, capp, rfl, -⟩ := op.read
      have HB3 := Lib.hid hb3
      clear op hb3 hcell
      go_wp2_with fail
      obtain ⟨wi, rfl⟩ : ∃ wi : World, wi = wr := ⟨_, rfl⟩
      have hor0 : OwnI (w3.alloc (.cells #[] 3)) w3.heap.size (.slice (some ⟨w3.heap.size, 0, none⟩) 0 0) [] := OwnI.made (World.ownsRow_made w3 #[] 0 (Nat.le_refl _) (by unfold maxLen; omega) rfl)
      go_loopw [8, 9] (fun rv kv wr => ∃ (k : Nat) (l : List Int), k ≤ parts.length ∧ kv = .int .i64 (k : Int) ∧ Hid (l = (parts.take k).map valueM) ∧ Hid (OwnI wr w3.heap.size rv l) ∧ Below w3.heap.size w3 wr) (fun _ kv _ => parts.length - (intOf kv).toNat)
      case atStart => exact ⟨0, [], by omega, rfl, Lib.hid rfl, Lib.hid hor0, (Below.refl _ _).alloc (Nat.le_refl _) _⟩
      case round =>
        clear hor0
        obtain ⟨k, l, hk, rfl, hl2, hor, hbI⟩ := hrel
        have hll : l.length ≤ 1048576 := by rw [hl2.out, List.length_map]; have := List.length_take_le k parts; omega
        by_cases hkt : k < parts.length
        · obtain ⟨ap', capp', hv, hcp⟩ := HRP.out.kept hbI
          simp at hv
          obtain ⟨rfl, -⟩ := hv
          obtain ⟨xp, rfl, hcell⟩ := hcp k hkt
          have HST := Lib.hid (map_take_succ parts valueM [] k hkt)
          have hql := HPB.out (parts.getD k []) (by rw [List.getD_eq_getElem?_getD, List.getElem?_eq_getElem hkt]; exact List.getElem_mem _)
          obtain ⟨q, hq⟩ : ∃ q, parts.getD k [] = q := ⟨_, rfl⟩
          rw [hq] at hcell HST hql
          obtain ⟨qb, hqq⟩ : ∃ qb : ByteArray, qb = ⟨q.toArray⟩ := ⟨_, rfl⟩
          have hqd : qb.data.toList = q := by rw [hqq]
          rw [show strV q = .string qb by rw [hqq]; rfl] at hcell
          have HVQ := Lib.hid (l3Value_any qb wr (by rw [str_size, hqd]; exact hql))
          rw [hqd] at HVQ
          obtain ⟨y, hy⟩ : ∃ y, valueM q = y := ⟨_, rfl⟩
          rw [hy] at HVQ HST
          have y0 : (0 : Int) ≤ (k : Int) := by omega
          have y1 : (k : Int) < (parts.length : Int) := by omega
          have HBI := Lib.hid hbI
          clear hq hqq hqd hy hcp hbI
          go_wp2_with fail
          refine HVQ.out.mono ?_
          rintro e w5 ⟨rfl, hb5⟩
          have hor5 := Lib.hid (hor.out.kept hb5 (fun g hg => (hor.out.lt g hg).2))
          have hb6 := HBI.out.trans (hb5.mono HBI.out.size)
          clear hb5 hcell
          go_wp2_with (at_builtin; refine wpList_append_own _ rfl _ _ 39 rfl w3.heap.size 3 j0 (.int .i64 0) 1 8 Tryd.underlying39 HJ.out.1 HJ.out.2.1 HJ.out.2.2.1 HJ.out.2.2.2 rfl (by decide) _ _ _ rfl (World.ownsRow.alloc hor5.out _) ⟨w5.heap.size, 0, none⟩ 1 1 [.int .i64 y] rfl rfl (cell_one_new _ _ _) (one_i64 _) (by unfold maxLen; omega) (by omega) (le_alloc hb6 (Nat.le_refl _) _) ?_; intro v' w7 hown' hgrow _)
          have ho' := Lib.hid (OwnI.snoc hown')
          have hb' := (hb6.alloc hb6.size (.cells #[.int .i64 y] 3)).grown hgrow (by simp; have := hb6.size; omega) (fun g hg => (hor5.out.lt g hg).1)
          clear hown' hgrow
          go_wp2_with fail
          go_roundw
          case rel => exact ⟨k + 1, _, by omega, by go_num, Lib.hid (by rw [HST.out, hl2.out]), ho', hb'⟩
          case measure => simp [intOf]; omega
        · obtain rfl : k = parts.length := by omega
          have HLR : Hid (l = rowM p) := Lib.hid (by rw [hl2.out, HRM.out, List.take_length])
          obtain ⟨ar2, capr, rfl, -⟩ := hor.out.read
          have s1 := hb.size
          have s2 := HB3.out.size
          have s3 := hbI.size
          have hbw := HB3.out.trans (hbI.mono s2)
          have HBW := Lib.hid (HBX.out.kept hbw (HBX.out.lt))
          obtain ⟨⟨c0, c1⟩, f0, f1⟩ := HBW.out.cells
          have hos := (HO.out.same (Below.keeps hbw (Nat.le_refl _))).same (w' := wr.alloc (.cells #[.slice ar2 l.length capr] 39)) (fun g _ hg => Below.heap_alloc _ _ _ (by omega))
          obtain ⟨V, o1, o2, o3, o4⟩ := hos
          obtain ⟨ra, rcap, hrv⟩ := row_form o1
          subst hrv
          have hou : OwnI (wr.alloc (.cells #[.slice ar2 l.length capr] 39)) (w1.heap.size + 1) (.slice ar2 l.length capr) l := OwnI.base (World.ownsRow.alloc hor.out _) (by have := HBX.out.lt; omega)
          have O1 := Lib.hid o1
          have O2 := Lib.hid o2
          have O3 := Lib.hid o3
          have O4 := Lib.hid o4
          have hbt := HBX.out.lt
          clear o1 o2 o3 o4
          go_wp2_with (at_builtin; refine wpList_append_own _ rfl _ _ 22 rfl (w1.heap.size + 1) 39 i0 (.slice none 0 0) 1 24 Tryd.underlying22 HI.out.1 HI.out.2.1 HI.out.2.2.1 HI.out.2.2.2 rfl (by decide) _ _ _ rfl O1.out ⟨wr.heap.size, 0, none⟩ 1 1 [.slice ar2 l.length capr] rfl rfl (cell_one_new _ _ _) (one_slice _ _ _) (by unfold maxLen; omega) (by omega) (by simp; omega) ?_; intro v' w8 hown' hgrow _; have hbx8 := Lib.hid (box_grown HBW.out hgrow O1.out); obtain ⟨⟨d0, d1⟩, g0, g1⟩ := hbx8.out.cells; have hos3 := Lib.hid (OwnSS.snocV O1.out O2.out O3.out O4.out hou (fun g hg => ⟨Nat.le_trans s2 (hor.out.lt g hg).1, by have h1 := (hor.out.lt g hg).2; have h2 := hgrow.size; simp at h2; omega⟩) hown' hgrow (by have h2 := hgrow.size; simp at h2; omega) (fun g hg => (World.ownsRow.lt hown' g hg).2)); have hb9 := Lib.hid (((hb.trans (hbw.mono s1)).alloc (by omega) (.cells #[.slice ar2 l.length capr] 39)).grown hgrow (by simp; omega) (fun g hg => by have := (World.ownsRow.lt O1.out g hg).1; omega)); obtain ⟨av, cv, hvv⟩ := row_form hown'; clear hown' hgrow; subst hvv)
          have hos4 : Hid (OwnSS (w8.setCell ⟨w1.heap.size, 1, none⟩ (.slice av (L.length + 1) cv)) (w1.heap.size + 1) (w8.setCell ⟨w1.heap.size, 1, none⟩ (.slice av (L.length + 1) cv)).heap.size (.slice av (L.length + 1) cv) (L ++ [l])) :=
            Lib.hid ((hos3.out.same ((Same.refl _ _ _).setCell (.inl (by simp)) _)).base (Nat.le_refl _) (by simp))
          have hbx9 := Lib.hid (hbx8.out.set (rv' := .slice av (L.length + 1) cv))
          have hb10 := hb9.out.setCell (p := ⟨w1.heap.size, 1, none⟩) (Nat.le_refl _) (.slice av (L.length + 1) cv)
          clear c0 c1 f0 f1 hou hbI hbw
          go_wp2_with fail
          go_roundw
          case rel => exact ⟨j + 1, L ++ [l], _, by omega, by rw [HT.out], Lib.hid (by rw [HTK.out, hL.out, HLR.out]), hbx9, hos4, hb10⟩
          case measure => simp [intOf]; have := HT.out; omega
    · obtain rfl : j = ms.length := by omega
      have hpos : ¬ (ms.length + 2 < ls.length) := by have := HML.out; omega
      have hend : decide ((ms.length : Int) + 1 + 1 < (ls.length : Int)) = false := by simp; omega
      have z3 : (ms.length : Int) ≤ 2097152 := by have := HML.out; have := HCL.out; omega
      have HLL : Hid (tabR s.data.toList = L) := Lib.hid (by rw [HR.out, hL.out, List.take_length])
      have hLl2 : L.length ≤ 1048576 := by have := HML.out; have := HCL.out; omega
      have HLB : Hid (∀ i, i < L.length → (L.getD i []).length ≤ 1048576) := Lib.hid (fun i hi => by
        have hi2 : i < ms.length := by omega
        rw [hL.out, List.take_length, show (ms.map rowM).getD i [] = rowM (ms.getD i []) by simp [List.getD_eq_getElem?_getD, List.getElem?_eq_getElem hi2]]
        have h1 := rowM_len (ms.getD i [])
        have h2 := HMB.out i hi2
        omega)
      obtain ⟨⟨c0, c1⟩, f0, f1⟩ := HBX.out.cells
      obtain ⟨ra, rcap, hrv, -⟩ := HO.out.read
      subst hrv
      have hlz : w.heap.size < w1.heap.size := by omega
      have d0 := (hb.cell (p := ⟨w.heap.size, 0, none⟩) hlz).trans HZ1.out.1.1
      have d1 := (hb.cell (p := ⟨w.heap.size, 1, none⟩) hlz).trans HZ1.out.1.2
      have g0 := (hb.frozen (p := ⟨w.heap.size, 0, none⟩) hlz).trans HZ1.out.2.1
      have g1 := (hb.frozen (p := ⟨w.heap.size, 1, none⟩) hlz).trans HZ1.out.2.2
      have HF := Lib.hid (formatTable_any (l0.size : Int) (.slice ra L.length rcap) L wr HO.out.read hLl2 HLB.out)
      have hbw := HB1.out.trans (hb.mono (by omega))
      clear hLl hls2 hpos
      by_cases hem : s.data.toList = []
      · have he1 : s.toList.isEmpty = true := by rw [ByteArray.toList_eq, hem]; rfl
        have HE : Hid (parC s = 0 ∧ parR s = [] ∧ parOk s = false) := Lib.hid (by
          have h : ¬ (s.data.toList ≠ [] ∧ fmtT (tabC s.data.toList) (tabR s.data.toList) = s) := fun x => x.1 hem
          unfold parC parR parOk; exact ⟨if_neg h, if_neg h, decide_eq_false h⟩)
        clear hem
        go_wp2_with fail
        refine bodyPost_ret (v := .tuple #[.agg #[.int .i64 0, .slice none 0 0], .bool false]) (by simp [results, Tryd.results10, go_sem, d0, d1]) rfl ⟨.slice none 0 0, by rw [HE.out.1, HE.out.2.2], by rw [HE.out.2.1]; exact OwnSS.nil _ _ _, ?_⟩
        exact (hbw.setCell (by simp) _).setCell (by simp) _
      · have he1 : s.toList.isEmpty = false := by
          rw [ByteArray.toList_eq]
          cases hq : s.data.toList with
          | nil => exact absurd hq hem
          | cons x y => rfl
        by_cases hf : fmtT (l0.size : Int) L = s
        · have HE : Hid (parC s = (l0.size : Int) ∧ parR s = L ∧ parOk s = true) := Lib.hid (by
            have h : s.data.toList ≠ [] ∧ fmtT (tabC s.data.toList) (tabR s.data.toList) = s := ⟨hem, by rw [H0.out, HLL.out]; exact hf⟩
            unfold parC parR parOk; exact ⟨by rw [if_pos h, H0.out], by rw [if_pos h, HLL.out], decide_eq_true h⟩)
          have hf1 : ((fmtT (l0.size : Int) L).toList != s.toList) = false := by rw [hf]; simp
          have hf2 : ((fmtT (l0.size : Int) L).toList == s.toList) = true := by rw [hf]; simp
          obtain ⟨ft, hft⟩ : ∃ ft, fmtT (l0.size : Int) L = ft := ⟨_, rfl⟩
          rw [hft] at HF hf1 hf2
          clear hem hf hft
          go_wp2_with fail
          refine HF.out.mono ?_
          rintro e w8 ⟨rfl, hb8⟩
          obtain ⟨hc8, hf8⟩ := bcell hb8
          have HBX8 := Lib.hid (HBX.out.kept hb8 HBX.out.lt)
          obtain ⟨⟨k0, k1⟩, l2, l3⟩ := HBX8.out.cells
          have hlw : w.heap.size < wr.heap.size := by have := hb.size; omega
          have d0' := (hb8.cell (p := ⟨w.heap.size, 0, none⟩) hlw).trans d0
          have d1' := (hb8.cell (p := ⟨w.heap.size, 1, none⟩) hlw).trans d1
          have g0' := (hb8.frozen (p := ⟨w.heap.size, 0, none⟩) hlw).trans g0
          have g1' := (hb8.frozen (p := ⟨w.heap.size, 1, none⟩) hlw).trans g1
          have HO8 := Lib.hid (HO.out.same (Below.keeps hb8 (Nat.le_refl _)))
          have s8 := hb8.size
          clear hc8 hf8
          go_wp2_with fail
          refine bodyPost_ret (v := .tuple #[.agg #[.int .i64 (l0.size : Int), .slice ra L.length rcap], .bool true]) (by simp [results, Tryd.results10, go_sem, d0', d1']) rfl ⟨_, by rw [HE.out.1, HE.out.2.2], by rw [HE.out.2.1]; exact (HO8.out.same (((Same.refl _ _ _).setCell (.inl (by simp; omega)) _).setCell (.inl (by simp; omega)) _)).base (by omega) (by simp; exact s8), ?_⟩
          exact ((hbw.trans (hb8.mono hbw.size)).setCell (by simp) _).setCell (by simp) _
        · have HE : Hid (parC s = 0 ∧ parR s = [] ∧ parOk s = false) := Lib.hid (by
            have h : ¬ (s.data.toList ≠ [] ∧ fmtT (tabC s.data.toList) (tabR s.data.toList) = s) := fun x => hf (by have := x.2; rw [H0.out, HLL.out] at this; exact this)
            unfold parC parR parOk; exact ⟨if_neg h, if_neg h, decide_eq_false h⟩)
          have hf1 : ((fmtT (l0.size : Int) L).toList != s.toList) = true := by
            rw [bne_iff_ne, ByteArray.toList_eq, ByteArray.toList_eq]
            exact fun e => hf (str_ext e)
          have hf2 : ((fmtT (l0.size : Int) L).toList == s.toList) = false := by
            rw [beq_eq_false_iff_ne, ByteArray.toList_eq, ByteArray.toList_eq]
            exact fun e => hf (str_ext e)
          obtain ⟨ft, hft⟩ : ∃ ft, fmtT (l0.size : Int) L = ft := ⟨_, rfl⟩
          rw [hft] at HF hf1 hf2
          clear hem hf hft
          go_wp2_with fail
          refine HF.out.mono ?_
          rintro e w8 ⟨rfl, hb8⟩
          have hlw : w.heap.size < wr.heap.size := by have := hb.size; omega
          have d0' := (hb8.cell (p := ⟨w.heap.size, 0, none⟩) hlw).trans d0
          have d1' := (hb8.cell (p := ⟨w.heap.size, 1, none⟩) hlw).trans d1
          have g0' := (hb8.frozen (p := ⟨w.heap.size, 0, none⟩) hlw).trans g0
          have g1' := (hb8.frozen (p := ⟨w.heap.size, 1, none⟩) hlw).trans g1
          go_wp2_with fail
          refine bodyPost_ret (v := .tuple #[.agg #[.int .i64 0, .slice none 0 0], .bool false]) (by simp [results, Tryd.results10, go_sem, d0', d1']) rfl ⟨.slice none 0 0, by rw [HE.out.1, HE.out.2.2], by rw [HE.out.2.1]; exact OwnSS.nil _ _ _, ?_⟩
          exact ((hbw.trans (hb8.mono hbw.size)).setCell (by simp) _).setCell (by simp) _
theorem tot_leQ (l : List (List Int)) (m : Nat) (h : ∀ r ∈ l, r.length ≤ m) : tot l ≤ l.length * m := by
  induction l with
  | nil => simp [tot]
  | cons r t ih =>
    have h1 := h r (by simp)
    have h2 := ih (fun x hx => h x (by simp [hx]))
    unfold tot at *
    rw [List.map_cons, List.sum_cons, List.length_cons, Nat.succ_mul]
    omega
theorem par_bd (s : ByteArray) : (parR s).length ≤ 1048576 ∧ tot (parR s) ≤ 1048576 := by
  rcases par_iff s with ⟨-, h, -⟩ | ⟨-, -, h, -⟩
  · have h1 := isT_bd h
    have h2 := tot_leQ (parR s) 5 (fun r hr => by
      obtain ⟨k, hk, rfl⟩ := List.getElem_of_mem hr
      have := (isT_row h hk).1
      rw [List.getD_eq_getElem?_getD, List.getElem?_eq_getElem hk] at this
      simp only [Option.getD_some] at this
      omega)
    exact ⟨by omega, by omega⟩
  · rw [h]; simp [tot]
def RetPD (rc : Int) (d : List (List Int)) (ok : Bool) (w : World) (e : Ending) (w' : World) : Prop :=
  ∃ v, e = .returned (.tuple #[.agg #[.int .i64 rc, v], .bool ok]) ∧ OwnSS w' w.heap.size w'.heap.size v d ∧ Below w.heap.size w w'
end Go.Proofs.YtnelddlbpdpndaaDoor
