/- Texts of this claim, merged: PdH, PdI, FltD, FltI. Conditions: as stated. -/
import Derived.Test.YtnbjcelfdppkcacGreatPdGm
import Derived.Test.YtnbjcelfdppkcacGreatWd31
import Derived.Test.YtnbjcelfdppkcacGreatWd20
import Derived.Test.YtnbjcelfdppkcacGreatWd11
import Derived.Test.YtnbjcelfdppkcacGreatWd5
import Derived.Maps.AppendAt
namespace Go.Proofs.YtnbjcelfdppkcacGreat
open Go.RowKit

theorem dedTo_wf {n : Int} {l : List (Int × Int)} (ha : arD n l = true) : ∀ d ∈ dedTo n l l.length, (Lit.int .i64 d.1).wf = true ∧ (Lit.int .i64 d.2).wf = true := by
  intro d hd
  obtain ⟨C, rfl, h1, hC, -, hl⟩ := arD_n ha
  obtain ⟨j, hj, rfl⟩ := (dedTo_mem (n := (C : Int)) (l := l) l.length).1 hd
  obtain ⟨L, R, -, hLC, hL, hR, -, he⟩ := red_of hC ha hl hj
  rw [he]
  exact ⟨wf_small11 _ (redN_facts hC hl hL (show R < 5 by omega) 5 (Nat.le_refl _)).1, wf_small11 R (by omega)⟩
section
set_option maxRecDepth 20000
set_option maxHeartbeats 3200000
theorem implCoverOf_any (v : Value) (n : Int) (l : List (Int × Int)) (_w0 : (Lit.int .i64 n).wf = true) (bd : ∀ d ∈ l, (Lit.int .i64 d.1).wf = true ∧ (Lit.int .i64 d.2).wf = true) (w : World) (hr : ReadD w v l) (hl : l.length ≤ 1048576) :
    Calls Tryz.prog 6 #[.int .i64 n, v] w (RetD (coL11 n l) w) := by
  have HAD := Lib.hid (implAreDeps_any v n l _w0 bd w hr hl)
  cases ha : arD n l with
  | false =>
    rw [ha] at HAD
    have HE : Hid (coL11 n l = []) := Lib.hid (by unfold coL11; rw [ha]; rfl)
    rw [HE.out]
    obtain ⟨a, cap, rfl, -⟩ := hr
    clear ha HE bd
    go_enter Tryz.func6, Tryz.ntmps6
    go_wp2_with fail
    refine HAD.out.mono ?_
    rintro e w2 ⟨rfl, b2⟩
    have HB2 := Lib.hid b2
    clear b2
    go_wp2_with fail
    go_ret
    exact ⟨_, rfl, OwnD.nil _ _, HB2.out⟩
  | true =>
    rw [ha] at HAD
    obtain ⟨-, -, -, -, hl20, -⟩ := arD_n ha
    have HRD := Lib.hid (fun w' (hb : Below w.heap.size w w') => reduced_any v n l _w0 bd w' (hr.kept hb) (by omega))
    have HE : Hid (coL11 n l = rmL n (dedTo n l l.length).length (dedTo n l l.length) 0) := Lib.hid (by unfold coL11; rw [ha]; rfl)
    have HWF := Lib.hid (dedTo_wf ha)
    have hdl := dedTo_len n l l.length
    rw [HE.out]
    obtain ⟨q, hq⟩ : ∃ q, q = dedTo n l l.length := ⟨_, rfl⟩
    rw [← hq] at HRD HWF hdl ⊢
    obtain ⟨a, cap, rfl, -⟩ := hr
    clear ha HE bd hq
    go_enter Tryz.func6, Tryz.ntmps6
    go_wp2_with fail
    refine HAD.out.mono ?_
    rintro e w2 ⟨rfl, b2⟩
    have HB2 := Lib.hid b2
    clear b2
    go_wp2_with fail
    refine (HRD.out _ HB2.out).mono ?_
    rintro e w3 ⟨v3, rfl, o3, b3⟩
    have HB3 := Lib.hid (HB2.out.trans (b3.mono HB2.out.size))
    have HO3 := Lib.hid (o3.base HB2.out.size)
    clear b3 o3
    go_wp2_with fail
    go_loopw [5, 6] (fun ov iv wr => ∃ (i : Nat) (r : List (Int × Int)), i ≤ r.length ∧ r.length ≤ 20 ∧ iv = .int .i64 (i : Int) ∧ Hid (rmL n (r.length - i) r i = rmL n q.length q 0) ∧ Hid (∀ d ∈ r, (Lit.int .i64 d.1).wf = true ∧ (Lit.int .i64 d.2).wf = true) ∧ Hid (OwnD wr w.heap.size ov r) ∧ Hid (Below w.heap.size w wr)) (fun ov iv _ => lenOf11 ov - (intOf iv).toNat)
    case atStart => exact ⟨0, q, by omega, by omega, rfl, Lib.hid rfl, HWF, HO3, HB3⟩
    case round =>
      clear HO3 HB3 HWF hdl
      obtain ⟨i, r, hi, hr20, rfl, HF, HWF, HO, HB⟩ := hrel
      obtain ⟨w4, hw⟩ : ∃ w', w' = wr := ⟨_, rfl⟩
      rw [← hw] at HO HB ⊢
      clear hw
      have hcap := HO.out.capOk
      have hrd := HO.out.read
      obtain ⟨a4, c4, hov⟩ := HO.out.shape
      by_cases hlt : i < r.length
      · have z0 : (0 : Int) ≤ (i : Int) := by omega
        have z1 : (i : Int) < (r.length : Int) := by omega
        have HSW := Lib.hid (spareWhole_any _ n r _w0 HWF.out i hlt w4 hrd (by omega) hcap)
        have HOT := Lib.hid (fun w' (hb : Below w4.heap.size w4 w') => others_any _ i r w' (hrd.kept hb) (by omega) hlt hcap)
        have HST := Lib.hid ((rm_step (n := n) hlt).symm.trans HF.out)
        have HEL := Lib.hid (erase_len hlt)
        have HWE := Lib.hid (erase_wf HWF.out i)
        subst hov
        clear hrd hcap
        cases hm : impB n (r.eraseIdx i) (r.getD i (0, 0)) with
        | true =>
          rw [hm] at HST HSW
          have HF5 := Lib.hid (by have h := HST.out; rw [if_pos rfl] at h; exact h)
          clear hm
          go_wp2_with fail
          refine HSW.out.mono ?_
          rintro e w5 ⟨rfl, b5⟩
          have HB5 := Lib.hid (HB.out.trans (b5.mono HB.out.size))
          have HO5 := Lib.hid (HOT.out _ b5)
          clear b5 HOT
          go_wp2_with fail
          refine HO5.out.mono ?_
          rintro e w6 ⟨v6, rfl, o6, b6⟩
          have HB6 := Lib.hid (HB5.out.trans (b6.mono HB5.out.size))
          have HO6 := Lib.hid (o6.base HB5.out.size)
          have hel := HEL.out
          obtain ⟨a6, c6, hv6⟩ := HO6.out.shape
          subst hv6
          clear o6 b6
          go_wp2_with fail
          go_roundw
          case rel => exact ⟨i, r.eraseIdx i, by omega, by omega, rfl, HF5, HWE, HO6, HB6⟩
          case measure => simp [intOf, lenOf11]; omega
        | false =>
          rw [hm] at HST HSW
          have HF5 := Lib.hid (by have h := HST.out; rw [if_neg (by decide)] at h; exact h)
          clear hm HOT
          go_wp2_with fail
          refine HSW.out.mono ?_
          rintro e w5 ⟨rfl, b5⟩
          have HB5 := Lib.hid (HB.out.trans (b5.mono HB.out.size))
          have HO5 := Lib.hid (HO.out.below b5 (fun k hk => (HO.out.lt k hk).2))
          clear b5
          go_wp2_with fail
          go_roundw
          case rel => exact ⟨i + 1, r, by omega, hr20, by go_num, HF5, HWF, HO5, HB5⟩
          case measure => simp [intOf, lenOf11]; omega
      · obtain rfl : i = r.length := by omega
        have z0 : ¬ (((r.length : Nat) : Int) < ((r.length : Nat) : Int)) := by omega
        have HE := Lib.hid ((rm_end (n := n) hlt).symm.trans HF.out)
        subst hov
        clear hrd hcap
        go_wp2_with fail
        go_ret
        exact ⟨.slice a4 r.length c4, by first | rfl | kernel_rfl, by rw [← HE.out]; exact HO.out, HB.out⟩
end
end Go.Proofs.YtnbjcelfdppkcacGreat
namespace Go.Proofs.YtnbjcelfdppkcacGreat
open Go.RowKit

/-- A part of a list as a value of the interface type. -/
def prV : Prt → Value
  | .whole i => .iface 50 (.int .i64 (i : Int))
  | .left L R y => .iface 81 (.agg #[.int .i64 L, .int .i64 R, .int .i64 y])
def OwnP (w : World) (B : Nat) (v : Value) (ps : List Prt) : Prop := w.ownsRow B 58 1 v ps.length (ps.map prV)
theorem infoPt : (Tryz.prog.info? 58).map (fun i => (i.zero, i.size, i.bytes)) = some (some .nilIface, 1, 16) := by kernel_rfl
theorem OwnP.nil (w : World) (B : Nat) : OwnP w B (.slice .none 0 0) [] := World.ownsRow_nil _ _ _ _
theorem OwnP.snoc {w : World} {B : Nat} {v : Value} {ps : List Prt} {p : Prt} (h : w.ownsRow B 58 1 v (ps.length + 1) (ps.map prV ++ [prV p])) : OwnP w B v (ps ++ [p]) := by
  unfold OwnP
  rw [List.length_append, List.length_singleton, List.map_append]; exact h
theorem OwnP.lt {w : World} {B : Nat} {v : Value} {ps : List Prt} (h : OwnP w B v ps) : ∀ k, v.ownBlock = some k → B ≤ k ∧ k < w.heap.size := World.ownsRow.lt h
theorem OwnP.kept {w w' : World} {B C : Nat} {v : Value} {ps : List Prt} (h : OwnP w B v ps) (hb : Below C w w') (hC : ∀ k, v.ownBlock = some k → k < C) : OwnP w' B v ps := by
  refine ⟨h.1, ?_⟩
  rcases h.2 with hn | ⟨g, cap, cur, rfl, hB, hgg, rest⟩
  · exact .inl hn
  · exact .inr ⟨g, cap, cur, rfl, hB, (hb.block g (hC g rfl)).trans hgg, rest⟩
theorem OwnP.shape {w : World} {B : Nat} {v : Value} {ps : List Prt} (h : OwnP w B v ps) : ∃ a c, v = .slice a ps.length c := by
  rcases h.2 with ⟨rfl, h0⟩ | ⟨g, cap, cur, rfl, -⟩
  · exact ⟨_, _, by rw [h0]⟩
  · exact ⟨_, _, rfl⟩
theorem part_apart {w : World} {B B' : Nat} {v v' : Value} {ps : List Prt} {l : List Int} (h : OwnP w B v ps) (h' : OwnI w B' v' l) : ∀ g, v.ownBlock = some g → v'.ownBlock ≠ some g := by
  intro g hg hg'
  rcases h.2 with ⟨rfl, _⟩ | ⟨g1, cap, cur, rfl, hB, hgg, rest⟩
  · cases hg
  · rcases h'.2 with ⟨rfl, _⟩ | ⟨g2, cap2, cur2, rfl, hB2, hgg2, rest2⟩
    · cases hg'
    · simp [Value.ownBlock] at hg hg'
      subst hg hg'
      rw [hgg] at hgg2
      simp at hgg2
theorem part_bx {w : World} {B b : Nat} {v : Value} {ps : List Prt} {x y : Int} (h : OwnP w B v ps) (hx : Bx w b x y) : v.ownBlock ≠ some b := by
  intro hg
  rcases h.2 with ⟨rfl, _⟩ | ⟨g1, cap, cur, rfl, hB, hgg, rest⟩
  · cases hg
  · simp [Value.ownBlock] at hg
    subst hg
    unfold Bx at hx
    rw [hgg] at hx
    simp at hx
theorem Bx.grown {w w' : World} {b : Nat} {x y : Int} {row : Option Nat} (h : Bx w b x y) (hg : w.grownBy w' row) (hne : row ≠ some b) : Bx w' b x y := (hg.block b (World.block_lt_of_cell? w _ h.c0) (Ne.symm hne)).trans h
theorem one_prt (p : Prt) : ∀ u ∈ [prV p], u.oneCell' = true := by
  intro u hu
  simp at hu
  subst hu
  cases p <;> rfl
/-- What the loop over a dependency's columns holds. -/
structure PIs (w wr : World) (g : Nat) (L R : Int) (vm : Value) (ms : List Int) (ov : Value) (q : List Prt) : Prop where
  o : OwnP wr w.heap.size ov q
  d : Bx wr g L R
  m : OwnI wr w.heap.size vm ms
  b : Below w.heap.size w wr
theorem PIs.keep {w wr w' : World} {g : Nat} {L R : Int} {vm ov : Value} {ms : List Int} {q : List Prt} (h : PIs w wr g L R vm ms ov q) (hb : Below wr.heap.size wr w') : PIs w w' g L R vm ms ov q :=
  ⟨h.o.kept hb (fun k hk => (h.o.lt k hk).2), h.d.keep hb, h.m.kept hb (fun k hk => (h.m.lt k hk).2), h.b.trans (hb.mono h.b.size)⟩
theorem PIs.grow {w wr w' : World} {g : Nat} {L R : Int} {vm ov v' : Value} {ms : List Int} {q : List Prt} {p : Prt} (h : PIs w wr g L R vm ms ov q) (hg : wr.grownBy w' ov.ownBlock) (ho : w'.ownsRow w.heap.size 58 1 v' (q.length + 1) (q.map prV ++ [prV p])) : PIs w w' g L R vm ms v' (q ++ [p]) :=
  ⟨OwnP.snoc ho, h.d.grown hg (part_bx h.o h.d), h.m.keptBy hg (fun k e => part_apart h.o h.m k e), h.b.grown hg h.b.size (fun k hk => (h.o.lt k hk).1)⟩
def prtIn (l : List (Int × Int)) (i k : Nat) : List Prt := prtTo l i ++ (.whole i :: ((mems (l.getD i (0, 0)).1).take k).map (fun y => .left (l.getD i (0, 0)).1 (l.getD i (0, 0)).2 y))
theorem prtIn_zero (l : List (Int × Int)) (i : Nat) : prtIn l i 0 = prtTo l i ++ [.whole i] := by unfold prtIn; simp
theorem prtIn_succ (l : List (Int × Int)) (i k : Nat) (hk : k < (mems (l.getD i (0, 0)).1).length) : prtIn l i (k + 1) = prtIn l i k ++ [.left (l.getD i (0, 0)).1 (l.getD i (0, 0)).2 ((mems (l.getD i (0, 0)).1).getD k 0)] := by
  unfold prtIn
  rw [take_succ_getD _ 0 k hk, List.map_append]
  simp
theorem prtIn_end (l : List (Int × Int)) (i : Nat) : prtIn l i (mems (l.getD i (0, 0)).1).length = prtTo l (i + 1) := by
  unfold prtIn
  rw [List.take_length]
  rfl
theorem prtIn_len (l : List (Int × Int)) (i k : Nat) : (prtIn l i k).length ≤ i * 6 + 6 := by
  have h1 := prtTo_len l i
  have h2 := mems_len (l.getD i (0, 0)).1
  unfold prtIn
  rw [List.length_append, List.length_cons, List.length_map, List.length_take]
  omega
def RetPt (ps : List Prt) (w : World) (e : Ending) (w' : World) : Prop := ∃ v, e = .returned v ∧ OwnP w' w.heap.size v ps ∧ Below w.heap.size w w'
section
set_option maxRecDepth 20000
set_option maxHeartbeats 3200000
theorem partsOf_any (C : Nat) (hC : C ≤ 5) (v : Value) (l : List (Int × Int)) (hd : DepsN C l) (w : World) (hr : ReadD w v l) (hl : l.length ≤ 20) :
    Calls Tryz.prog 42 #[v] w (RetPt (prtTo l l.length) w) := by
  obtain ⟨i0, hi, hz0, hz1, hz2⟩ := info_parts infoPt
  have HI : Hid (_ ∧ _ ∧ _ ∧ _) := Lib.hid ⟨hi, hz0, hz1, hz2⟩
  clear hi hz0 hz1 hz2
  have HR := Lib.hid (fun w' (hb : Below w.heap.size w w') => hr.kept hb)
  have HD := Lib.hid hd
  have HME := Lib.hid (fun (L : Nat) (hL : L < 32) w' => members_any L hL w')
  have h32 := two5 hC
  obtain ⟨a, cap, rfl, -⟩ := hr
  have HO1 := Lib.hid (OwnP.nil w w.heap.size)
  have HB1 := Lib.hid (Below.refl w.heap.size w)
  clear hd
  go_enter Tryz.func42, Tryz.ntmps42
  go_wp2_with fail
  go_loopw [3, 10] (fun ov iv wr => ∃ (i : Nat) (q : List Prt), i ≤ l.length ∧ iv = .int .i64 (i : Int) ∧ Hid (q = prtTo l i) ∧ Hid (OwnP wr w.heap.size ov q) ∧ Hid (Below w.heap.size w wr)) (fun _ iv _ => l.length - (intOf iv).toNat)
  case atStart => exact ⟨0, [], by omega, rfl, Lib.hid rfl, HO1, HB1⟩
  case round =>
    clear HO1 HB1
    obtain ⟨i, q, hi, rfl, HQ, HO, HB⟩ := hrel
    obtain ⟨w3, hw⟩ : ∃ w', w' = wr := ⟨_, rfl⟩
    rw [← hw] at HO HB ⊢
    clear hw
    have hql := prtTo_len l i
    rw [← HQ.out] at hql
    by_cases hlt : i < l.length
    · have z0 : (0 : Int) ≤ (i : Int) := by omega
      have z1 : (i : Int) < (l.length : Int) := by omega
      obtain ⟨b', o', rfl, h0, h1⟩ := readD_cells (HR.out w3 HB.out) hlt
      obtain ⟨L, R, e, hL, hR⟩ := HD.out _ (memD hlt)
      have HZ := Lib.hid (prtIn_zero l i)
      have HSU := Lib.hid (prtIn_succ l i)
      have HEN := Lib.hid (prtIn_end l i)
      have HLE := Lib.hid (prtIn_len l i)
      rw [e] at h0 h1 HSU HEN
      simp only at h0 h1 HSU HEN
      rw [← HQ.out] at HZ
      have hml := mems_len (L : Int)
      have HM := Lib.hid (HME.out L (by omega))
      obtain ⟨ms, hms⟩ : ∃ ms, ms = mems (L : Int) := ⟨_, rfl⟩
      rw [← hms] at HSU HEN HM hml
      have ha3 := (Below.refl w3.heap.size w3).alloc (Nat.le_refl _) (.cells #[.int .i64 (L : Int), .int .i64 (R : Int)] 40)
      have HX3 := Lib.hid (bx_new w3 L R)
      have HB3 := Lib.hid (HB.out.trans (ha3.mono HB.out.size))
      have HO3 := Lib.hid (HO.out.kept ha3 (fun k hk => (HO.out.lt k hk).2))
      clear e hms ha3 HQ
      obtain ⟨a3, c3, hov⟩ := HO.out.shape
      subst hov
      go_upto_region 5 with fail
      obtain ⟨w4, hw4⟩ : ∃ w4, w4 = w3.alloc (.cells #[.int .i64 (L : Int), .int .i64 (R : Int)] 40) := ⟨_, rfl⟩
      rw [← hw4] at HX3 HB3 HO3 ⊢
      obtain ⟨g, hg⟩ : ∃ g, g = w3.heap.size := ⟨_, rfl⟩
      rw [← hg] at HX3 ⊢
      clear hw4 hg h0 h1 HB HO
      have ho3 := HO3.out
      unfold OwnP at ho3
      go_wp2_with (at_builtin; refine wpList_append_own _ rfl _ _ 56 rfl w.heap.size 58 i0 .nilIface 1 16 Tryz.underlying56 HI.out.1 HI.out.2.1 HI.out.2.2.1 HI.out.2.2.2 rfl (by decide) _ _ _ rfl (World.ownsRow.alloc ho3 _) ⟨w4.heap.size, 0, none⟩ 1 1 [prV (.whole i)] rfl rfl (cell_one_new _ _ _) (one_prt _) (by unfold maxLen; omega) (by omega) (le_alloc HB3.out (Nat.le_refl _) _) ?_; intro v1 w5 hown1 hgrow1 _; have hx4 := HX3.out.keep ((Below.refl w4.heap.size w4).alloc (Nat.le_refl _) (.cells #[prV (.whole i)] 58)); have HX5 := Lib.hid (hx4.grown hgrow1 (part_bx (World.ownsRow.alloc ho3 _) hx4)); have HO5 := Lib.hid (OwnP.snoc hown1); have HB5 := Lib.hid ((HB3.out.alloc HB3.out.size (.cells #[prV (.whole i)] 58)).grown hgrow1 (by simp; have := HB3.out.size; omega) (fun k hk => (OwnP.lt HO3.out k hk).1)); clear hown1 hgrow1 hx4; have x0 := HX5.out.c0; have x1 := HX5.out.c1)
      refine (HM.out _).mono ?_
      rintro e w6 ⟨vm, rfl, om, b6⟩
      have HP6 : Hid (PIs w w6 g (L : Int) (R : Int) vm ms v1 (prtIn l i 0)) := Lib.hid ⟨by rw [HZ.out]; exact HO5.out.kept b6 (fun k hk => (HO5.out.lt k hk).2), HX5.out.keep b6, om.base HB5.out.size, HB5.out.trans (b6.mono HB5.out.size)⟩
      obtain ⟨am, capm, rfl, -⟩ := om.read
      clear x0 x1 om b6 HX5 HO5 HB5 HX3 HB3 HO3 ho3 HZ
      go_wp2_with fail
      go_loopw [3, 24] (fun ov kv wr => ∃ k : Nat, k ≤ ms.length ∧ kv = .int .i64 (k : Int) ∧ Hid (PIs w wr g (L : Int) (R : Int) (.slice am ms.length capm) ms ov (prtIn l i k))) (fun _ kv _ => ms.length - (intOf kv).toNat)
      case atStart => exact ⟨0, by omega, rfl, HP6⟩
      case round =>
        clear HP6
        obtain ⟨k, hk, rfl, HP⟩ := hrel
        obtain ⟨w7, hw⟩ : ∃ w', w' = wr := ⟨_, rfl⟩
        rw [← hw] at HP ⊢
        clear hw
        have hpl := HLE.out k
        by_cases hkl : k < ms.length
        · have y0 : (0 : Int) ≤ (k : Int) := by omega
          have y1 : (k : Int) < (ms.length : Int) := by omega
          obtain ⟨a', cap', e', hcm⟩ := HP.out.m.read
          cases e'
          obtain ⟨xm, rfl, hx⟩ := hcm k hkl
          rw [get_getD ms k hkl] at hx
          have HSK := Lib.hid (HSU.out k hkl)
          obtain ⟨y, hy⟩ : ∃ y, y = ms.getD k 0 := ⟨_, rfl⟩
          rw [← hy] at hx HSK
          obtain ⟨r, hr⟩ : ∃ r, r = prtIn l i k := ⟨_, rfl⟩
          rw [← hr] at HP HSK hpl
          have ho7 := HP.out.o
          obtain ⟨a7, c7, hov⟩ := ho7.shape
          subst hov
          unfold OwnP at ho7
          have c0 := HP.out.d.c0
          have c1 := HP.out.d.c1
          clear hy hr hcm
          go_wp2_with (at_builtin; refine wpList_append_own _ rfl _ _ 56 rfl w.heap.size 58 i0 .nilIface 1 16 Tryz.underlying56 HI.out.1 HI.out.2.1 HI.out.2.2.1 HI.out.2.2.2 rfl (by decide) _ _ _ rfl (World.ownsRow.alloc ho7 _) ⟨w7.heap.size, 0, none⟩ 1 1 [prV (.left (L : Int) (R : Int) y)] rfl rfl (cell_one_new _ _ _) (one_prt _) (by unfold maxLen; omega) (by omega) (le_alloc HP.out.b (Nat.le_refl _) _) ?_; intro v2 w8 hown1 hgrow1 _; have HP8 := Lib.hid ((HP.out.keep ((Below.refl w7.heap.size w7).alloc (Nat.le_refl _) (.cells #[prV (.left (L : Int) (R : Int) y)] 58))).grow hgrow1 hown1); clear hown1 hgrow1)
          go_roundw
          case rel => exact ⟨k + 1, by omega, by go_num, by rw [HSK.out]; exact HP8⟩
          case measure => simp [intOf]; omega
        · obtain rfl : k = ms.length := by omega
          have y0 : ¬ (((ms.length : Nat) : Int) < ((ms.length : Nat) : Int)) := by omega
          go_wp2_with fail
          go_roundw
          case rel => exact ⟨i + 1, _, by omega, by go_num, Lib.hid HEN.out, Lib.hid HP.out.o, Lib.hid HP.out.b⟩
          case measure => simp [intOf]; omega
    · obtain rfl : i = l.length := by omega
      have z0 : ¬ (((l.length : Nat) : Int) < ((l.length : Nat) : Int)) := by omega
      go_wp2_with fail
      go_ret
      exact ⟨_, rfl, by rw [← HQ.out]; exact HO.out, HB.out⟩
end
end Go.Proofs.YtnbjcelfdppkcacGreat
namespace Go.Proofs.YtnbjcelfdppkcacGreat
open Go.RowKit

set_option maxHeartbeats 1600000 in
theorem filtUC_any (c1 : Value) (p : Int × Int → Bool) (v : Value) (l : List (Int × Int)) (w : World) (hr : ReadD w v l) (hl : l.length ≤ 1048576)
    (HP : ∀ x, x ∈ l → ∀ w', Below w.heap.size w w' → Calls Tryz.prog 108 #[.agg #[.int .i64 x.1, .int .i64 x.2], c1] w' fun e w'' => e = .returned (.bool (p x)) ∧ Below w'.heap.size w' w'') :
    Calls Tryz.prog 92 #[v, .func (.func 108) #[] #[c1]] w (RetD (l.filter p) w) := by
  obtain ⟨i0, hi, hz0, hz1, hz2⟩ := info_parts infoDp
  have HI : Hid (_ ∧ _ ∧ _ ∧ _) := Lib.hid ⟨hi, hz0, hz1, hz2⟩
  clear hi hz0 hz1 hz2
  have HQ := Lib.hid HP
  have HN := Lib.hid (fun k hk => filter_next p l (0, 0) k hk)
  have HL := Lib.hid (fun k => List.length_filter_le p (l.take k))
  obtain ⟨a, cap, rfl, ha⟩ := hr
  have HA := Lib.hid ha
  clear ha HP
  go_enter Tryz.func92, Tryz.ntmps92
  go_wp2_with (at_make; refine wpList_make_own _ rfl _ _ 24 rfl w.heap.size 40 i0 (.agg #[.int .i64 0, .int .i64 0]) 2 Tryz.underlying24 HI.out.1 HI.out.2.1 HI.out.2.2.1 .i64 .i64 _ l.length rfl rfl rfl (by rw [HI.out.2.2.2]; omega) (by unfold maxLen; omega) (Nat.le_refl _) ?_; intro w0 hown0 hgrow0)
  have hb0 := (Below.refl w.heap.size w).grown hgrow0 (Nat.le_refl _) (by simp)
  have hown : OwnD w0 w.heap.size _ [] := hown0
  clear hown0 hgrow0
  go_loopw [5, 13] (fun ov iv wr => ∃ (k : Nat) (q : List (Int × Int)), k ≤ l.length ∧ iv = .int .i64 (k : Int) ∧ Hid (q = (l.take k).filter p) ∧ OwnD wr w.heap.size ov q ∧ Below w.heap.size w wr) (fun _ iv _ => l.length - (intOf iv).toNat)
  case atStart => exact ⟨0, [], by omega, rfl, Lib.hid rfl, hown, hb0⟩
  case round =>
    clear hown hb0
    obtain ⟨k, q, hk, rfl, hq, ho, hb⟩ := hrel
    by_cases hlt : k < l.length
    · obtain ⟨b, o, rfl, h0, h1⟩ := HA.out k hlt
      replace h0 := (hb.cell (World.block_lt_of_cell? w _ h0)).trans h0
      replace h1 := (hb.cell (World.block_lt_of_cell? w _ h1)).trans h1
      have hm : l.getD k (0, 0) ∈ l := by rw [List.getD_eq_getElem?_getD, List.getElem?_eq_getElem hlt]; exact List.getElem_mem hlt
      have hll : q.length ≤ 1048576 := by rw [hq.out]; have := HL.out k; rw [List.length_take] at this; omega
      have HS := Lib.hid (HN.out k hlt)
      obtain ⟨⟨y0, y1⟩, hy⟩ : ∃ y, y = l.getD k (0, 0) := ⟨_, rfl⟩
      rw [← hy] at h0 h1 HS hm
      simp only at h0 h1
      have HC := Lib.hid (HQ.out (y0, y1) hm)
      have hwb := (Below.refl wr.heap.size wr).alloc (Nat.le_refl _) (.cells #[.int .i64 y0, .int .i64 y1] 40)
      have HB := Lib.hid (hb.trans (hwb.mono hb.size))
      have HO := Lib.hid (ho.below hwb (fun k hk => (ho.lt k hk).2))
      obtain ⟨e0, e1⟩ := zero2 wr 40 (.int .i64 y0) (.int .i64 y1)
      clear hy hm ho hwb
      have z0 : (0 : Int) ≤ (k : Int) := by omega
      have z1 : (k : Int) < (l.length : Int) := by omega
      cases hp : p (y0, y1) with
      | true =>
        rw [hp] at HC HS
        rw [if_pos rfl] at HS
        clear hp
        go_wp2_with fail
        refine (HC.out _ HB.out).mono ?_
        rintro e w1 ⟨rfl, b1⟩
        replace e0 := (b1.cell (World.block_lt_of_cell? _ _ e0)).trans e0
        replace e1 := (b1.cell (World.block_lt_of_cell? _ _ e1)).trans e1
        have ho1 := HO.out.below b1 (fun k hk => (HO.out.lt k hk).2)
        have hb1 := HB.out.trans (b1.mono HB.out.size)
        clear b1
        go_wp2_with (at_builtin; refine wpList_append_own _ rfl _ _ 24 rfl w.heap.size 40 i0 (.agg #[.int .i64 0, .int .i64 0]) 2 16 Tryz.underlying24 HI.out.1 HI.out.2.1 HI.out.2.2.1 HI.out.2.2.2 rfl (by decide) _ _ _ rfl (World.ownsRow.alloc ho1 _) ⟨w1.heap.size, 0, none⟩ 1 1 [.int .i64 y0, .int .i64 y1] rfl rfl (cell_two_new _ _ _ _) (two_i64 _ _) (by unfold maxLen; omega) (by omega) (le_alloc hb1 (Nat.le_refl _) _) ?_; intro v1 w2 hown1 hgrow1 _)
        have ho2 := OwnD.snoc hown1
        have hb2 := (hb1.alloc hb1.size (.cells #[.int .i64 y0, .int .i64 y1] 40)).grown hgrow1 (by simp; have := hb1.size; omega) (fun k hk => (OwnD.lt ho1 k hk).1)
        clear hown1 hgrow1
        go_wp2_with fail
        go_roundw
        case rel => exact ⟨k + 1, _, by omega, by go_num, Lib.hid (by rw [HS.out, ← hq.out]), ho2, hb2⟩
        case measure => simp [intOf]; omega
      | false =>
        rw [hp] at HC HS
        rw [if_neg (by decide)] at HS
        clear hp
        go_wp2_with fail
        refine (HC.out _ HB.out).mono ?_
        rintro e w1 ⟨rfl, b1⟩
        replace e0 := (b1.cell (World.block_lt_of_cell? _ _ e0)).trans e0
        replace e1 := (b1.cell (World.block_lt_of_cell? _ _ e1)).trans e1
        have ho1 := HO.out.below b1 (fun k hk => (HO.out.lt k hk).2)
        have hb1 := HB.out.trans (b1.mono HB.out.size)
        clear b1
        go_wp2_with fail
        go_roundw
        case rel => exact ⟨k + 1, _, by omega, by go_num, Lib.hid (by rw [HS.out, ← hq.out]), ho1, hb1⟩
        case measure => simp [intOf]; omega
    · obtain rfl : k = l.length := by omega
      go_wp2_with fail
      go_ret
      exact ⟨_, rfl, by have := hq.out; rw [List.take_length] at this; rw [← this]; exact ho, hb⟩
end Go.Proofs.YtnbjcelfdppkcacGreat
namespace Go.Proofs.YtnbjcelfdppkcacGreat
open Go.RowKit

set_option maxHeartbeats 1600000 in
theorem filtPW_any (c1 : Value) (p : Int → Bool) (v : Value) (l : List Int) (w : World) (hr : ReadI w v l) (hl : l.length ≤ 1048576)
    (HP : ∀ x, x ∈ l → ∀ w', Below w.heap.size w w' → Calls Tryz.prog 117 #[.int .i64 x, c1] w' fun e w'' => e = .returned (.bool (p x)) ∧ Below w'.heap.size w' w'') :
    Calls Tryz.prog 82 #[v, .func (.func 117) #[] #[c1]] w (RetI (l.filter p) w) := by
  obtain ⟨i0, hi, hz0, hz1, hz2⟩ := info_parts info3i
  have HI : Hid (_ ∧ _ ∧ _ ∧ _) := Lib.hid ⟨hi, hz0, hz1, hz2⟩
  clear hi hz0 hz1 hz2
  have HQ := Lib.hid HP
  have HN := Lib.hid (fun k hk => filter_next p l 0 k hk)
  have HL := Lib.hid (fun k => List.length_filter_le p (l.take k))
  obtain ⟨a, cap, rfl, ha⟩ := hr
  have HA := Lib.hid ha
  clear ha HP
  go_enter Tryz.func82, Tryz.ntmps82
  go_wp2_with (at_make; refine wpList_make_own _ rfl _ _ 31 rfl w.heap.size 3 i0 (.int .i64 0) 1 Tryz.underlying31 HI.out.1 HI.out.2.1 HI.out.2.2.1 .i64 .i64 _ l.length rfl rfl rfl (by rw [HI.out.2.2.2]; omega) (by unfold maxLen; omega) (Nat.le_refl _) ?_; intro w0 hown0 hgrow0)
  have hb0 := (Below.refl w.heap.size w).grown hgrow0 (Nat.le_refl _) (by simp)
  have hown := OwnI.made hown0
  clear hown0 hgrow0
  go_loopw [5, 13] (fun ov iv wr => ∃ (k : Nat) (q : List Int), k ≤ l.length ∧ iv = .int .i64 (k : Int) ∧ Hid (q = (l.take k).filter p) ∧ OwnI wr w.heap.size ov q ∧ Below w.heap.size w wr) (fun _ iv _ => l.length - (intOf iv).toNat)
  case atStart => exact ⟨0, [], by omega, rfl, Lib.hid rfl, hown, hb0⟩
  case round =>
    clear hown hb0
    obtain ⟨k, q, hk, rfl, hq, ho, hb⟩ := hrel
    by_cases hlt : k < l.length
    · obtain ⟨x, rfl, hx⟩ := HA.out k hlt
      replace hx := (hb.cell (World.block_lt_of_cell? w _ hx)).trans hx
      rw [get_getD l k hlt] at hx
      have hm : l.getD k 0 ∈ l := by rw [← get_getD l k hlt]; exact List.getElem_mem hlt
      have hll : q.length ≤ 1048576 := by rw [hq.out]; have := HL.out k; rw [List.length_take] at this; omega
      have HS := Lib.hid (HN.out k hlt)
      obtain ⟨y, hy⟩ : ∃ y, y = l.getD k 0 := ⟨_, rfl⟩
      rw [← hy] at hx HS hm
      have HC := Lib.hid (HQ.out y hm)
      have HB := Lib.hid hb
      have HO := Lib.hid ho
      clear hy hm ho
      have z0 : (0 : Int) ≤ (k : Int) := by omega
      have z1 : (k : Int) < (l.length : Int) := by omega
      cases hp : p y with
      | true =>
        rw [hp] at HC HS
        rw [if_pos rfl] at HS
        clear hp
        go_wp2_with fail
        refine (HC.out _ HB.out).mono ?_
        rintro e w1 ⟨rfl, b1⟩
        have ho1 := HO.out.kept b1 (fun k hk => (HO.out.lt k hk).2)
        have hb1 := HB.out.trans (b1.mono HB.out.size)
        clear b1
        go_wp2_with (at_builtin; refine wpList_append_own _ rfl _ _ 31 rfl w.heap.size 3 i0 (.int .i64 0) 1 8 Tryz.underlying31 HI.out.1 HI.out.2.1 HI.out.2.2.1 HI.out.2.2.2 rfl (by decide) _ _ _ rfl (World.ownsRow.alloc ho1 _) ⟨w1.heap.size, 0, none⟩ 1 1 [.int .i64 y] rfl rfl (cell_one_new _ _ _) (one_i64 _) (by unfold maxLen; omega) (by omega) (le_alloc hb1 (Nat.le_refl _) _) ?_; intro v1 w2 hown1 hgrow1 _)
        have ho2 := OwnI.snoc hown1
        have hb2 := (hb1.alloc hb1.size (.cells #[.int .i64 y] 3)).grown hgrow1 (by simp; have := hb1.size; omega) (fun k hk => (OwnI.lt ho1 k hk).1)
        clear hown1 hgrow1
        go_wp2_with fail
        go_roundw
        case rel => exact ⟨k + 1, _, by omega, by go_num, Lib.hid (by rw [HS.out, ← hq.out]), ho2, hb2⟩
        case measure => simp [intOf]; omega
      | false =>
        rw [hp] at HC HS
        rw [if_neg (by decide)] at HS
        clear hp
        go_wp2_with fail
        refine (HC.out _ HB.out).mono ?_
        rintro e w1 ⟨rfl, b1⟩
        have ho1 := HO.out.kept b1 (fun k hk => (HO.out.lt k hk).2)
        have hb1 := HB.out.trans (b1.mono HB.out.size)
        clear b1
        go_wp2_with fail
        go_roundw
        case rel => exact ⟨k + 1, _, by omega, by go_num, Lib.hid (by rw [HS.out, ← hq.out]), ho1, hb1⟩
        case measure => simp [intOf]; omega
    · obtain rfl : k = l.length := by omega
      go_wp2_with fail
      go_ret
      exact ⟨_, rfl, by have := hq.out; rw [List.take_length] at this; rw [← this]; exact ho, hb⟩
end Go.Proofs.YtnbjcelfdppkcacGreat
