/- CheckDerivation answers as its model at every argument; it writes into no argument; its answer owns its memory. Conditions: none beyond the row's own. -/
import Derived.Test.YtmapiljbhjblhaaPcEm
import Derived.Test.YtmapiljbhjblhaaClFm
import Derived.Test.YtmapiljbhjblhaaDvBm
import Derived.Test.YtmapiljbhjblhaaUa21
namespace Go.Proofs.Ytmapiljbhjblhaa.lawFnExactCheckDerivation
open Go.ChangeShapes Go.WideShapes Go.ChangeAt Go.RowKit
theorem laidOut : laidOutB Try.prog = true := by kernel_rfl

theorem own : ownKnob Try.prog.godebug = none := by kernel_rfl

theorem cellb {w w' : World} {p : Addr} {v : Value} (h : w.cell? p = some v) (b : Below w.heap.size w w') : w'.cell? p = some v := (b.cell (World.block_lt_of_cell? w _ h)).trans h
set_option maxRecDepth 20000 in
set_option maxHeartbeats 6400000 in
theorem walk (n : Int) (vl : Value) (l : List (Int × Int)) (x y : Int) (vz : Value) (z : List (Int × Int × Int)) (_w0 : (Lit.int .i64 n).wf = true) (_wx : (Lit.int .i64 x).wf = true) (_wy : (Lit.int .i64 y).wf = true) (w : World) (hrl : ReadD w vl l) (hml : l.length ≤ maxLen) (bdl : ∀ d ∈ l, (Lit.int .i64 d.1).wf = true ∧ (Lit.int .i64 d.2).wf = true) (hrz : ReadT w vz z) (hmz : z.length ≤ maxLen) (bdz : ∀ t ∈ z, (Lit.int .i64 t.1).wf = true ∧ (Lit.int .i64 t.2.1).wf = true ∧ (Lit.int .i64 t.2.2).wf = true) :
    Calls Try.prog 7 #[.int .i64 n, vl, .agg #[.int .i64 x, .int .i64 y], vz] w fun e w' => e = .returned (.bool true) ∧ Below w.heap.size w w' := by
  have hbx := (Below.refl w.heap.size w).alloc (Nat.le_refl _) (.cells #[.int .i64 x, .int .i64 y] 32)
  obtain ⟨y0, y1⟩ := zero2 w 32 (.int .i64 x) (.int .i64 y)
  have HBX : Hid (∀ w', Below (w.alloc (.cells #[.int .i64 x, .int .i64 y] 32)).heap.size (w.alloc (.cells #[.int .i64 x, .int .i64 y] 32)) w' → Below w.heap.size w w' ∧ w'.cell? ⟨w.heap.size, 0, none⟩ = some (.int .i64 x) ∧ w'.cell? ⟨w.heap.size, 1, none⟩ = some (.int .i64 y)) := Lib.hid (fun w' hb => ⟨hbx.trans (hb.mono hbx.size), (hb.cell (World.block_lt_of_cell? _ _ y0)).trans y0, (hb.cell (World.block_lt_of_cell? _ _ y1)).trans y1⟩)
  have HRF := Lib.hid (Below.refl (w.alloc (.cells #[.int .i64 x, .int .i64 y] 32)).heap.size (w.alloc (.cells #[.int .i64 x, .int .i64 y] 32)))
  have HW1 : Hid (w.heap.size + 1 ≤ (w.alloc (.cells #[.int .i64 x, .int .i64 y] 32)).heap.size) := Lib.hid (by simp)
  clear hbx y0 y1
  have hb := HRF.out
  by_cases hszl : (l.length : Int) ≤ 1048576
  · have HZl := Lib.hid (fun w' (hb : Below w.heap.size w w') => szDepS_any vl l w' (hrl.kept hb) (1048576) (by omega) (by omega) (by unfold maxLen at hml; omega))
    rw [szD_ok hszl] at HZl
    have hnegl : ¬ (1048576 - (l.length : Int) < 0) := by omega
    by_cases hszz : (z.length : Int) ≤ 1048576 - (l.length : Int)
    · have HZz := Lib.hid (fun w' (hb : Below w.heap.size w w') => szDerivedS_any vz z w' (hrz.kept hb) (1048576 - (l.length : Int)) (by omega) (by omega) (by unfold maxLen at hmz; omega))
      rw [szD_ok hszz] at HZz
      have hnegz : ¬ (1048576 - (l.length : Int) - (z.length : Int) < 0) := by omega
      have HTO := Lib.hid (fun w' (hb : Below w.heap.size w w') => toDepS_any vl l w' (hrl.kept hb) (by omega))
      have HTD := Lib.hid (fun w' => toDep_any x y w')
      have HTT := Lib.hid (fun w' (hb : Below w.heap.size w w') => toDerivedS_any vz z w' (hrz.kept hb) (by omega))
      have HS := Lib.hid (fun ul uz w' (hl : ReadD w' ul l) (hz : ReadT w' uz z) => checkDer10_any ul uz n x y l z w' hl (by omega) hz (by omega))
      have HI := Lib.hid (fun ul uz w' (hl : ReadD w' ul l) (hz : ReadT w' uz z) => implCheckDer_any ul uz n x y l z _w0 bdl _wx _wy bdz w' hl (by omega) hz (by omega))
      obtain ⟨d, hd⟩ : ∃ d : Bool, d = chkB n l (x, y) z := ⟨_, rfl⟩
      rw [← hd] at HS HI
      clear hd
      have hdd : (d != d) = false := by simp
      obtain ⟨al, capl, rfl, -⟩ := hrl
      obtain ⟨az, capz, rfl, -⟩ := hrz
      obtain ⟨kb, x0, x1⟩ := HBX.out _ hb
      go_enter Try.func7, Try.ntmps7
      go_wp2_with fail
      refine (HZl.out _ kb).mono ?_
      rintro e w1 ⟨rfl, rfl⟩
      go_wp2_with fail
      refine (HZz.out _ kb).mono ?_
      rintro e w1 ⟨rfl, rfl⟩
      go_upto_region 8 with fail
      refine wp_region_noPanic ?_
      refine wp_region_held_drew (S := (fun w' => (w'.cell? ⟨w.heap.size, 0, none⟩ = some (.int .i64 x) ∧ w'.cell? ⟨w.heap.size, 1, none⟩ = some (.int .i64 y)) ∧ Below (w.alloc (.cells #[.int .i64 x, .int .i64 y] 32)).heap.size (w.alloc (.cells #[.int .i64 x, .int .i64 y] 32)) w')) (by kernel_rfl) ?_ (fun hHeld => ?_)
      · ((try dsimp only); exact ⟨⟨x0, x1⟩, (Below.refl _ _).drew⟩)
      refine wpAnyH_take (i := 0) (v := ?_) rfl (by kernel_rfl) (by kernel_rfl) (by kernel_rfl) (fun _ _ _ h => h) (Or.inl ⟨by rfl, ?_⟩) (by assumption) ?_
      rotate_left
      · (intro w hSw; (try dsimp only at hSw); go_simp; (try with_reducible rfl))
      (try simp only [Act.put, List.getElem_toArray, List.getElem_cons_zero, List.setIfInBounds_toArray, List.set_cons_zero, List.set_cons_succ])
      refine wpAnyH_take (i := 1) (v := ?_) rfl (by kernel_rfl) (by kernel_rfl) (by kernel_rfl) (fun _ _ _ h => h) (Or.inl ⟨by rfl, ?_⟩) (by assumption) ?_
      rotate_left
      · (intro w hSw; (try dsimp only at hSw); go_simp; (try with_reducible rfl))
      (try simp only [Act.put, List.getElem_toArray, List.getElem_cons_succ, List.getElem_cons_zero, List.setIfInBounds_toArray, List.set_cons_zero, List.set_cons_succ])
      refine wpAnyH_take (i := 3) (v := ?_) rfl (by kernel_rfl) (by kernel_rfl) (by kernel_rfl) (fun _ _ _ h => h) (Or.inl ⟨by rfl, ?_⟩) (by assumption) ?_
      rotate_left
      · (intro w hSw; (try dsimp only at hSw); go_simp; (try with_reducible rfl))
      (try simp only [Act.put, List.getElem_toArray, List.getElem_cons_succ, List.getElem_cons_zero, List.setIfInBounds_toArray, List.set_cons_zero, List.set_cons_succ])
      refine wpAnyH_take (i := 5) (v := ?_) rfl (by kernel_rfl) (by kernel_rfl) (by kernel_rfl) (fun _ _ _ h => h) (Or.inl ⟨by rfl, ?_⟩) (by assumption) ?_
      rotate_left
      · (intro w hSw; (try dsimp only at hSw); go_simp; (try with_reducible rfl))
      (try simp only [Act.put, List.getElem_toArray, List.getElem_cons_succ, List.getElem_cons_zero, List.setIfInBounds_toArray, List.set_cons_zero, List.set_cons_succ])
      refine wpAnyH_ready (rs := [2]) (by kernel_rfl) (by simp) (AllReadyH.cons rfl (fun K hK => ?_) AllReadyH.nil)
      (first | (go_at_call 12; refine (HTO.out _ (HBX.out _ (hb.trans (hHeld.2.mono hb.size))).1).mono ?_; rintro e w91 ⟨v91, rfl, o91, b91⟩; have R91 := Lib.hid o91.read) | (go_simp; go_at_call 12; refine (HTO.out _ (HBX.out _ (hb.trans (hHeld.2.mono hb.size))).1).mono ?_; rintro e w91 ⟨v91, rfl, o91, b91⟩; have R91 := Lib.hid o91.read))
      (try (go_wp2_with fail))
      refine hK.out _ _ ?_ (fun hHeld => ?_)
      · ((try dsimp only); exact ⟨⟨cellb hHeld.1.1 b91, cellb hHeld.1.2 b91⟩, hHeld.2.trans (b91.mono hHeld.2.size)⟩)
      clear hK K
      (try simp only [Act.put, List.getElem_toArray, List.getElem_cons_succ, List.getElem_cons_zero, List.setIfInBounds_toArray, List.set_cons_zero, List.set_cons_succ])
      refine wpAnyH_ready (rs := [4]) (by kernel_rfl) (by simp) (AllReadyH.cons rfl (fun K hK => ?_) AllReadyH.nil)
      (first | (go_at_call 18; refine (HTD.out _).mono ?_; rintro e w92 ⟨rfl, b92⟩; have R92 := Lib.hid (R91.out.kept b92)) | (go_simp; go_at_call 18; refine (HTD.out _).mono ?_; rintro e w92 ⟨rfl, b92⟩; have R92 := Lib.hid (R91.out.kept b92)))
      (try (go_wp2_with fail))
      refine hK.out _ _ ?_ (fun hHeld => ?_)
      · ((try dsimp only); exact ⟨⟨cellb hHeld.1.1 b92, cellb hHeld.1.2 b92⟩, hHeld.2.trans (b92.mono hHeld.2.size)⟩)
      clear hK K
      (try simp only [Act.put, List.getElem_toArray, List.getElem_cons_succ, List.getElem_cons_zero, List.setIfInBounds_toArray, List.set_cons_zero, List.set_cons_succ])
      refine wpAnyH_ready (rs := [6]) (by kernel_rfl) (by simp) (AllReadyH.cons rfl (fun K hK => ?_) AllReadyH.nil)
      (first | (go_at_call 28; refine (HTT.out _ (HBX.out _ (hb.trans (hHeld.2.mono hb.size))).1).mono ?_; rintro e w94 ⟨v94, rfl, o94, b94⟩; have R94 := Lib.hid o94.read; have R95 := Lib.hid (R92.out.kept b94)) | (go_simp; go_at_call 28; refine (HTT.out _ (HBX.out _ (hb.trans (hHeld.2.mono hb.size))).1).mono ?_; rintro e w94 ⟨v94, rfl, o94, b94⟩; have R94 := Lib.hid o94.read; have R95 := Lib.hid (R92.out.kept b94)))
      (try (go_wp2_with fail))
      refine hK.out _ _ ?_ (fun hHeld => ?_)
      · ((try dsimp only); exact ⟨⟨cellb hHeld.1.1 b94, cellb hHeld.1.2 b94⟩, hHeld.2.trans (b94.mono hHeld.2.size)⟩)
      clear hK K
      (try simp only [Act.put, List.getElem_toArray, List.getElem_cons_succ, List.getElem_cons_zero, List.setIfInBounds_toArray, List.set_cons_zero, List.set_cons_succ])
      refine wpAnyH_ready (rs := [7]) (by kernel_rfl) (by simp) (AllReadyH.cons rfl (fun K hK => ?_) AllReadyH.nil)
      (first | (go_at_call 27; refine (HS.out _ _ _ (R95.out) (R94.out)).mono ?_; rintro e w93 ⟨rfl, b93⟩) | (go_simp; go_at_call 27; refine (HS.out _ _ _ (R95.out) (R94.out)).mono ?_; rintro e w93 ⟨rfl, b93⟩))
      (try (go_wp2_with fail))
      refine hK.out _ _ ?_ (fun hHeld => ?_)
      · ((try dsimp only); exact ⟨⟨cellb hHeld.1.1 b93, cellb hHeld.1.2 b93⟩, hHeld.2.trans (b93.mono hHeld.2.size)⟩)
      clear hK K
      (try simp only [Act.put, List.getElem_toArray, List.getElem_cons_succ, List.getElem_cons_zero, List.setIfInBounds_toArray, List.set_cons_zero, List.set_cons_succ])
      refine wpAnyH_take (i := 8) (v := ?_) rfl (by kernel_rfl) (by kernel_rfl) (by kernel_rfl) (fun _ _ _ h => h) (Or.inl ⟨by rfl, ?_⟩) (by assumption) ?_
      rotate_left
      · (intro w hSw; (try dsimp only at hSw); go_simp; (try with_reducible rfl))
      (try simp only [Act.put, List.getElem_toArray, List.getElem_cons_succ, List.getElem_cons_zero, List.setIfInBounds_toArray, List.set_cons_zero, List.set_cons_succ])
      refine wpAnyH_done (by kernel_rfl) ?_ _
      refine NoPanic.normal ?_
      obtain ⟨w20, hw⟩ : ∃ w', w' = w93 := ⟨_, rfl⟩
      rw [← hw] at hHeld ⊢
      clear hw
      replace hb := hb.trans (hHeld.2.mono hb.size)
      clear hHeld b91 b92 b93 o91 R91 R92 kb x0 x1 b94 o94 R94 R95
      have hzz := hb.size
      have hw1 := HW1.out
      obtain ⟨kb, x0, x1⟩ := HBX.out _ hb
      go_wp2_with fail
      refine (HTO.out _ kb).mono ?_
      rintro e w1 ⟨v1, rfl, o1, b1⟩
      replace o1 := o1.range
      clear kb x0 x1
      have z1 := b1.size
      replace hb := hb.trans (b1.mono hb.size)
      clear b1
      obtain ⟨kb, x0, x1⟩ := HBX.out _ hb
      go_wp2_with fail
      refine (HTT.out _ kb).mono ?_
      rintro e w2 ⟨v3, rfl, o3, b2⟩
      replace o3 := o3.range
      clear kb x0 x1
      have z2 := b2.size
      replace hb := hb.trans (b2.mono hb.size)
      replace o1 := o1.same (Below.keeps b2 (by omega))
      clear b2
      obtain ⟨kb, x0, x1⟩ := HBX.out _ hb
      go_wp2_with fail
      refine (HTD.out _).mono ?_
      rintro e w3 ⟨rfl, b3⟩
      clear kb x0 x1
      have z3 := b3.size
      replace hb := hb.trans (b3.mono hb.size)
      replace o1 := o1.same (Below.keeps b3 (by omega))
      replace o3 := o3.same (Below.keeps b3 (by omega))
      clear b3
      obtain ⟨kb, x0, x1⟩ := HBX.out _ hb
      go_wp2_with fail
      refine (HI.out _ _ _ o1.read o3.read).mono ?_
      rintro e w4 ⟨rfl, b4⟩
      clear kb x0 x1
      have z4 := b4.size
      replace hb := hb.trans (b4.mono hb.size)
      replace o1 := o1.same (Below.keeps b4 (by omega))
      replace o3 := o3.same (Below.keeps b4 (by omega))
      clear b4
      obtain ⟨kb, x0, x1⟩ := HBX.out _ hb
      go_wp2_with fail
      refine (HTO.out _ kb).mono ?_
      rintro e w5 ⟨v2, rfl, o2, b5⟩
      replace o2 := o2.range
      clear kb x0 x1
      have z5 := b5.size
      replace hb := hb.trans (b5.mono hb.size)
      replace o1 := o1.same (Below.keeps b5 (by omega))
      replace o3 := o3.same (Below.keeps b5 (by omega))
      clear b5
      obtain ⟨kb, x0, x1⟩ := HBX.out _ hb
      go_wp2_with fail
      refine (eqDepS_same _ _ _ _ o1.read o2.read (by omega)).mono ?_
      rintro e w6 ⟨rfl, b6⟩
      clear kb x0 x1
      have z6 := b6.size
      replace hb := hb.trans (b6.mono hb.size)
      replace o1 := o1.same (Below.keeps b6 (by omega))
      replace o3 := o3.same (Below.keeps b6 (by omega))
      replace o2 := o2.same (Below.keeps b6 (by omega))
      clear b6
      clear o2
      obtain ⟨kb, x0, x1⟩ := HBX.out _ hb
      go_wp2_with fail
      refine (HTT.out _ kb).mono ?_
      rintro e w7 ⟨v4, rfl, o4, b7⟩
      replace o4 := o4.range
      clear kb x0 x1
      have z7 := b7.size
      replace hb := hb.trans (b7.mono hb.size)
      replace o1 := o1.same (Below.keeps b7 (by omega))
      replace o3 := o3.same (Below.keeps b7 (by omega))
      clear b7
      obtain ⟨kb, x0, x1⟩ := HBX.out _ hb
      go_wp2_with fail
      refine (eqDerivedS_same _ _ _ _ o3.read o4.read (by omega)).mono ?_
      rintro e w8 ⟨rfl, b8⟩
      clear kb x0 x1
      have z8 := b8.size
      replace hb := hb.trans (b8.mono hb.size)
      replace o1 := o1.same (Below.keeps b8 (by omega))
      replace o3 := o3.same (Below.keeps b8 (by omega))
      replace o4 := o4.same (Below.keeps b8 (by omega))
      clear b8
      obtain ⟨kb, x0, x1⟩ := HBX.out _ hb
      go_wp2_with fail
      go_ret
      exact ⟨rfl, kb⟩
    · have HZz := Lib.hid (fun w' (hb : Below w.heap.size w w') => szDerivedS_any vz z w' (hrz.kept hb) (1048576 - (l.length : Int)) (by omega) (by omega) (by unfold maxLen at hmz; omega))
      rw [szD_no hszz] at HZz
      obtain ⟨al, capl, rfl, -⟩ := hrl
      obtain ⟨az, capz, rfl, -⟩ := hrz
      obtain ⟨kb, x0, x1⟩ := HBX.out _ hb
      go_enter Try.func7, Try.ntmps7
      go_wp2_with fail
      refine (HZl.out _ kb).mono ?_
      rintro e w1 ⟨rfl, rfl⟩
      go_wp2_with fail
      refine (HZz.out _ kb).mono ?_
      rintro e w1 ⟨rfl, rfl⟩
      go_wp2_with fail
      go_ret
      exact ⟨rfl, kb⟩
  · have HZl := Lib.hid (fun w' (hb : Below w.heap.size w w') => szDepS_any vl l w' (hrl.kept hb) (1048576) (by omega) (by omega) (by unfold maxLen at hml; omega))
    rw [szD_no hszl] at HZl
    obtain ⟨al, capl, rfl, -⟩ := hrl
    obtain ⟨az, capz, rfl, -⟩ := hrz
    obtain ⟨kb, x0, x1⟩ := HBX.out _ hb
    go_enter Try.func7, Try.ntmps7
    go_wp2_with fail
    refine (HZl.out _ kb).mono ?_
    rintro e w1 ⟨rfl, rfl⟩
    go_wp2_with fail
    go_ret
    exact ⟨rfl, kb⟩

set_option linter.unusedVariables false
set_option maxRecDepth 100000 in
theorem lifted (os : Os) (started : os.Started) (H : Type) (enc : TypeId × Value → H) :
    ReturnsInHanded {} Try.checked os 7 .any (Rows.fnExactCheckDerivationSpec.pre6 enc Try.prog Try.f7 Rows.fnExactCheckDerivationRow.domain false) (Rows.fnExactCheckDerivationSpec.post enc Try.prog Try.f7 false true false false) := by
  refine returnsInHanded_of_change (C := Try.checked) own started (by kernel_rfl) Try.func7
    (ChangeSpec.witness6 (enc := enc) (C := Try.checked) false ⟨#[], #[.int .i64 0, .slice none 0 0, .agg #[.int .i64 0, .int .i64 0], .slice none 0 0], []⟩ 8 (by kernel_rfl) (by kernel_rfl) (by kernel_rfl) (by kernel_rfl)) ?_
  intro W base args ds gs before hval0 hW hcnd _
  have hval : ∀ (j : Nat) t v, Try.f7.params[j]? = some t → args[j]? = some v → Value.okWide Try.prog W .any base t v := hval0
  have hW' := hW
  obtain ⟨p, q, hA0, hV, rfl, hfz, hnd⟩ := hW
  have hA : DataW.TrodAll enc Try.prog W 0 (fun _ => true) true Try.f7.params.toList args.toList ds p := hA0
  rw [Try.params7] at hA hval
  obtain ⟨v0, vs0, d0, ds0, p0, q0, hargs, rfl, rfl, h0, r0⟩ := trodAll_cons hA
  obtain ⟨v1, vs1, d1, ds1, p1, q1, rfl, rfl, rfl, h1, r1⟩ := trodAll_cons r0
  obtain ⟨v2, vs2, d2, ds2, p2, q2, rfl, rfl, rfl, h2, r2⟩ := trodAll_cons r1
  obtain ⟨v3, vs3, d3, ds3, p3, q3, rfl, rfl, rfl, h3, r3⟩ := trodAll_cons r2
  obtain ⟨rfl, rfl, rfl⟩ := trodAll_nil r3
  obtain rfl : args = #[v0, v1, v2, v3] := by cases args; simp_all
  obtain ⟨rfl, rfl⟩ := trodVars_none hV
  obtain ⟨a0, rfl, rfl, rfl, w0⟩ := open_int Try.underlying3 (hval 0 3 v0 rfl rfl) h0
  obtain ⟨a1, len1, cap1, rfl⟩ := okWide_slice Try.underlying22 (hval 1 22 v1 rfl rfl)
  have k1 := h1
  have lt1 : ∀ x ∈ p1, x.block < W.heap.size := by obtain ⟨m, hm⟩ := k1; exact DataW.trod_lt m _ _ _ hm
  have w1 : ∃ l, ReadD W (.slice a1 len1 cap1) l ∧ l.length ≤ maxLen ∧ ∀ d ∈ l, (Lit.int .i64 d.1).wf = true ∧ (Lit.int .i64 d.2).wf = true := by
    obtain ⟨fuel, hf⟩ := h1
    exact open_deps (by simpa [Value.cells] using hf)
  obtain ⟨l1, rd1, m1, bd1⟩ := w1
  have k2 := h2
  have lt2 : ∀ x ∈ p2, x.block < W.heap.size := by obtain ⟨m, hm⟩ := k2; exact DataW.trod_lt m _ _ _ hm
  obtain ⟨x2, y2, rfl, w2, w2b⟩ := open_dep (hval 2 32 v2 rfl rfl) k2
  obtain ⟨a3, len3, cap3, rfl⟩ := okWide_slice Try.underlying43 (hval 3 43 v3 rfl rfl)
  have k3 := h3
  have lt3 : ∀ x ∈ p3, x.block < W.heap.size := by obtain ⟨m, hm⟩ := k3; exact DataW.trod_lt m _ _ _ hm
  have w3 : ∃ l, ReadT W (.slice a3 len3 cap3) l ∧ l.length ≤ maxLen ∧ ∀ t ∈ l, (Lit.int .i64 t.1).wf = true ∧ (Lit.int .i64 t.2.1).wf = true ∧ (Lit.int .i64 t.2.2).wf = true := by
    obtain ⟨fuel, hf⟩ := h3
    exact open_trips (by simpa [Value.cells] using hf)
  obtain ⟨l3, rd3, m3, bd3⟩ := w3
  clear hA0 hval0
  refine (walk a0 (.slice a1 len1 cap1) l1 x2 y2 (.slice a3 len3 cap3) l3 w0 w2 w2b W rd1 m1 bd1 rd3 m3 bd3).mono fun e W' ⟨he, hg⟩ => ?_
  subst he
  exact ⟨_, rfl, ⟨_, _, _, [], _, [], hW', trodAll_cons_mk (shut_bool Try.underlying4 _) trodAll_mk0, (trodAll_cons_mk (shut_int Try.underlying3 w0) (trodAll_cons_mk (Below.trod laidOut (by kernel_rfl) (of_decide_eq_true (by kernel_rfl)) k1 hg lt1) (trodAll_cons_mk (Below.trod laidOut (by kernel_rfl) (of_decide_eq_true (by kernel_rfl)) k2 hg lt2) (trodAll_cons_mk (Below.trod laidOut (by kernel_rfl) (of_decide_eq_true (by kernel_rfl)) k3 hg lt3) trodAll_mk0)))), rfl, hg.frame _, fun h => by cases h⟩⟩

theorem over : Rows.fnExactCheckDerivationRow.holds Try.pinned (OpenSpec.ofChange Rows.fnExactCheckDerivationSpec) :=
  OpenClaim.holds_of_wide 7 Try.f7 rfl rfl rfl rfl rfl rfl rfl ⟨rfl, rfl, rfl, rfl, rfl⟩ rfl rfl rfl rfl rfl (by kernel_rfl) Try.func7 (by kernel_rfl)
    (of_decide_eq_true (by kernel_rfl)) (by unfold Func.isWrapper; first | (rw [if_pos (by decide +kernel)]; kernel_rfl) | (rw [if_neg (by decide +kernel)]; exact ⟨rfl, rfl⟩))
    (fun os started H enc _ => lifted os started H enc)

theorem proved : Rows.FnExactCheckDerivationSaid := over
end Go.Proofs.Ytmapiljbhjblhaa.lawFnExactCheckDerivation
