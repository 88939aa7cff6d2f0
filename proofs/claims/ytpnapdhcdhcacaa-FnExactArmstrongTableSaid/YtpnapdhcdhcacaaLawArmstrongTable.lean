/- ArmstrongTable answers as its model at every argument; it writes into no argument; its answer owns its memory. Conditions: none beyond the row's own. -/
import Derived.Test.YtpnapdhcdhcacaaXa36
import Derived.Test.YtpnapdhcdhcacaaXa13
import Derived.Test.YtpnapdhcdhcacaaXa33
import Derived.Test.YtpnapdhcdhcacaaXa2
namespace Go.Proofs.Ytpnapdhcdhcacaa.lawFnExactArmstrongTable
open Go.ChangeShapes Go.WideShapes Go.ChangeAt Go.RowKit
theorem laidOut : laidOutB Try.prog = true := by kernel_rfl

theorem own : ownKnob Try.prog.godebug = none := by kernel_rfl

set_option maxRecDepth 20000 in
set_option maxHeartbeats 6400000 in
theorem walk (n : Int) (v : Value) (l : List (Int × Int)) (_w0 : (Lit.int .i64 n).wf = true) (w : World) (hr : ReadD w v l) (_hm : l.length ≤ maxLen) (hbd : ∀ d ∈ l, (Lit.int .i64 d.1).wf = true ∧ (Lit.int .i64 d.2).wf = true) :
    Calls Try.prog 3 #[.int .i64 n, v] w fun e w' => e = .returned (.bool true) ∧ Below w.heap.size w w' := by
  by_cases hsz : l.length ≤ 1048576
  · have HTO := Lib.hid (fun w' (hb : Below w.heap.size w w') => toDepS_any v l w' (hr.kept hb) hsz)
    have HS := Lib.hid (fun u w' (hv : ReadD w' u l) => armTable12_any u n l w' hv hsz)
    have HI := Lib.hid (fun u w' (hv : ReadD w' u l) => implArm_any u n l _w0 hbd w' hv hsz)
    have hbd2 := arm_bd n l
    obtain ⟨rc, hrc⟩ : ∃ rc, rc = armC n l := ⟨_, rfl⟩
    obtain ⟨d, hd⟩ : ∃ d, d = armL n l := ⟨_, rfl⟩
    obtain ⟨ok, hok⟩ : ∃ ok, ok = arD n l := ⟨_, rfl⟩
    rw [← hrc, ← hd, ← hok] at HS HI
    rw [← hd] at hbd2
    clear hrc hd hok hbd
    have hdl : d.length ≤ 1048576 := by omega
    have hdt : tot d ≤ 1048576 := by omega
    clear hbd2
    have HED := Lib.hid (fun v v' w' (hv : ReadSS w' v d) (hv' : ReadSS w' v' d) => eqTable_any rc rc v v' d d w' hv hv' (by omega) (fun i hi => by have := tot_get hi; omega))
    rw [eqTb_self] at HED
    have hoo : (ok != ok) = false := by simp
    have hk1 : ¬ (1 + (tot d : Int) < 0) := by omega
    have hk2 : (1 + (tot d : Int) != 1 + (tot d : Int)) = false := by simp
    have hb := Below.refl w.heap.size w
    have hr' := hr
    have HZ := Lib.hid (szDepS_any v l w hr' 1048576 (by omega) (by omega) (by omega))
    rw [szD_ok (by omega)] at HZ
    have hneg : ¬ (1048576 - (l.length : Int) < 0) := by omega
    have hk : ¬ (1 + 2 * (l.length : Int) < 0) := by omega
    obtain ⟨a, cap, rfl, -⟩ := hr
    clear hr'
    go_enter Try.func3, Try.ntmps3
    go_wp2_with fail
    refine HZ.out.mono ?_
    rintro e w0 ⟨rfl, rfl⟩
    go_wp2_with fail
    refine (HTO.out _ hb).mono ?_
    rintro e w1 ⟨v0, rfl, o0, b1⟩
    have z1 := b1.size
    replace hb := hb.trans (b1.mono hb.size)
    clear b1
    go_wp2_with fail
    refine (HS.out _ _ o0.read).mono ?_
    rintro e w2 ⟨y0, rfl, oy, b2⟩
    have z2 := b2.size
    replace hb := hb.trans (b2.mono hb.size)
    clear b2
    obtain ⟨ya, ycap, rfl, -⟩ := oy.read
    have hbX := (Below.refl w2.heap.size w2).alloc (Nat.le_refl _) (.cells #[.int .i64 rc, .slice ya d.length ycap] 26)
    replace oy := oy.same (Below.keeps hbX (by omega))
    replace hb := hb.trans (hbX.mono hb.size)
    have zXw2 : w2.heap.size + 1 ≤ (w2.alloc (.cells #[.int .i64 rc, .slice ya d.length ycap] 26)).heap.size := by simp
    clear hbX
    go_wp2_with fail
    refine (HTO.out _ hb).mono ?_
    rintro e w3 ⟨v1, rfl, o1, b3⟩
    replace o1 := o1.range
    obtain ⟨ybx, yby⟩ := box2 b3
    have z3 := b3.size
    replace hb := hb.trans (b3.mono hb.size)
    replace oy := oy.same (Below.keeps b3 (by omega))
    clear b3
    go_wp2_with fail
    refine (HI.out _ _ o1.read).mono ?_
    rintro e w4 ⟨g0, rfl, og, b4⟩
    have z4 := b4.size
    replace hb := hb.trans (b4.mono hb.size)
    replace oy := oy.same (Below.keeps b4 (by omega))
    replace o1 := o1.same (Below.keeps b4 (by omega))
    replace ybx := (b4.cell (p := ⟨w2.heap.size, 0, none⟩) (show w2.heap.size < _ by omega)).trans ybx
    replace yby := (b4.cell (p := ⟨w2.heap.size, 1, none⟩) (show w2.heap.size < _ by omega)).trans yby
    clear b4
    obtain ⟨ga, gcap, rfl, -⟩ := og.read
    have hbX := (Below.refl w4.heap.size w4).alloc (Nat.le_refl _) (.cells #[.int .i64 rc, .slice ga d.length gcap] 26)
    replace oy := oy.same (Below.keeps hbX (by omega))
    replace o1 := o1.same (Below.keeps hbX (by omega))
    replace og := og.same (Below.keeps hbX (by omega))
    replace ybx := (hbX.cell (p := ⟨w2.heap.size, 0, none⟩) (show w2.heap.size < _ by omega)).trans ybx
    replace yby := (hbX.cell (p := ⟨w2.heap.size, 1, none⟩) (show w2.heap.size < _ by omega)).trans yby
    replace hb := hb.trans (hbX.mono hb.size)
    have zXw4 : w4.heap.size + 1 ≤ (w4.alloc (.cells #[.int .i64 rc, .slice ga d.length gcap] 26)).heap.size := by simp
    clear hbX
    go_wp2_with fail
    refine (HED.out _ _ _ og.read oy.read).mono ?_
    rintro e w5 ⟨rfl, b5⟩
    obtain ⟨gbx, gby⟩ := box2 b5
    have z5 := b5.size
    replace hb := hb.trans (b5.mono hb.size)
    replace oy := oy.same (Below.keeps b5 (by omega))
    replace o1 := o1.same (Below.keeps b5 (by omega))
    replace og := og.same (Below.keeps b5 (by omega))
    replace ybx := (b5.cell (p := ⟨w2.heap.size, 0, none⟩) (show w2.heap.size < _ by omega)).trans ybx
    replace yby := (b5.cell (p := ⟨w2.heap.size, 1, none⟩) (show w2.heap.size < _ by omega)).trans yby
    clear b5
    go_wp2_with fail
    refine (HTO.out _ hb).mono ?_
    rintro e w6 ⟨v2, rfl, o2, b6⟩
    replace o2 := o2.range
    have z6 := b6.size
    replace hb := hb.trans (b6.mono hb.size)
    replace oy := oy.same (Below.keeps b6 (by omega))
    replace o1 := o1.same (Below.keeps b6 (by omega))
    replace og := og.same (Below.keeps b6 (by omega))
    replace ybx := (b6.cell (p := ⟨w2.heap.size, 0, none⟩) (show w2.heap.size < _ by omega)).trans ybx
    replace yby := (b6.cell (p := ⟨w2.heap.size, 1, none⟩) (show w2.heap.size < _ by omega)).trans yby
    replace gbx := (b6.cell (p := ⟨w4.heap.size, 0, none⟩) (show w4.heap.size < _ by omega)).trans gbx
    replace gby := (b6.cell (p := ⟨w4.heap.size, 1, none⟩) (show w4.heap.size < _ by omega)).trans gby
    clear b6
    go_wp2_with fail
    refine (eqDepS_same _ _ _ _ o1.read o2.read (by omega)).mono ?_
    rintro e w7 ⟨rfl, b7⟩
    have z7 := b7.size
    replace hb := hb.trans (b7.mono hb.size)
    replace oy := oy.same (Below.keeps b7 (by omega))
    replace o1 := o1.same (Below.keeps b7 (by omega))
    replace og := og.same (Below.keeps b7 (by omega))
    replace o2 := o2.same (Below.keeps b7 (by omega))
    replace ybx := (b7.cell (p := ⟨w2.heap.size, 0, none⟩) (show w2.heap.size < _ by omega)).trans ybx
    replace yby := (b7.cell (p := ⟨w2.heap.size, 1, none⟩) (show w2.heap.size < _ by omega)).trans yby
    replace gbx := (b7.cell (p := ⟨w4.heap.size, 0, none⟩) (show w4.heap.size < _ by omega)).trans gbx
    replace gby := (b7.cell (p := ⟨w4.heap.size, 1, none⟩) (show w4.heap.size < _ by omega)).trans gby
    clear b7
    go_wp2_with fail
    refine (markDepR_any _ _ 1 _ _ _ o1 (by omega) (by omega) (by omega)).mono ?_
    rintro e w8 ⟨rfl, o1m, m8⟩
    have z8 := m8.size
    replace hb := hb.trans (m8.below (by omega) (by omega))
    replace oy := oy.same (m8.same (by omega) (by omega))
    replace og := og.same (m8.same (by omega) (by omega))
    replace o2 := o2.same (m8.same (by omega) (by omega))
    replace ybx := (World.cell?_of_block (a := ⟨w2.heap.size, 0, none⟩) (m8.block w2.heap.size (by omega) (by omega))).trans ybx
    replace yby := (World.cell?_of_block (a := ⟨w2.heap.size, 1, none⟩) (m8.block w2.heap.size (by omega) (by omega))).trans yby
    replace gbx := (World.cell?_of_block (a := ⟨w4.heap.size, 0, none⟩) (m8.block w4.heap.size (by omega) (by omega))).trans gbx
    replace gby := (World.cell?_of_block (a := ⟨w4.heap.size, 1, none⟩) (m8.block w4.heap.size (by omega) (by omega))).trans gby
    clear m8
    clear o1 o1m
    go_wp2_with fail
    refine (HED.out _ _ _ og.read oy.read).mono ?_
    rintro e w9 ⟨rfl, b9⟩
    have z9 := b9.size
    replace hb := hb.trans (b9.mono hb.size)
    replace oy := oy.same (Below.keeps b9 (by omega))
    replace og := og.same (Below.keeps b9 (by omega))
    replace o2 := o2.same (Below.keeps b9 (by omega))
    replace ybx := (b9.cell (p := ⟨w2.heap.size, 0, none⟩) (show w2.heap.size < _ by omega)).trans ybx
    replace yby := (b9.cell (p := ⟨w2.heap.size, 1, none⟩) (show w2.heap.size < _ by omega)).trans yby
    replace gbx := (b9.cell (p := ⟨w4.heap.size, 0, none⟩) (show w4.heap.size < _ by omega)).trans gbx
    replace gby := (b9.cell (p := ⟨w4.heap.size, 1, none⟩) (show w4.heap.size < _ by omega)).trans gby
    clear b9
    go_wp2_with fail
    refine (markTable_any rc _ d 1 _ _ _ og (by omega) hdl hdt (by omega) (by omega)).mono ?_
    rintro e w10 ⟨rfl, og', m10⟩
    have z10 := m10.size
    replace hb := hb.trans (m10.below (by omega) (by omega))
    replace oy := oy.same (m10.same (by omega) (by omega))
    replace o2 := o2.same (m10.same (by omega) (by omega))
    replace ybx := (World.cell?_of_block (a := ⟨w2.heap.size, 0, none⟩) (m10.block w2.heap.size (by omega) (by omega))).trans ybx
    replace yby := (World.cell?_of_block (a := ⟨w2.heap.size, 1, none⟩) (m10.block w2.heap.size (by omega) (by omega))).trans yby
    replace gbx := (World.cell?_of_block (a := ⟨w4.heap.size, 0, none⟩) (m10.block w4.heap.size (by omega) (by omega))).trans gbx
    replace gby := (World.cell?_of_block (a := ⟨w4.heap.size, 1, none⟩) (m10.block w4.heap.size (by omega) (by omega))).trans gby
    clear m10
    clear og
    have og := og'
    clear og'
    go_wp2_with fail
    refine (heldTable_any rc _ d 1 _ og.read hdl hdt (by omega) (by omega)).mono ?_
    rintro e w11 ⟨rfl, b11⟩
    have z11 := b11.size
    replace hb := hb.trans (b11.mono hb.size)
    replace oy := oy.same (Below.keeps b11 (by omega))
    replace og := og.same (Below.keeps b11 (by omega))
    replace o2 := o2.same (Below.keeps b11 (by omega))
    replace ybx := (b11.cell (p := ⟨w2.heap.size, 0, none⟩) (show w2.heap.size < _ by omega)).trans ybx
    replace yby := (b11.cell (p := ⟨w2.heap.size, 1, none⟩) (show w2.heap.size < _ by omega)).trans yby
    replace gbx := (b11.cell (p := ⟨w4.heap.size, 0, none⟩) (show w4.heap.size < _ by omega)).trans gbx
    replace gby := (b11.cell (p := ⟨w4.heap.size, 1, none⟩) (show w4.heap.size < _ by omega)).trans gby
    clear b11
    go_wp2_with fail
    refine (HTO.out _ hb).mono ?_
    rintro e w12 ⟨v3, rfl, o3, b12⟩
    have z12 := b12.size
    replace hb := hb.trans (b12.mono hb.size)
    replace oy := oy.same (Below.keeps b12 (by omega))
    replace og := og.same (Below.keeps b12 (by omega))
    replace o2 := o2.same (Below.keeps b12 (by omega))
    replace ybx := (b12.cell (p := ⟨w2.heap.size, 0, none⟩) (show w2.heap.size < _ by omega)).trans ybx
    replace yby := (b12.cell (p := ⟨w2.heap.size, 1, none⟩) (show w2.heap.size < _ by omega)).trans yby
    replace gbx := (b12.cell (p := ⟨w4.heap.size, 0, none⟩) (show w4.heap.size < _ by omega)).trans gbx
    replace gby := (b12.cell (p := ⟨w4.heap.size, 1, none⟩) (show w4.heap.size < _ by omega)).trans gby
    clear b12
    go_wp2_with fail
    refine (HI.out _ _ o3.read).mono ?_
    rintro e w13 ⟨g3, rfl, oh, b13⟩
    have z13 := b13.size
    replace hb := hb.trans (b13.mono hb.size)
    replace oy := oy.same (Below.keeps b13 (by omega))
    replace og := og.same (Below.keeps b13 (by omega))
    replace o2 := o2.same (Below.keeps b13 (by omega))
    replace ybx := (b13.cell (p := ⟨w2.heap.size, 0, none⟩) (show w2.heap.size < _ by omega)).trans ybx
    replace yby := (b13.cell (p := ⟨w2.heap.size, 1, none⟩) (show w2.heap.size < _ by omega)).trans yby
    replace gbx := (b13.cell (p := ⟨w4.heap.size, 0, none⟩) (show w4.heap.size < _ by omega)).trans gbx
    replace gby := (b13.cell (p := ⟨w4.heap.size, 1, none⟩) (show w4.heap.size < _ by omega)).trans gby
    clear b13
    obtain ⟨ha, hcap, rfl, -⟩ := oh.read
    have hbX := (Below.refl w13.heap.size w13).alloc (Nat.le_refl _) (.cells #[.int .i64 rc, .slice ha d.length hcap] 26)
    replace oy := oy.same (Below.keeps hbX (by omega))
    replace og := og.same (Below.keeps hbX (by omega))
    replace o2 := o2.same (Below.keeps hbX (by omega))
    replace oh := oh.same (Below.keeps hbX (by omega))
    replace ybx := (hbX.cell (p := ⟨w2.heap.size, 0, none⟩) (show w2.heap.size < _ by omega)).trans ybx
    replace yby := (hbX.cell (p := ⟨w2.heap.size, 1, none⟩) (show w2.heap.size < _ by omega)).trans yby
    replace gbx := (hbX.cell (p := ⟨w4.heap.size, 0, none⟩) (show w4.heap.size < _ by omega)).trans gbx
    replace gby := (hbX.cell (p := ⟨w4.heap.size, 1, none⟩) (show w4.heap.size < _ by omega)).trans gby
    replace hb := hb.trans (hbX.mono hb.size)
    have zXw13 : w13.heap.size + 1 ≤ (w13.alloc (.cells #[.int .i64 rc, .slice ha d.length hcap] 26)).heap.size := by simp
    clear hbX
    go_wp2_with fail
    refine (HED.out _ _ _ oh.read oy.read).mono ?_
    rintro e w14 ⟨rfl, b14⟩
    obtain ⟨hbxx, hbxy⟩ := box2 b14
    have z14 := b14.size
    replace hb := hb.trans (b14.mono hb.size)
    replace oy := oy.same (Below.keeps b14 (by omega))
    replace og := og.same (Below.keeps b14 (by omega))
    replace o2 := o2.same (Below.keeps b14 (by omega))
    replace oh := oh.same (Below.keeps b14 (by omega))
    replace ybx := (b14.cell (p := ⟨w2.heap.size, 0, none⟩) (show w2.heap.size < _ by omega)).trans ybx
    replace yby := (b14.cell (p := ⟨w2.heap.size, 1, none⟩) (show w2.heap.size < _ by omega)).trans yby
    replace gbx := (b14.cell (p := ⟨w4.heap.size, 0, none⟩) (show w4.heap.size < _ by omega)).trans gbx
    replace gby := (b14.cell (p := ⟨w4.heap.size, 1, none⟩) (show w4.heap.size < _ by omega)).trans gby
    clear b14
    go_wp2_with fail
    refine (heldTable_any rc _ d 1 _ og.read hdl hdt (by omega) (by omega)).mono ?_
    rintro e w15 ⟨rfl, b15⟩
    have z15 := b15.size
    replace hb := hb.trans (b15.mono hb.size)
    replace oy := oy.same (Below.keeps b15 (by omega))
    replace og := og.same (Below.keeps b15 (by omega))
    replace o2 := o2.same (Below.keeps b15 (by omega))
    replace oh := oh.same (Below.keeps b15 (by omega))
    replace ybx := (b15.cell (p := ⟨w2.heap.size, 0, none⟩) (show w2.heap.size < _ by omega)).trans ybx
    replace yby := (b15.cell (p := ⟨w2.heap.size, 1, none⟩) (show w2.heap.size < _ by omega)).trans yby
    replace gbx := (b15.cell (p := ⟨w4.heap.size, 0, none⟩) (show w4.heap.size < _ by omega)).trans gbx
    replace gby := (b15.cell (p := ⟨w4.heap.size, 1, none⟩) (show w4.heap.size < _ by omega)).trans gby
    replace hbxx := (b15.cell (p := ⟨w13.heap.size, 0, none⟩) (show w13.heap.size < _ by omega)).trans hbxx
    replace hbxy := (b15.cell (p := ⟨w13.heap.size, 1, none⟩) (show w13.heap.size < _ by omega)).trans hbxy
    clear b15
    go_wp2_with fail
    go_ret
    exact ⟨rfl, hb⟩
  · have HZ := Lib.hid (szDepS_any v l w hr 1048576 (by omega) (by omega) (by unfold maxLen at _hm; omega))
    rw [szD_no (by omega)] at HZ
    obtain ⟨a, cap, rfl, -⟩ := hr
    go_enter Try.func3, Try.ntmps3
    go_wp2_with fail
    refine HZ.out.mono ?_
    rintro e w0 ⟨rfl, rfl⟩
    go_wp2_with fail
    go_ret
    exact ⟨rfl, Below.refl _ _⟩

set_option linter.unusedVariables false
set_option maxRecDepth 100000 in
theorem lifted (os : Os) (started : os.Started) (H : Type) (enc : TypeId × Value → H) :
    ReturnsInHanded {} Try.checked os 3 .any (Rows.fnExactArmstrongTableSpec.pre6 enc Try.prog Try.f3 Rows.fnExactArmstrongTableRow.domain false) (Rows.fnExactArmstrongTableSpec.post enc Try.prog Try.f3 false true false false) := by
  refine returnsInHanded_of_change (C := Try.checked) own started (by kernel_rfl) Try.func3
    (ChangeSpec.witness6 (enc := enc) (C := Try.checked) false ⟨#[], #[.int .i64 0, .slice none 0 0], []⟩ 8 (by kernel_rfl) (by kernel_rfl) (by kernel_rfl) (by kernel_rfl)) ?_
  intro W base args ds gs before hval0 hW hcnd _
  have hval : ∀ (j : Nat) t v, Try.f3.params[j]? = some t → args[j]? = some v → Value.okWide Try.prog W .any base t v := hval0
  have hW' := hW
  obtain ⟨p, q, hA0, hV, rfl, hfz, hnd⟩ := hW
  have hA : DataW.TrodAll enc Try.prog W 0 (fun _ => true) true Try.f3.params.toList args.toList ds p := hA0
  rw [Try.params3] at hA hval
  obtain ⟨v0, vs0, d0, ds0, p0, q0, hargs, rfl, rfl, h0, r0⟩ := trodAll_cons hA
  obtain ⟨v1, vs1, d1, ds1, p1, q1, rfl, rfl, rfl, h1, r1⟩ := trodAll_cons r0
  obtain ⟨rfl, rfl, rfl⟩ := trodAll_nil r1
  obtain rfl : args = #[v0, v1] := by cases args; simp_all
  obtain ⟨rfl, rfl⟩ := trodVars_none hV
  obtain ⟨a0, rfl, rfl, rfl, w0⟩ := open_int Try.underlying3 (hval 0 3 v0 rfl rfl) h0
  obtain ⟨a1, len1, cap1, rfl⟩ := okWide_slice Try.underlying22 (hval 1 22 v1 rfl rfl)
  have k1 := h1
  have lt1 : ∀ x ∈ p1, x.block < W.heap.size := by obtain ⟨m, hm⟩ := k1; exact DataW.trod_lt m _ _ _ hm
  have w1 : ∃ l, ReadD W (.slice a1 len1 cap1) l ∧ l.length ≤ maxLen ∧ ∀ d ∈ l, (Lit.int .i64 d.1).wf = true ∧ (Lit.int .i64 d.2).wf = true := by
    obtain ⟨fuel, hf⟩ := h1
    exact open_deps (by simpa [Value.cells] using hf)
  obtain ⟨l1, rd1, m1, bd1⟩ := w1
  clear hA0 hval0
  refine (walk a0 (.slice a1 len1 cap1) l1 w0 W rd1 m1 bd1).mono fun e W' ⟨he, hg⟩ => ?_
  subst he
  exact ⟨_, rfl, ⟨_, _, _, [], _, [], hW', trodAll_cons_mk (shut_bool Try.underlying4 _) trodAll_mk0, (trodAll_cons_mk (shut_int Try.underlying3 w0) (trodAll_cons_mk (Below.trod laidOut (by kernel_rfl) (of_decide_eq_true (by kernel_rfl)) k1 hg lt1) trodAll_mk0)), rfl, hg.frame _, fun h => by cases h⟩⟩

theorem over : Rows.fnExactArmstrongTableRow.holds Try.pinned (OpenSpec.ofChange Rows.fnExactArmstrongTableSpec) :=
  OpenClaim.holds_of_wide 3 Try.f3 rfl rfl rfl rfl rfl rfl rfl ⟨rfl, rfl, rfl, rfl, rfl⟩ rfl rfl rfl rfl rfl (by kernel_rfl) Try.func3 (by kernel_rfl)
    (of_decide_eq_true (by kernel_rfl)) (by unfold Func.isWrapper; first | (rw [if_pos (by decide +kernel)]; kernel_rfl) | (rw [if_neg (by decide +kernel)]; exact ⟨rfl, rfl⟩))
    (fun os started H enc _ => lifted os started H enc)

theorem proved : Rows.FnExactArmstrongTableSaid := over
end Go.Proofs.Ytpnapdhcdhcacaa.lawFnExactArmstrongTable
