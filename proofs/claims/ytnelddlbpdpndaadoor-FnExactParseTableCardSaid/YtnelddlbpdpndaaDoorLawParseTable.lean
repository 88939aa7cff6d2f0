/- ParseTable answers as its model at every argument; it writes into no argument; its answer owns its memory. Conditions: none beyond the row's own; the library's listed tables are tied to the program's text by the given tie. -/
import Derived.Test.YtnelddlbpdpndaaDoorPrsF
import Derived.Test.YtnelddlbpdpndaaDoorTabs4
import Derived.Test.YtnelddlbpdpndaaDoorDoor5
namespace Go.Proofs.YtnelddlbpdpndaaDoor.lawFnExactParseTable
open Go.ChangeShapes Go.WideShapes Go.ChangeAt Go.RowKit
open Go.ChangeMaps (open_string shut_string)

theorem own : ownKnob Tryd.prog.godebug = none := by kernel_rfl

set_option maxRecDepth 20000 in
set_option maxHeartbeats 3200000 in
theorem walk (s : ByteArray) (_w0 : s.size ≤ maxLen) (w : World) (hT : Tab w.heap.size w) :
    Calls Tryd.prog 4 #[.string s] w fun e w' => e = .returned (.bool true) ∧ Below w.heap.size w w' := by
  have HT := Lib.hid hT
  clear hT
  by_cases hsz : s.size ≤ 1048576
  · have HS := Lib.hid (fun w' => parseTable_any s w' hsz)
    have HI := Lib.hid (fun w' (hb : Below w.heap.size w w') => implParseTable_any s w' hsz (fun w'' h => HT.out w'' (hb.trans (h.mono hb.size))))
    obtain ⟨hdl, hdt⟩ := par_bd s
    have HS2 : Hid (∀ w', Calls Tryd.prog 10 #[.string s] w' (RetPD (parC s) (parR s) (parOk s) w')) := Lib.hid HS.out
    have HI2 : Hid (∀ w', Below w.heap.size w w' → Calls Tryd.prog 11 #[.string s] w' (RetPD (parC s) (parR s) (parOk s) w')) := Lib.hid HI.out
    obtain ⟨rc, hrc⟩ : ∃ rc, parC s = rc := ⟨_, rfl⟩
    obtain ⟨d, hd⟩ : ∃ d, parR s = d := ⟨_, rfl⟩
    obtain ⟨ok, hok⟩ : ∃ ok, parOk s = ok := ⟨_, rfl⟩
    rw [hrc, hd, hok] at HS2 HI2
    rw [hd] at hdl hdt
    clear HS HI hrc hd hok
    have HED := Lib.hid (fun v v' w' (hv : ReadSS w' v d) (hv' : ReadSS w' v' d) => eqTable_any rc rc v v' d d w' hv hv' (by omega) (fun i hi => by have := tot_get hi; omega))
    rw [eqTb_self] at HED
    have hoo : (ok != ok) = false := by simp
    have hk1 : ¬ (1 + (tot d : Int) < 0) := by omega
    have hk2 : (1 + (tot d : Int) != 1 + (tot d : Int)) = false := by simp
    go_enter Tryd.func4, Tryd.ntmps4
    go_wp2_with fail
    refine (HS2.out _).mono ?_
    rintro e w1 ⟨y0, rfl, oy, b1⟩
    have z1 := b1.size
    have hb := b1
    skip
    obtain ⟨ya, ycap, rfl, -⟩ := oy.read
    have hbX := (Below.refl w1.heap.size w1).alloc (Nat.le_refl _) (.cells #[.int .i64 rc, .slice ya d.length ycap] 27)
    replace oy := oy.same (Below.keeps hbX (by omega))
    replace hb := hb.trans (hbX.mono hb.size)
    have zXw1 : w1.heap.size + 1 ≤ (w1.alloc (.cells #[.int .i64 rc, .slice ya d.length ycap] 27)).heap.size := by simp
    clear hbX
    go_wp2_with fail
    refine (HI2.out _ hb).mono ?_
    rintro e w2 ⟨g0, rfl, og, b2⟩
    obtain ⟨ybx, yby⟩ := box2 b2
    have z2 := b2.size
    replace hb := hb.trans (b2.mono hb.size)
    replace oy := oy.same (Below.keeps b2 (by omega))
    clear b2
    obtain ⟨ga, gcap, rfl, -⟩ := og.read
    have hbX := (Below.refl w2.heap.size w2).alloc (Nat.le_refl _) (.cells #[.int .i64 rc, .slice ga d.length gcap] 27)
    replace oy := oy.same (Below.keeps hbX (by omega))
    replace og := og.same (Below.keeps hbX (by omega))
    replace ybx := (hbX.cell (p := ⟨w1.heap.size, 0, none⟩) (show w1.heap.size < _ by omega)).trans ybx
    replace yby := (hbX.cell (p := ⟨w1.heap.size, 1, none⟩) (show w1.heap.size < _ by omega)).trans yby
    replace hb := hb.trans (hbX.mono hb.size)
    have zXw2 : w2.heap.size + 1 ≤ (w2.alloc (.cells #[.int .i64 rc, .slice ga d.length gcap] 27)).heap.size := by simp
    clear hbX
    go_wp2_with fail
    refine (HED.out _ _ _ og.read oy.read).mono ?_
    rintro e w3 ⟨rfl, b3⟩
    obtain ⟨gbx, gby⟩ := box2 b3
    have z3 := b3.size
    replace hb := hb.trans (b3.mono hb.size)
    replace oy := oy.same (Below.keeps b3 (by omega))
    replace og := og.same (Below.keeps b3 (by omega))
    replace ybx := (b3.cell (p := ⟨w1.heap.size, 0, none⟩) (show w1.heap.size < _ by omega)).trans ybx
    replace yby := (b3.cell (p := ⟨w1.heap.size, 1, none⟩) (show w1.heap.size < _ by omega)).trans yby
    clear b3
    go_wp2_with fail
    refine (markTable_any rc _ d 1 _ _ _ og (by omega) hdl hdt (by omega) (by omega)).mono ?_
    rintro e w4 ⟨rfl, og', m4⟩
    have z4 := m4.size
    replace hb := hb.trans (m4.below (by omega) (by omega))
    replace oy := oy.same (m4.same (by omega) (by omega))
    replace ybx := (World.cell?_of_block (a := ⟨w1.heap.size, 0, none⟩) (m4.block w1.heap.size (by omega) (by omega))).trans ybx
    replace yby := (World.cell?_of_block (a := ⟨w1.heap.size, 1, none⟩) (m4.block w1.heap.size (by omega) (by omega))).trans yby
    replace gbx := (World.cell?_of_block (a := ⟨w2.heap.size, 0, none⟩) (m4.block w2.heap.size (by omega) (by omega))).trans gbx
    replace gby := (World.cell?_of_block (a := ⟨w2.heap.size, 1, none⟩) (m4.block w2.heap.size (by omega) (by omega))).trans gby
    clear m4
    clear og
    have og := og'
    clear og'
    go_wp2_with fail
    refine (heldTable_any rc _ d 1 _ og.read hdl hdt (by omega) (by omega)).mono ?_
    rintro e w5 ⟨rfl, b5⟩
    have z5 := b5.size
    replace hb := hb.trans (b5.mono hb.size)
    replace oy := oy.same (Below.keeps b5 (by omega))
    replace og := og.same (Below.keeps b5 (by omega))
    replace ybx := (b5.cell (p := ⟨w1.heap.size, 0, none⟩) (show w1.heap.size < _ by omega)).trans ybx
    replace yby := (b5.cell (p := ⟨w1.heap.size, 1, none⟩) (show w1.heap.size < _ by omega)).trans yby
    replace gbx := (b5.cell (p := ⟨w2.heap.size, 0, none⟩) (show w2.heap.size < _ by omega)).trans gbx
    replace gby := (b5.cell (p := ⟨w2.heap.size, 1, none⟩) (show w2.heap.size < _ by omega)).trans gby
    clear b5
    go_wp2_with fail
    refine (HI2.out _ hb).mono ?_
    rintro e w6 ⟨g3, rfl, oh, b6⟩
    have z6 := b6.size
    replace hb := hb.trans (b6.mono hb.size)
    replace oy := oy.same (Below.keeps b6 (by omega))
    replace og := og.same (Below.keeps b6 (by omega))
    replace ybx := (b6.cell (p := ⟨w1.heap.size, 0, none⟩) (show w1.heap.size < _ by omega)).trans ybx
    replace yby := (b6.cell (p := ⟨w1.heap.size, 1, none⟩) (show w1.heap.size < _ by omega)).trans yby
    replace gbx := (b6.cell (p := ⟨w2.heap.size, 0, none⟩) (show w2.heap.size < _ by omega)).trans gbx
    replace gby := (b6.cell (p := ⟨w2.heap.size, 1, none⟩) (show w2.heap.size < _ by omega)).trans gby
    clear b6
    obtain ⟨ha, hcap, rfl, -⟩ := oh.read
    have hbX := (Below.refl w6.heap.size w6).alloc (Nat.le_refl _) (.cells #[.int .i64 rc, .slice ha d.length hcap] 27)
    replace oy := oy.same (Below.keeps hbX (by omega))
    replace og := og.same (Below.keeps hbX (by omega))
    replace oh := oh.same (Below.keeps hbX (by omega))
    replace ybx := (hbX.cell (p := ⟨w1.heap.size, 0, none⟩) (show w1.heap.size < _ by omega)).trans ybx
    replace yby := (hbX.cell (p := ⟨w1.heap.size, 1, none⟩) (show w1.heap.size < _ by omega)).trans yby
    replace gbx := (hbX.cell (p := ⟨w2.heap.size, 0, none⟩) (show w2.heap.size < _ by omega)).trans gbx
    replace gby := (hbX.cell (p := ⟨w2.heap.size, 1, none⟩) (show w2.heap.size < _ by omega)).trans gby
    replace hb := hb.trans (hbX.mono hb.size)
    have zXw6 : w6.heap.size + 1 ≤ (w6.alloc (.cells #[.int .i64 rc, .slice ha d.length hcap] 27)).heap.size := by simp
    clear hbX
    go_wp2_with fail
    refine (HED.out _ _ _ oh.read oy.read).mono ?_
    rintro e w7 ⟨rfl, b7⟩
    obtain ⟨hbxx, hbxy⟩ := box2 b7
    have z7 := b7.size
    replace hb := hb.trans (b7.mono hb.size)
    replace oy := oy.same (Below.keeps b7 (by omega))
    replace og := og.same (Below.keeps b7 (by omega))
    replace oh := oh.same (Below.keeps b7 (by omega))
    replace ybx := (b7.cell (p := ⟨w1.heap.size, 0, none⟩) (show w1.heap.size < _ by omega)).trans ybx
    replace yby := (b7.cell (p := ⟨w1.heap.size, 1, none⟩) (show w1.heap.size < _ by omega)).trans yby
    replace gbx := (b7.cell (p := ⟨w2.heap.size, 0, none⟩) (show w2.heap.size < _ by omega)).trans gbx
    replace gby := (b7.cell (p := ⟨w2.heap.size, 1, none⟩) (show w2.heap.size < _ by omega)).trans gby
    clear b7
    go_wp2_with fail
    refine (heldTable_any rc _ d 1 _ og.read hdl hdt (by omega) (by omega)).mono ?_
    rintro e w8 ⟨rfl, b8⟩
    have z8 := b8.size
    replace hb := hb.trans (b8.mono hb.size)
    replace oy := oy.same (Below.keeps b8 (by omega))
    replace og := og.same (Below.keeps b8 (by omega))
    replace oh := oh.same (Below.keeps b8 (by omega))
    replace ybx := (b8.cell (p := ⟨w1.heap.size, 0, none⟩) (show w1.heap.size < _ by omega)).trans ybx
    replace yby := (b8.cell (p := ⟨w1.heap.size, 1, none⟩) (show w1.heap.size < _ by omega)).trans yby
    replace gbx := (b8.cell (p := ⟨w2.heap.size, 0, none⟩) (show w2.heap.size < _ by omega)).trans gbx
    replace gby := (b8.cell (p := ⟨w2.heap.size, 1, none⟩) (show w2.heap.size < _ by omega)).trans gby
    replace hbxx := (b8.cell (p := ⟨w6.heap.size, 0, none⟩) (show w6.heap.size < _ by omega)).trans hbxx
    replace hbxy := (b8.cell (p := ⟨w6.heap.size, 1, none⟩) (show w6.heap.size < _ by omega)).trans hbxy
    clear b8
    go_wp2_with fail
    go_ret
    exact ⟨rfl, hb⟩
  · have : 1048576 < s.size := by omega
    go_enter Tryd.func4, Tryd.ntmps4
    go_wp2_with fail
    go_ret
    exact ⟨rfl, Below.refl _ _⟩

set_option linter.unusedVariables false
set_option maxRecDepth 100000 in
theorem lifted (os : Os) (started : os.Started) (H : Type) (enc : TypeId × Value → H) :
    ReturnsInHanded {} Tryd.checked os 4 .any (fun w args => (Rows.fnExactParseTableSpec.pre enc Tryd.prog Tryd.f4 [] false w args ∧ laidMetH Tryd.prog laid5 w) ∧ sizedMet enc Tryd.prog Tryd.f4 (OpenSpec.ofChange Rows.fnExactParseTableSpec) false w args)
      (Rows.fnExactParseTableSpec.post enc Tryd.prog Tryd.f4 false true false false) := by
  refine returnsInHanded_of_change_and (C := Tryd.checked) (X := fun w _ => laidMetH Tryd.prog laid5 w) (fun _ _ _ hh h => h.of_heap hh) own started (by kernel_rfl) Tryd.func4
    (ChangeSpec.witness_shaped (enc := enc) (C := Tryd.checked) (os := os) (X := fun w _ => laidMetH Tryd.prog laid5 w) false (World.laidAll Tryd.prog os laid5) #[.string ByteArray.empty] 8 (World.laidAll_os _ _ _) (World.shaped_of_ZipB (by kernel_rfl) (by kernel_rfl)) (by kernel_rfl) (by kernel_rfl) (by kernel_rfl) (door_met5 os _)) ?_
  intro W base args ds gs before hval0 hW _ _ hL _
  have hval : ∀ (j : Nat) t v, Tryd.f4.params[j]? = some t → args[j]? = some v → Value.okWide Tryd.prog W .any base t v := hval0
  have hW' := hW
  obtain ⟨p, q, hA0, hV, rfl, hfz, hnd⟩ := hW
  have hA : DataW.TrodAll enc Tryd.prog W 0 (fun _ => true) true Tryd.f4.params.toList args.toList ds p := hA0
  rw [Tryd.params4] at hA hval
  obtain ⟨v0, vs0, d0, ds0, p0, q0, hargs, rfl, rfl, h0, r0⟩ := trodAll_cons hA
  obtain ⟨rfl, rfl, rfl⟩ := trodAll_nil r0
  obtain rfl : args = #[v0] := by cases args; simp_all
  obtain ⟨rfl, rfl⟩ := trodVars_none hV
  obtain ⟨a0, rfl, rfl, rfl, w0⟩ := open_string Tryd.underlying9 (hval 0 9 v0 rfl rfl) h0
  clear hA0 hval0
  simp only [List.append_nil] at hW'
  refine (walk a0 w0 W (of_laid5 hL)).mono fun e W' ⟨he, hg⟩ => ?_
  subst he
  exact ⟨_, rfl, ⟨_, _, _, [], [], [], hW', trodAll_cons_mk (shut_bool Tryd.underlying4 _) trodAll_mk0, (trodAll_cons_mk (shut_string Tryd.underlying9 w0) trodAll_mk0), rfl, hg.frame _, fun h => by cases h⟩⟩

theorem over : Rows.fnExactParseTableRow.holds Tryd.pinned (OpenSpec.ofChange Rows.fnExactParseTableSpec) :=
  OpenClaim.holds_of_wide 4 Tryd.f4 rfl rfl rfl rfl rfl rfl rfl ⟨rfl, rfl, rfl, rfl, rfl⟩ rfl rfl rfl rfl rfl (by kernel_rfl) Tryd.func4 (by kernel_rfl)
    (of_decide_eq_true (by kernel_rfl)) (by unfold Func.isWrapper; first | (rw [if_pos (by decide +kernel)]; kernel_rfl) | (rw [if_neg (by decide +kernel)]; exact ⟨rfl, rfl⟩))
    (fun os started H enc _ => lifted os started H enc)

theorem proved : Rows.FnExactParseTableCardSaid :=
  Claim7.holds_tied_plain_at .later [] [.data, .data, .data, .data, .pinned] true Rows.fnExactParseTableCard.stood.harness false
    over (fun _ h => by cases h) (by kernel_rfl) (fun _ h => by cases h) fnExactParseTable_row_tie rfl ⟨rfl, rfl⟩ (by kernel_rfl) rfl
    (fun f fn hf hfn => by
      obtain rfl : f = 4 := Option.some.inj ((show Tryd.prog.funcNamed "loop.example/g01988/laws.FnExactParseTable" = some 4 by kernel_rfl).symm.trans hf) |>.symm
      obtain rfl : fn = Tryd.f4 := (Option.some.inj (Tryd.func4.symm.trans hfn)).symm
      exact ⟨by kernel_rfl, fun j t ht => by
        rw [Tryd.params4] at ht
        have hm : t ∈ [9] := by simpa using Array.mem_of_getElem? ht
        have hall : ([9].all fun u => !Tryd.prog.wantsStandIn u) = true := by kernel_rfl
        exact (show Tryd.prog.wantsStandIn t = false by simpa using List.all_eq_true.1 hall t hm)⟩)
    (by kernel_rfl)
end Go.Proofs.YtnelddlbpdpndaaDoor.lawFnExactParseTable
