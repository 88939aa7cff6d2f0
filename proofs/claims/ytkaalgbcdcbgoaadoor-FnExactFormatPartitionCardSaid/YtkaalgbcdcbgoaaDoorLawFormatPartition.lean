/- FormatPartition answers as its model at every argument; it writes into no argument; its answer owns its memory. Conditions: none beyond the row's own; the library's listed tables are tied to the program's text by the given tie. -/
import Derived.Test.YtkaalgbcdcbgoaaDoorPgE
import Derived.Test.YtkaalgbcdcbgoaaDoorSSLaw
import Derived.Test.YtkaalgbcdcbgoaaDoorRowsOpen
import Derived.Test.YtkaalgbcdcbgoaaDoorDoor
namespace Go.Proofs.YtkaalgbcdcbgoaaDoor.lawFnExactFormatPartition
open Go.ChangeShapes Go.WideShapes Go.ChangeAt Go.RowKit
theorem laidOut : laidOutB Tryd.prog = true := by kernel_rfl

theorem own : ownKnob Tryd.prog.godebug = none := by kernel_rfl

set_option maxRecDepth 20000 in
set_option maxHeartbeats 3200000 in
theorem walk (v : Value) (p : List (List Int)) (w : World) (hr : ReadSS w v p) (hs : Short p) (hbd0 : I64ss p) (hT : Tab w.heap.size w) :
    Calls Tryd.prog 3 #[v] w fun e w' => e = .returned (.bool true) ∧ Below w.heap.size w w' := by
  have HT := Lib.hid hT
  clear hT
  have HZ0 := Lib.hid (fun w' (hb : Below w.heap.size w w') => szSS_any v p w' (hr.kept hb) hs 1048576 (by omega) (by omega))
  have hb := Below.refl w.heap.size w
  by_cases hsz : szOf p ≤ 1048576
  · rw [szD_ok (by omega)] at HZ0
    have hneg : ¬ (1048576 - (szOf p : Int) < 0) := by omega
    obtain ⟨hl0, ht0⟩ := szOf_bd (m := 1048576) (ll := p) (by omega)
    have htt0 := szOf_tot (d := p) (by omega)
    have HTO0 := Lib.hid (fun w' (hb : Below w.heap.size w w') => toIntSS_any v p w' (hr.kept hb) hl0 ht0)
    have HEQ0 := Lib.hid (fun u u' w' (h : ReadSS w' u p) (h' : ReadSS w' u' p) => eqSS_any u u' p w' h h' hl0 htt0)
    have HS := Lib.hid (fun u0 w' (h0 : ReadSS w' u0 p) => formatPartition_any u0 p  w' h0 hl0 htt0 hbd0)
    have HI := Lib.hid (fun u0 w' (hb : Below w.heap.size w w') (h0 : ReadSS w' u0 p) => implFormatPartition_any u0 p  w' h0 hl0 htt0 hbd0 (fun w'' h => HT.out w'' (hb.trans (h.mono hb.size))))
    obtain ⟨d, hd⟩ : ∃ d : ByteArray, d = fmtP p := ⟨_, rfl⟩
    rw [← hd] at HS HI
    have hdd : (d.toList != d.toList) = false := by simp
    clear hd
    obtain ⟨a0, cap0, rfl, -⟩ := hr
    clear hs ht0
    go_enter Tryd.func3, Tryd.ntmps3
    go_wp2_with fail
    refine (HZ0.out _ hb).mono ?_
    rintro e w1 ⟨rfl, b1⟩
    have z1 := b1.size
    replace hb := hb.trans (b1.mono hb.size)
    clear b1
    go_wp2_with fail
    refine (HTO0.out _ hb).mono ?_
    rintro e w2 ⟨xs0, rfl, s0, b2⟩
    have z2 := b2.size
    replace hb := hb.trans (b2.mono hb.size)
    clear b2
    go_wp2_with fail
    refine (HS.out _ _ s0.read).mono ?_
    rintro e w3 ⟨rfl, b3⟩
    have z3 := b3.size
    replace hb := hb.trans (b3.mono hb.size)
    replace s0 := s0.same (Below.keeps b3 (by omega))
    clear b3
    clear s0
    go_wp2_with fail
    refine (HTO0.out _ hb).mono ?_
    rintro e w4 ⟨xo0, rfl, o0, b4⟩
    have z4 := b4.size
    replace hb := hb.trans (b4.mono hb.size)
    clear b4
    go_wp2_with fail
    refine (HI.out _ _ hb o0.read).mono ?_
    rintro e w5 ⟨rfl, b5⟩
    have z5 := b5.size
    replace hb := hb.trans (b5.mono hb.size)
    replace o0 := o0.same (Below.keeps b5 (by omega))
    clear b5
    go_wp2_with fail
    refine (HTO0.out _ hb).mono ?_
    rintro e w6 ⟨xt0, rfl, t0, b6⟩
    have z6 := b6.size
    replace hb := hb.trans (b6.mono hb.size)
    replace o0 := o0.same (Below.keeps b6 (by omega))
    clear b6
    go_wp2_with fail
    refine (HEQ0.out _ _ _ o0.read t0.read).mono ?_
    rintro e w7 ⟨rfl, b7⟩
    have z7 := b7.size
    replace hb := hb.trans (b7.mono hb.size)
    replace o0 := o0.same (Below.keeps b7 (by omega))
    replace t0 := t0.same (Below.keeps b7 (by omega))
    clear b7
    clear t0
    go_wp2_with fail
    go_ret
    exact ⟨rfl, hb⟩
  · rw [szD_no (by omega)] at HZ0
    obtain ⟨a0, cap0, rfl, -⟩ := hr
    go_enter Tryd.func3, Tryd.ntmps3
    go_wp2_with fail
    refine (HZ0.out _ hb).mono ?_
    rintro e w1 ⟨rfl, b1⟩
    have z1 := b1.size
    replace hb := hb.trans (b1.mono hb.size)
    clear b1
    go_wp2_with fail
    go_ret
    exact ⟨rfl, hb⟩

set_option linter.unusedVariables false
set_option maxRecDepth 100000 in
theorem lifted (os : Os) (started : os.Started) (H : Type) (enc : TypeId × Value → H) :
    ReturnsInHanded {} Tryd.checked os 3 .any (fun w args => (Rows.fnExactFormatPartitionSpec.pre enc Tryd.prog Tryd.f3 [] false w args ∧ laidMetH Tryd.prog laidL w) ∧ sizedMet enc Tryd.prog Tryd.f3 (OpenSpec.ofChange Rows.fnExactFormatPartitionSpec) false w args)
      (Rows.fnExactFormatPartitionSpec.post enc Tryd.prog Tryd.f3 false true false false) := by
  refine returnsInHanded_of_change_and (C := Tryd.checked) (X := fun w _ => laidMetH Tryd.prog laidL w) (fun _ _ _ hh h => h.of_heap hh) own started (by kernel_rfl) Tryd.func3
    (ChangeSpec.witness_shaped (enc := enc) (C := Tryd.checked) (os := os) (X := fun w _ => laidMetH Tryd.prog laidL w) false (World.doorLaid Tryd.prog 24 os) #[.slice none 0 0] 8 rfl (World.shaped_of_RefB (by kernel_rfl) (by kernel_rfl)) (by kernel_rfl) (by kernel_rfl) (by kernel_rfl) (door_met os _)) ?_
  intro W base args ds gs before hval0 hW _ _ hL _
  have hval : ∀ (j : Nat) t v, Tryd.f3.params[j]? = some t → args[j]? = some v → Value.okWide Tryd.prog W .any base t v := hval0
  have hW' := hW
  obtain ⟨p, q, hA0, hV, rfl, hfz, hnd⟩ := hW
  have hA : DataW.TrodAll enc Tryd.prog W 0 (fun _ => true) true Tryd.f3.params.toList args.toList ds p := hA0
  rw [Tryd.params3] at hA hval
  obtain ⟨v0, vs0, d0, ds0, p0, q0, hargs, rfl, rfl, h0, r0⟩ := trodAll_cons hA
  obtain ⟨rfl, rfl, rfl⟩ := trodAll_nil r0
  obtain rfl : args = #[v0] := by cases args; simp_all
  obtain ⟨rfl, rfl⟩ := trodVars_none hV
  obtain ⟨a0, len0, cap0, rfl⟩ := okWide_slice Tryd.underlying22 (hval 0 22 v0 rfl rfl)
  have k0 := h0
  have lt0 : ∀ x ∈ p0, x.block < W.heap.size := by obtain ⟨m, hm⟩ := k0; exact DataW.trod_lt m _ _ _ hm
  have w0 : ∃ l, ReadSS W (.slice a0 len0 cap0) l ∧ Short l ∧ I64ss l := by
    obtain ⟨fuel, hf⟩ := h0
    exact open_rows2 (by simpa [Value.cells] using hf)
  obtain ⟨l0, rd0, s0, bd0⟩ := w0
  clear hA0 hval0
  refine (walk (.slice a0 len0 cap0) l0  W rd0 s0 bd0 (of_laid hL)).mono fun e W' ⟨he, hg⟩ => ?_
  subst he
  exact ⟨_, rfl, ⟨_, _, _, [], _, [], hW', trodAll_cons_mk (shut_bool Tryd.underlying4 _) trodAll_mk0, (trodAll_cons_mk (Below.trod laidOut (by kernel_rfl) (of_decide_eq_true (by kernel_rfl)) k0 hg lt0) trodAll_mk0), rfl, hg.frame _, fun h => by cases h⟩⟩

theorem over : Rows.fnExactFormatPartitionRow.holds Tryd.pinned (OpenSpec.ofChange Rows.fnExactFormatPartitionSpec) :=
  OpenClaim.holds_of_wide 3 Tryd.f3 rfl rfl rfl rfl rfl rfl rfl ⟨rfl, rfl, rfl, rfl, rfl⟩ rfl rfl rfl rfl rfl (by kernel_rfl) Tryd.func3 (by kernel_rfl)
    (of_decide_eq_true (by kernel_rfl)) (by unfold Func.isWrapper; first | (rw [if_pos (by decide +kernel)]; kernel_rfl) | (rw [if_neg (by decide +kernel)]; exact ⟨rfl, rfl⟩))
    (fun os started H enc _ => lifted os started H enc)

theorem proved : Rows.FnExactFormatPartitionCardSaid :=
  Claim7.holds_tied_plain_at .later [] [.data, .data, .data] true Rows.fnExactFormatPartitionCard.stood.harness false
    over (fun _ h => by cases h) (by kernel_rfl) (fun _ h => by cases h) fnExactFormatPartition_row_tie rfl ⟨rfl, rfl⟩ (by kernel_rfl) rfl
    (fun f fn hf hfn => by
      obtain rfl : f = 3 := Option.some.inj ((show Tryd.prog.funcNamed "loop.example/g01988/laws.FnExactFormatPartition" = some 3 by kernel_rfl).symm.trans hf) |>.symm
      obtain rfl : fn = Tryd.f3 := (Option.some.inj (Tryd.func3.symm.trans hfn)).symm
      exact ⟨by kernel_rfl, fun j t ht => by
        rw [Tryd.params3] at ht
        have hm : t ∈ [22] := by simpa using Array.mem_of_getElem? ht
        have hall : ([22].all fun u => !Tryd.prog.wantsStandIn u) = true := by kernel_rfl
        exact (show Tryd.prog.wantsStandIn t = false by simpa using List.all_eq_true.1 hall t hm)⟩)
    (by kernel_rfl)
end Go.Proofs.YtkaalgbcdcbgoaaDoor.lawFnExactFormatPartition
