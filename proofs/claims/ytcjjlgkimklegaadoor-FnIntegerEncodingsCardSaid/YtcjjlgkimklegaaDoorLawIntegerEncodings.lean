/- FnIntegerEncodings: an encoded number is decoded again, whatever follows, at every code. Conditions: the listed tables of the library read as the program's start-up code lays them (tied by the card). -/
import Derived.Test.YtcjjlgkimklegaaDoorDoor
import Derived.Test.YtcjjlgkimklegaaDoorIntEnc
namespace Go.Proofs.YtcjjlgkimklegaaDoor.lawFnIntegerEncodings
open Go.ChangeShapes Go.WideShapes Go.ChangeAt Go.RowKit
theorem laidOut : laidOutB Tryd.prog = true := by kernel_rfl

theorem own : ownKnob Tryd.prog.godebug = none := by kernel_rfl

set_option maxRecDepth 100000 in
set_option maxHeartbeats 3200000 in
theorem law_walk (v : Value) (n : Nat) (w : World) (hcode : CodeAt w v n) (hn : n ≤ 1048576) (hT : Tab w.heap.size w) :
    Calls Tryd.prog 3 #[v] w fun e w' => e = .returned (.bool true) ∧ Below w.heap.size w w' := by
  have HBIG := Lib.hid (big_any v n (code_slice hcode))
  have HD1 := Lib.hid (drawEncodeVarint_any w v n hn hcode)
  have HD2 := Lib.hid (drawEncodeHex_any w v n hn hcode)
  have HD3 := Lib.hid (drawEncodeFixed_any w v n hn hcode)
  have HT := Lib.hid hT
  have hbig : decide (1048576 < (n : Int)) = false := by simp; omega
  clear hT
  obtain ⟨a, cap, rfl⟩ := code_slice hcode
  go_enter Tryd.func3, Tryd.ntmps3
  go_wp2_with fail
  refine (HBIG.out _).mono ?_
  rintro e w' ⟨rfl, rfl⟩
  go_wp2_with fail
  refine (HD1.out _ (Below.refl _ _)).mono ?_
  rintro e w1 ⟨x, x0, x1, rfl, hb1⟩
  go_wp2_with fail
  refine (HD2.out _ hb1).mono ?_
  rintro e w2 ⟨t, t1, rfl, hb2'⟩
  have hb2 := hb1.trans (hb2'.mono hb1.size)
  clear hb2' hb1
  go_wp2_with fail
  refine (implEV_any x _).mono ?_
  rintro e w3 ⟨rfl, hb3'⟩
  have hb3 := hb2.trans (hb3'.mono hb2.size)
  clear hb3' hb2
  have hcat : (evB x).size + t.size ≤ 9223372036854775807 := by have := evB_size x; omega
  go_wp2_with fail
  refine (implDV (evB x ++ t) _ (by rw [ByteArray.size_append]; have := evB_size x; omega)).mono ?_
  rintro e w4 ⟨y, k, hdv, rfl, hb4'⟩
  have hb4 := hb3.trans (hb4'.mono hb3.size)
  clear hb4' hb3 hcat
  go_upto_region 7 with fail
  go_cut [57] (fun s57 wx => s57 = .bool false ∧ wx = w4)
  case first =>
    by_cases hx : 0 ≤ x ∧ x ≤ 562949953421311
    · obtain ⟨f1, f2, f3, f4⟩ := evB_in hx
      obtain ⟨e1, e2⟩ := DV.unique hdv (by rw [str_add, f1]; exact DV_back hx.1 hx.2 t.data.toList)
      subst e1
      have hk : (k != ((evB y).size : Int)) = false := by rw [e2, f3]; simp
      obtain ⟨hx0, hx1⟩ := hx
      clear hdv f1 f3 e2 f4
      go_wp2_with fail
      go_meet
      exact ⟨rfl, rfl⟩
    · have f1 := evB_out hx
      have f2 : (evB x).toList.isEmpty = true := by rw [f1, ByteArray.toList_eq]; rfl
      clear f1 hdv
      by_cases hx0 : 0 ≤ x
      · have hx1 : 562949953421311 < x := by omega
        clear hx
        go_wp2_with fail
        go_meet
        exact ⟨by rw [decide_eq_false (by omega)], rfl⟩
      · clear hx
        go_wp2_with fail
        go_meet
        exact ⟨rfl, rfl⟩
  case rest =>
    obtain ⟨rfl, rfl⟩ := hcut
    clear hdv
    go_wp2_with fail
    refine (HD3.out _ hb4).mono ?_
    rintro e w5 ⟨u, wd, u0, u1, d0, d1, rfl, hb5'⟩
    have hb5 := hb4.trans (hb5'.mono hb4.size)
    clear hb5' hb4
    go_wp2_with fail
    refine (implEF_any u wd u1 _).mono ?_
    rintro e w6 ⟨rfl, hb6'⟩
    have hb6 := hb5.trans (hb6'.mono hb5.size)
    clear hb6' hb5
    have hf := efV_facts u wd
    have hfs : (efV u wd).size ≤ 7 := by rcases hf with ⟨_, h⟩ | ⟨_, _, h7, h, _⟩ <;> omega
    have HF := Lib.hid hf
    clear hf
    have hcat : (efV u wd).size + t.size ≤ 9223372036854775807 := by omega
    go_wp2_with fail
    refine (implDF_any (efV u wd ++ t) wd (by rw [ByteArray.size_append]; unfold maxLen; omega) _).mono ?_
    rintro e w7 ⟨z, ok, hz, rfl, rfl⟩
    have HZ := Lib.hid hz
    clear hz hcat
    go_upto_region 12 with fail
    go_cut [99] (fun s99 wx => s99 = .bool false ∧ Below w.heap.size w wx)
    case first =>
      rcases HF.out with ⟨f1, f2⟩ | ⟨f1, f2, f3, f4, f5⟩
      · go_wp2_with fail
        refine (specEF_any u wd u1 _).mono ?_
        rintro e w8 ⟨rfl, hb8'⟩
        have hb8 := hb6.trans (hb8'.mono hb6.size)
        go_wp2_with fail
        go_meet
        exact ⟨rfl, hb8⟩
      · obtain ⟨e1, rfl⟩ := HZ.out f2 f3 (by rw [ByteArray.size_append]; omega)
        rw [str_add, f5] at e1
        subst e1
        have hsz : (((efV z wd).size : Int) != wd) = false := by rw [f4]; simp
        clear f4 f5
        go_wp2_with fail
        refine (specEF_any z wd u1 _).mono ?_
        rintro e w8 ⟨rfl, hb8'⟩
        have hb8 := hb6.trans (hb8'.mono hb6.size)
        go_wp2_with fail
        go_meet
        exact ⟨rfl, hb8⟩
    case rest =>
      obtain ⟨rfl, hb8⟩ := hcut
      clear hb6 hfs
      go_wp2_with fail
      refine (implEH t _ (by omega)).mono ?_
      rintro e w9 ⟨rfl, hb9'⟩
      have hb9 := hb8.trans (hb9'.mono hb8.size)
      clear hb9' hb8
      have hhs := hexB_size t
      have HHS := Lib.hid hhs
      go_wp2_with fail
      refine (implDH (hexB t) _ (by omega)).mono ?_
      rintro e w10 ⟨r, rk, hr, rfl, hb10'⟩
      have hb10 := hb9.trans (hb10'.mono hb9.size)
      obtain ⟨rfl, rfl⟩ := hr.unique (DH_back t)
      clear hb10' hb9 hr hhs
      go_wp2_with fail
      refine (implFI u u0 u1 _ _ (HT.out.on hb10)).mono ?_
      rintro e w11 ⟨rfl, hb11'⟩
      have hb11 := hb10.trans (hb11'.mono hb10.size)
      clear hb11' hb10
      go_wp2_with fail
      refine (implPI (itoaB u) _ (fun w' h => HT.out w' (hb11.trans (h.mono hb11.size)))).mono ?_
      rintro e w12 ⟨p, pk, hp, rfl, hb12'⟩
      have hb12 := hb11.trans (hb12'.mono hb11.size)
      have hrs : ((hexB r).size : Int) = 2 * (r.size : Int) := by have := HHS.out; omega
      have hreq : (r.toList == r.toList) = true := by simp
      have hieq : ((itoaB u).toList == (itoaB u).toList) = true := by simp
      by_cases h9 : In9 u
      · obtain ⟨rfl, rfl⟩ := hp.unique (PA_in h9)
        have q1 : -1000000000 < p := by unfold In9 at h9; omega
        have q2 : p < 1000000000 := by unfold In9 at h9; omega
        have hpp : (p == p) = true := by simp
        clear hb12' hb11 hp h9
        go_wp2_with fail
        refine (specFI p u0 u1 _).mono ?_
        rintro e w13 ⟨rfl, hb13'⟩
        have hb13 := hb12.trans (hb13'.mono hb12.size)
        go_wp2_with fail
        go_ret
        exact ⟨rfl, hb13⟩
      · obtain ⟨rfl, rfl⟩ := hp.unique (PA_out h9)
        have q : u ≤ -1000000000 ∨ (-1000000000 < u ∧ 1000000000 ≤ u) := by unfold In9 at h9; omega
        clear hb12' hb11 hp h9
        rcases q with q1 | ⟨q1, q2⟩
        all_goals
          go_wp2_with fail
          refine (specFI u u0 u1 _).mono ?_
          rintro e w13 ⟨rfl, hb13'⟩
          have hb13 := hb12.trans (hb13'.mono hb12.size)
          go_wp2_with fail
          go_ret
          first | exact ⟨rfl, hb13⟩ | exact ⟨ret_b (by simp; omega), hb13⟩
theorem walk (v : Value) (n : Nat) (w : World) (hcode : CodeAt w v n) (hT : Tab w.heap.size w) :
    Calls Tryd.prog 3 #[v] w fun e w' => e = .returned (.bool true) ∧ Below w.heap.size w w' := by
  by_cases hn : n ≤ 1048576
  · exact law_walk v n w hcode hn hT
  · have HBIG := Lib.hid (big_any v n (code_slice hcode))
    have hbig : decide (1048576 < (n : Int)) = true := by simp; omega
    obtain ⟨a, cap, rfl⟩ := code_slice hcode
    go_enter Tryd.func3, Tryd.ntmps3
    go_wp2_with fail
    refine (HBIG.out _).mono ?_
    rintro e w' ⟨rfl, rfl⟩
    go_wp2_with fail
    go_ret
    exact ⟨rfl, Below.refl _ _⟩

set_option linter.unusedVariables false
set_option maxRecDepth 100000 in
theorem lifted (os : Os) (started : os.Started) (H : Type) (enc : TypeId × Value → H) :
    ReturnsInHanded {} Tryd.checked os 3 .any (fun w args => (Rows.fnIntegerEncodingsSpec.pre enc Tryd.prog Tryd.f3 [] false w args ∧ laidMetH Tryd.prog laidL w) ∧ sizedMet enc Tryd.prog Tryd.f3 (OpenSpec.ofChange Rows.fnIntegerEncodingsSpec) false w args)
      (Rows.fnIntegerEncodingsSpec.post enc Tryd.prog Tryd.f3 false true false false) := by
  refine returnsInHanded_of_change_and (C := Tryd.checked) (X := fun w _ => laidMetH Tryd.prog laidL w) (fun _ _ _ hh h => h.of_heap hh) own started (by kernel_rfl) Tryd.func3
    (ChangeSpec.witness_shaped (enc := enc) (C := Tryd.checked) (os := os) (X := fun w _ => laidMetH Tryd.prog laidL w) false (World.doorLaid Tryd.prog 24 os) #[.slice none 0 0] 8 rfl (World.shaped_of_RefB (by kernel_rfl) (by kernel_rfl)) (by kernel_rfl) (by kernel_rfl) (by kernel_rfl) (door_met os _)) ?_
  intro W base args ds gs before hval0 hW _ _ hL _
  have hval : ∀ (j : Nat) t v, Tryd.f3.params[j]? = some t → args[j]? = some v → Value.okWide Tryd.prog W .any base t v := hval0
  have hW' := hW
  obtain ⟨p, q, hA0, hV, rfl, hfz, hnd⟩ := hW
  have hA : DataW.TrodAll enc Tryd.prog W 0 (fun _ => true) true Tryd.f3.params.toList args.toList ds p := hA0
  rw [Tryd.params3] at hA hval
  obtain ⟨v0, vs0, d0, ds0, p0, q0, hargs, rfl, rfl, h0, r0⟩ := trodAll_cons hA
  obtain ⟨rfl, rfl, rfl⟩ := trodAll_nil r0
  obtain rfl : args = #[v0] := by cases args; simp_all
  obtain ⟨rfl, rfl⟩ := trodVars_none hV
  obtain ⟨a0, len0, cap0, rfl⟩ := okWide_slice Tryd.underlying22 (hval 0 22 v0 rfl rfl)
  have k0 := h0
  have lt0 : ∀ x ∈ p0, x.block < W.heap.size := by obtain ⟨m, hm⟩ := k0; exact DataW.trod_lt m _ _ _ hm
  have w0 : CodeAt W (.slice a0 len0 cap0) len0 := by
    obtain ⟨fuel, hf⟩ := h0
    rcases open_ints Tryd.underlying22 Tryd.underlying5 (by kernel_rfl) hf with ⟨hcs, _⟩ | ⟨x, l, c, zs, hcs, _, hl, hm, hz, _, hcell, hwz⟩
    · simp [Value.cells] at hcs
      obtain ⟨rfl, rfl, rfl⟩ := hcs
      exact .inl ⟨rfl, rfl⟩
    · simp [Value.cells] at hcs
      obtain ⟨rfl, rfl, rfl⟩ := hcs
      refine .inr ⟨x, cap0, rfl, hl, fun i hi => ?_⟩
      have hzl : zs.length = cap0 := by simpa using hz
      have hi2 : i < zs.length := by omega
      have hwf := hwz (zs.getD i 0) (by rw [List.getD_eq_getElem?_getD, List.getElem?_eq_getElem hi2]; exact List.getElem_mem hi2)
      obtain ⟨y0, y1⟩ := wf_u8_bd hwf
      exact ⟨_, y0, y1, hcell i hi2⟩
  clear hA0 hval0
  refine (walk (.slice a0 len0 cap0) len0  W w0 (of_laid hL)).mono fun e W' ⟨he, hg⟩ => ?_
  subst he
  exact ⟨_, rfl, ⟨_, _, _, [], _, [], hW', trodAll_cons_mk (shut_bool Tryd.underlying4 _) trodAll_mk0, (trodAll_cons_mk (Below.trod laidOut (by kernel_rfl) (of_decide_eq_true (by kernel_rfl)) k0 hg lt0) trodAll_mk0), rfl, hg.frame _, fun h => by cases h⟩⟩

theorem over : Rows.fnIntegerEncodingsRow.holds Tryd.pinned (OpenSpec.ofChange Rows.fnIntegerEncodingsSpec) :=
  OpenClaim.holds_of_wide 3 Tryd.f3 rfl rfl rfl rfl rfl rfl rfl ⟨rfl, rfl, rfl, rfl, rfl⟩ rfl rfl rfl rfl rfl (by kernel_rfl) Tryd.func3 (by kernel_rfl)
    (of_decide_eq_true (by kernel_rfl)) (by unfold Func.isWrapper; first | (rw [if_pos (by decide +kernel)]; kernel_rfl) | (rw [if_neg (by decide +kernel)]; exact ⟨rfl, rfl⟩))
    (fun os started H enc _ => lifted os started H enc)

theorem proved : Rows.FnIntegerEncodingsCardSaid :=
  Claim7.holds_tied_plain_at .later [] [.data, .data, .data] true Rows.fnIntegerEncodingsCard.stood.harness false
    over (fun _ h => by cases h) (by kernel_rfl) (fun _ h => by cases h) fnIntegerEncodings_row_tie rfl ⟨rfl, rfl⟩ (by kernel_rfl) rfl
    (fun f fn hf hfn => by
      obtain rfl : f = 3 := Option.some.inj ((show Tryd.prog.funcNamed "loop.example/g01988/laws.FnIntegerEncodings" = some 3 by kernel_rfl).symm.trans hf) |>.symm
      obtain rfl : fn = Tryd.f3 := (Option.some.inj (Tryd.func3.symm.trans hfn)).symm
      exact ⟨by kernel_rfl, fun j t ht => by
        rw [Tryd.params3] at ht
        have hm : t ∈ [22] := by simpa using Array.mem_of_getElem? ht
        have hall : ([22].all fun u => !Tryd.prog.wantsStandIn u) = true := by kernel_rfl
        exact (show Tryd.prog.wantsStandIn t = false by simpa using List.all_eq_true.1 hall t hm)⟩)
    (by kernel_rfl)
end Go.Proofs.YtcjjlgkimklegaaDoor.lawFnIntegerEncodings
