/- IsPreserving answers as its model at every argument; it writes into no argument; its answer owns its memory. Conditions: none beyond the row's own. -/
import Derived.Test.YtcgkfbjdlhapkaaPnKm
import Derived.Test.YtcgkfbjdlhapkaaNfFm
import Derived.Test.YtcgkfbjdlhapkaaYa51
import Derived.Test.YtcgkfbjdlhapkaaYa12
import Derived.Test.YtcgkfbjdlhapkaaParDm
import Derived.Test.YtcgkfbjdlhapkaaYa17
namespace Go.Proofs.Ytcgkfbjdlhapkaa.lawFnExactIsPreserving
open Go.ChangeShapes Go.WideShapes Go.ChangeAt Go.RowKit
theorem laidOut : laidOutB Try.prog = true := by kernel_rfl

theorem own : ownKnob Try.prog.godebug = none := by kernel_rfl

set_option maxRecDepth 20000 in
set_option maxHeartbeats 6400000 in
theorem walk (n : Int) (vl : Value) (l : List (Int × Int)) (vp : Value) (p : List Int) (_w0 : (Lit.int .i64 n).wf = true) (w : World) (hrl : ReadD w vl l) (hml : l.length ≤ maxLen) (bdl : ∀ d ∈ l, (Lit.int .i64 d.1).wf = true ∧ (Lit.int .i64 d.2).wf = true) (hrp : ReadI w vp p) (_hmp : p.length ≤ maxLen) (hbd : I64s p) :
    Calls Try.prog 10 #[.int .i64 n, vl, vp] w fun e w' => e = .returned (.bool true) ∧ Below w.heap.size w w' := by
  have hb := Below.refl w.heap.size w
  by_cases hsp : p.length ≤ 1048576
  · have hg0 : ¬ (1048576 : Int) < (p.length : Int) := by omega
    by_cases hszl : (l.length : Int) ≤ 1048576
    · have HZl := Lib.hid (fun w' (hb : Below w.heap.size w w') => szDepS_any vl l w' (hrl.kept hb) (1048576) (by omega) (by omega) (by unfold maxLen at hml; omega))
      rw [szD_ok hszl] at HZl
      have hnegl : ¬ (1048576 - (l.length : Int) < 0) := by omega
      have HTL := Lib.hid (fun w' (hb : Below w.heap.size w w') => toDepS_any vl l w' (hrl.kept hb) (by omega))
      have HTP := Lib.hid (fun w' (hb : Below w.heap.size w w') => toInt_any vp p w' (hrp.kept hb) (by omega))
      have HS := Lib.hid (fun ul up w' (hl : ReadD w' ul l) (hp : ReadI w' up p) => preserving13_any ul up n l p w' hl (by omega) hp (by omega))
      have HI := Lib.hid (fun ul up w' (hl : ReadD w' ul l) (hp : ReadI w' up p) => implIsPreserving_any ul up n l p _w0 bdl hbd w' hl (by omega) hp (by omega))
      obtain ⟨d, hd⟩ : ∃ d : Bool, d = psB n l p := ⟨_, rfl⟩
      rw [← hd] at HS HI
      clear hd bdl hbd
      have hdd : (d != d) = false := by simp
      obtain ⟨al, capl, rfl, -⟩ := hrl
      obtain ⟨ap, capp, rfl, -⟩ := hrp
      go_enter Try.func10, Try.ntmps10
      go_wp2_with fail
      refine (HZl.out _ hb).mono ?_
      rintro e w1 ⟨rfl, rfl⟩
      go_wp2_with fail
      refine (HTL.out _ hb).mono ?_
      rintro e w1 ⟨vol, rfl, ol, b1⟩
      replace ol := ol.range
      have z1 := b1.size
      replace hb := hb.trans (b1.mono hb.size)
      clear b1
      go_wp2_with fail
      refine (HTP.out _ hb).mono ?_
      rintro e w2 ⟨vop, rfl, op, b2⟩
      replace op := op.range
      have z2 := b2.size
      replace hb := hb.trans (b2.mono hb.size)
      replace ol := ol.same (Below.keeps b2 (by omega))
      clear b2
      go_wp2_with fail
      refine (HS.out _ _ _ ol.read op.read).mono ?_
      rintro e w3 ⟨rfl, b3⟩
      have z3 := b3.size
      replace hb := hb.trans (b3.mono hb.size)
      replace ol := ol.same (Below.keeps b3 (by omega))
      replace op := op.same (Below.keeps b3 (by omega))
      clear b3
      clear ol
      clear op
      go_wp2_with fail
      refine (HTL.out _ hb).mono ?_
      rintro e w4 ⟨vpl, rfl, pl, b4⟩
      replace pl := pl.range
      have z4 := b4.size
      replace hb := hb.trans (b4.mono hb.size)
      clear b4
      go_wp2_with fail
      refine (HTP.out _ hb).mono ?_
      rintro e w5 ⟨vpp, rfl, pp, b5⟩
      replace pp := pp.range
      have z5 := b5.size
      replace hb := hb.trans (b5.mono hb.size)
      replace pl := pl.same (Below.keeps b5 (by omega))
      clear b5
      go_wp2_with fail
      refine (HI.out _ _ _ pl.read pp.read).mono ?_
      rintro e w6 ⟨rfl, b6⟩
      have z6 := b6.size
      replace hb := hb.trans (b6.mono hb.size)
      replace pl := pl.same (Below.keeps b6 (by omega))
      replace pp := pp.same (Below.keeps b6 (by omega))
      clear b6
      go_wp2_with fail
      refine (HTL.out _ hb).mono ?_
      rintro e w7 ⟨vql, rfl, ql, b7⟩
      replace ql := ql.range
      have z7 := b7.size
      replace hb := hb.trans (b7.mono hb.size)
      replace pl := pl.same (Below.keeps b7 (by omega))
      replace pp := pp.same (Below.keeps b7 (by omega))
      clear b7
      go_wp2_with fail
      refine (eqDepS_same _ _ _ _ pl.read ql.read (by omega)).mono ?_
      rintro e w8 ⟨rfl, b8⟩
      have z8 := b8.size
      replace hb := hb.trans (b8.mono hb.size)
      replace pl := pl.same (Below.keeps b8 (by omega))
      replace pp := pp.same (Below.keeps b8 (by omega))
      replace ql := ql.same (Below.keeps b8 (by omega))
      clear b8
      clear ql
      go_wp2_with fail
      refine (HTP.out _ hb).mono ?_
      rintro e w9 ⟨vqp, rfl, qp, b9⟩
      replace qp := qp.range
      have z9 := b9.size
      replace hb := hb.trans (b9.mono hb.size)
      replace pl := pl.same (Below.keeps b9 (by omega))
      replace pp := pp.same (Below.keeps b9 (by omega))
      clear b9
      go_wp2_with fail
      refine (eqIntR_any _ _ _ _ pp.read qp.read (by omega)).mono ?_
      rintro e w10 ⟨rfl, b10⟩
      have z10 := b10.size
      replace hb := hb.trans (b10.mono hb.size)
      replace pl := pl.same (Below.keeps b10 (by omega))
      replace pp := pp.same (Below.keeps b10 (by omega))
      replace qp := qp.same (Below.keeps b10 (by omega))
      clear b10
      clear qp
      go_wp2_with fail
      go_ret
      exact ⟨rfl, hb⟩
    · have HZl := Lib.hid (fun w' (hb : Below w.heap.size w w') => szDepS_any vl l w' (hrl.kept hb) (1048576) (by omega) (by omega) (by unfold maxLen at hml; omega))
      rw [szD_no hszl] at HZl
      obtain ⟨al, capl, rfl, -⟩ := hrl
      obtain ⟨ap, capp, rfl, -⟩ := hrp
      go_enter Try.func10, Try.ntmps10
      go_wp2_with fail
      refine (HZl.out _ hb).mono ?_
      rintro e w1 ⟨rfl, rfl⟩
      go_wp2_with fail
      go_ret
      exact ⟨rfl, hb⟩
  · have hg0 : (1048576 : Int) < (p.length : Int) := by omega
    obtain ⟨al, capl, rfl, -⟩ := hrl
    obtain ⟨ap, capp, rfl, -⟩ := hrp
    go_enter Try.func10, Try.ntmps10
    go_wp2_with fail
    go_ret
    exact ⟨rfl, hb⟩

set_option linter.unusedVariables false
set_option maxRecDepth 100000 in
theorem lifted (os : Os) (started : os.Started) (H : Type) (enc : TypeId × Value → H) :
    ReturnsInHanded {} Try.checked os 10 .any (Rows.fnExactIsPreservingSpec.pre6 enc Try.prog Try.f10 Rows.fnExactIsPreservingRow.domain false) (Rows.fnExactIsPreservingSpec.post enc Try.prog Try.f10 false true false false) := by
  refine returnsInHanded_of_change (C := Try.checked) own started (by kernel_rfl) Try.func10
    (ChangeSpec.witness6 (enc := enc) (C := Try.checked) false ⟨#[], #[.int .i64 0, .slice none 0 0, .slice none 0 0], []⟩ 8 (by kernel_rfl) (by kernel_rfl) (by kernel_rfl) (by kernel_rfl)) ?_
  intro W base args ds gs before hval0 hW hcnd _
  have hval : ∀ (j : Nat) t v, Try.f10.params[j]? = some t → args[j]? = some v → Value.okWide Try.prog W .any base t v := hval0
  have hW' := hW
  obtain ⟨p, q, hA0, hV, rfl, hfz, hnd⟩ := hW
  have hA : DataW.TrodAll enc Try.prog W 0 (fun _ => true) true Try.f10.params.toList args.toList ds p := hA0
  rw [Try.params10] at hA hval
  obtain ⟨v0, vs0, d0, ds0, p0, q0, hargs, rfl, rfl, h0, r0⟩ := trodAll_cons hA
  obtain ⟨v1, vs1, d1, ds1, p1, q1, rfl, rfl, rfl, h1, r1⟩ := trodAll_cons r0
  obtain ⟨v2, vs2, d2, ds2, p2, q2, rfl, rfl, rfl, h2, r2⟩ := trodAll_cons r1
  obtain ⟨rfl, rfl, rfl⟩ := trodAll_nil r2
  obtain rfl : args = #[v0, v1, v2] := by cases args; simp_all
  obtain ⟨rfl, rfl⟩ := trodVars_none hV
  obtain ⟨a0, rfl, rfl, rfl, w0⟩ := open_int Try.underlying3 (hval 0 3 v0 rfl rfl) h0
  obtain ⟨a1, len1, cap1, rfl⟩ := okWide_slice Try.underlying22 (hval 1 22 v1 rfl rfl)
  have k1 := h1
  have lt1 : ∀ x ∈ p1, x.block < W.heap.size := by obtain ⟨m, hm⟩ := k1; exact DataW.trod_lt m _ _ _ hm
  have w1 : ∃ l, ReadD W (.slice a1 len1 cap1) l ∧ l.length ≤ maxLen ∧ ∀ d ∈ l, (Lit.int .i64 d.1).wf = true ∧ (Lit.int .i64 d.2).wf = true := by
    obtain ⟨fuel, hf⟩ := h1
    exact open_deps (by simpa [Value.cells] using hf)
  obtain ⟨l1, rd1, m1, bd1⟩ := w1
  obtain ⟨a2, len2, cap2, rfl⟩ := okWide_slice Try.underlying24 (hval 2 24 v2 rfl rfl)
  have k2 := h2
  have lt2 : ∀ x ∈ p2, x.block < W.heap.size := by obtain ⟨m, hm⟩ := k2; exact DataW.trod_lt m _ _ _ hm
  have w2 : ∃ l, ReadI W (.slice a2 len2 cap2) l ∧ l.length ≤ maxLen ∧ I64s l := by
    obtain ⟨fuel, hf⟩ := h2
    rcases open_ints Try.underlying24 Try.underlying3 (by kernel_rfl) hf with ⟨hcs, _⟩ | ⟨x, l, c, zs, hcs, _, hl, hm, hz, _, hcell, hwz⟩
    · simp [Value.cells] at hcs
      obtain ⟨rfl, rfl, rfl⟩ := hcs
      exact ⟨[], ⟨none, 0, rfl, fun i hi => absurd hi (Nat.not_lt_zero _)⟩, Nat.zero_le _, fun x hx => by cases hx⟩
    · simp [Value.cells] at hcs
      obtain ⟨rfl, rfl, rfl⟩ := hcs
      have hzl : zs.length = cap2 := by simpa using hz
      have hlen : (zs.take len2).length = len2 := by rw [List.length_take]; omega
      refine ⟨zs.take len2, ⟨some x, cap2, by rw [hlen], fun i hi => ⟨x, rfl, ?_⟩⟩, by rw [hlen]; omega, fun y hy => ?_⟩
      · rw [hlen] at hi
        have hi2 : i < zs.length := by omega
        have hc := hcell i hi2
        rw [List.getD_eq_getElem?_getD, List.getElem?_eq_getElem hi2] at hc
        rw [List.getElem_take]; exact hc
      · have hwf := hwz y (List.mem_of_mem_take hy)
        exact ⟨wf_i64_ge hwf, wf_i64_le hwf⟩
  obtain ⟨l2, rd2, m2, bd2⟩ := w2
  clear hA0 hval0
  refine (walk a0 (.slice a1 len1 cap1) l1 (.slice a2 len2 cap2) l2 w0 W rd1 m1 bd1 rd2 m2 bd2).mono fun e W' ⟨he, hg⟩ => ?_
  subst he
  exact ⟨_, rfl, ⟨_, _, _, [], _, [], hW', trodAll_cons_mk (shut_bool Try.underlying4 _) trodAll_mk0, (trodAll_cons_mk (shut_int Try.underlying3 w0) (trodAll_cons_mk (Below.trod laidOut (by kernel_rfl) (of_decide_eq_true (by kernel_rfl)) k1 hg lt1) (trodAll_cons_mk (Below.trod laidOut (by kernel_rfl) (of_decide_eq_true (by kernel_rfl)) k2 hg lt2) trodAll_mk0))), rfl, hg.frame _, fun h => by cases h⟩⟩

theorem over : Rows.fnExactIsPreservingRow.holds Try.pinned (OpenSpec.ofChange Rows.fnExactIsPreservingSpec) :=
  OpenClaim.holds_of_wide 10 Try.f10 rfl rfl rfl rfl rfl rfl rfl ⟨rfl, rfl, rfl, rfl, rfl⟩ rfl rfl rfl rfl rfl (by kernel_rfl) Try.func10 (by kernel_rfl)
    (of_decide_eq_true (by kernel_rfl)) (by unfold Func.isWrapper; first | (rw [if_pos (by decide +kernel)]; kernel_rfl) | (rw [if_neg (by decide +kernel)]; exact ⟨rfl, rfl⟩))
    (fun os started H enc _ => lifted os started H enc)

theorem proved : Rows.FnExactIsPreservingSaid := over
end Go.Proofs.Ytcgkfbjdlhapkaa.lawFnExactIsPreserving
