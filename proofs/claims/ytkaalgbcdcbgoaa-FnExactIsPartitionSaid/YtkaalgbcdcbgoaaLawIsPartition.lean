/- IsPartition answers as its model at every argument; it writes into no argument; its answer owns its memory. Conditions: none beyond the row's own. -/
import Derived.Test.YtkaalgbcdcbgoaaPgD
import Derived.Test.YtkaalgbcdcbgoaaSSLaw
import Derived.Test.YtkaalgbcdcbgoaaRowsOpen
namespace Go.Proofs.Ytkaalgbcdcbgoaa.lawFnExactIsPartition
open Go.ChangeShapes Go.WideShapes Go.ChangeAt Go.RowKit
theorem laidOut : laidOutB Try.prog = true := by kernel_rfl

theorem own : ownKnob Try.prog.godebug = none := by kernel_rfl

set_option maxRecDepth 20000 in
set_option maxHeartbeats 3200000 in
theorem walk (v : Value) (p : List (List Int)) (rows : Int) (_w0 : (Lit.int .i64 rows).wf = true) (w : World) (hr : ReadSS w v p) (hs : Short p) :
    Calls Try.prog 5 #[v, .int .i64 rows] w fun e w' => e = .returned (.bool true) ∧ Below w.heap.size w w' := by
  have HZ0 := Lib.hid (fun w' (hb : Below w.heap.size w w') => szSS_any v p w' (hr.kept hb) hs 1048576 (by omega) (by omega))
  have hb := Below.refl w.heap.size w
  by_cases hsz : szOf p ≤ 1048576
  · rw [szD_ok (by omega)] at HZ0
    have hneg : ¬ (1048576 - (szOf p : Int) < 0) := by omega
    obtain ⟨hl0, ht0⟩ := szOf_bd (m := 1048576) (ll := p) (by omega)
    have htt0 := szOf_tot (d := p) (by omega)
    have HTO0 := Lib.hid (fun w' (hb : Below w.heap.size w w') => toIntSS_any v p w' (hr.kept hb) hl0 ht0)
    have HEQ0 := Lib.hid (fun u u' w' (h : ReadSS w' u p) (h' : ReadSS w' u' p) => eqSS_any u u' p w' h h' hl0 htt0)
    have HS := Lib.hid (fun u0 w' (h0 : ReadSS w' u0 p) => isPartition_any2 u0 p rows w' h0 hl0 htt0)
    have HI := Lib.hid (fun u0 w' (h0 : ReadSS w' u0 p) => implIsPartition_any u0 p rows w' h0 hl0 htt0)
    obtain ⟨d, hd⟩ : ∃ d : Bool, d = partP p rows := ⟨_, rfl⟩
    rw [← hd] at HS HI
    have hdd : (d != d) = false := by simp
    clear hd
    obtain ⟨a0, cap0, rfl, -⟩ := hr
    clear hs ht0
    go_enter Try.func5, Try.ntmps5
    go_wp2_with fail
    refine (HZ0.out _ hb).mono ?_
    rintro e w1 ⟨rfl, b1⟩
    have z1 := b1.size
    replace hb := hb.trans (b1.mono hb.size)
    clear b1
    go_wp2_with fail
    refine (HTO0.out _ hb).mono ?_
    rintro e w2 ⟨xs0, rfl, s0, b2⟩
    have z2 := b2.size
    replace hb := hb.trans (b2.mono hb.size)
    clear b2
    go_wp2_with fail
    refine (HS.out _ _ s0.read).mono ?_
    rintro e w3 ⟨rfl, b3⟩
    have z3 := b3.size
    replace hb := hb.trans (b3.mono hb.size)
    replace s0 := s0.same (Below.keeps b3 (by omega))
    clear b3
    clear s0
    go_wp2_with fail
    refine (HTO0.out _ hb).mono ?_
    rintro e w4 ⟨xo0, rfl, o0, b4⟩
    have z4 := b4.size
    replace hb := hb.trans (b4.mono hb.size)
    clear b4
    go_wp2_with fail
    refine (HI.out _ _ o0.read).mono ?_
    rintro e w5 ⟨rfl, b5⟩
    have z5 := b5.size
    replace hb := hb.trans (b5.mono hb.size)
    replace o0 := o0.same (Below.keeps b5 (by omega))
    clear b5
    go_wp2_with fail
    refine (HTO0.out _ hb).mono ?_
    rintro e w6 ⟨xt0, rfl, t0, b6⟩
    have z6 := b6.size
    replace hb := hb.trans (b6.mono hb.size)
    replace o0 := o0.same (Below.keeps b6 (by omega))
    clear b6
    go_wp2_with fail
    refine (HEQ0.out _ _ _ o0.read t0.read).mono ?_
    rintro e w7 ⟨rfl, b7⟩
    have z7 := b7.size
    replace hb := hb.trans (b7.mono hb.size)
    replace o0 := o0.same (Below.keeps b7 (by omega))
    replace t0 := t0.same (Below.keeps b7 (by omega))
    clear b7
    clear t0
    go_wp2_with fail
    go_ret
    exact ⟨rfl, hb⟩
  · rw [szD_no (by omega)] at HZ0
    obtain ⟨a0, cap0, rfl, -⟩ := hr
    go_enter Try.func5, Try.ntmps5
    go_wp2_with fail
    refine (HZ0.out _ hb).mono ?_
    rintro e w1 ⟨rfl, b1⟩
    have z1 := b1.size
    replace hb := hb.trans (b1.mono hb.size)
    clear b1
    go_wp2_with fail
    go_ret
    exact ⟨rfl, hb⟩

set_option linter.unusedVariables false
set_option maxRecDepth 100000 in
theorem lifted (os : Os) (started : os.Started) (H : Type) (enc : TypeId × Value → H) :
    ReturnsInHanded {} Try.checked os 5 .any (Rows.fnExactIsPartitionSpec.pre6 enc Try.prog Try.f5 Rows.fnExactIsPartitionRow.domain false) (Rows.fnExactIsPartitionSpec.post enc Try.prog Try.f5 false true false false) := by
  refine returnsInHanded_of_change (C := Try.checked) own started (by kernel_rfl) Try.func5
    (ChangeSpec.witness6 (enc := enc) (C := Try.checked) false ⟨#[], #[.slice none 0 0, .int .i64 0], []⟩ 8 (by kernel_rfl) (by kernel_rfl) (by kernel_rfl) (by kernel_rfl)) ?_
  intro W base args ds gs before hval0 hW hcnd _
  have hval : ∀ (j : Nat) t v, Try.f5.params[j]? = some t → args[j]? = some v → Value.okWide Try.prog W .any base t v := hval0
  have hW' := hW
  obtain ⟨p, q, hA0, hV, rfl, hfz, hnd⟩ := hW
  have hA : DataW.TrodAll enc Try.prog W 0 (fun _ => true) true Try.f5.params.toList args.toList ds p := hA0
  rw [Try.params5] at hA hval
  obtain ⟨v0, vs0, d0, ds0, p0, q0, hargs, rfl, rfl, h0, r0⟩ := trodAll_cons hA
  obtain ⟨v1, vs1, d1, ds1, p1, q1, rfl, rfl, rfl, h1, r1⟩ := trodAll_cons r0
  obtain ⟨rfl, rfl, rfl⟩ := trodAll_nil r1
  obtain rfl : args = #[v0, v1] := by cases args; simp_all
  obtain ⟨rfl, rfl⟩ := trodVars_none hV
  obtain ⟨a0, len0, cap0, rfl⟩ := okWide_slice Try.underlying22 (hval 0 22 v0 rfl rfl)
  have k0 := h0
  have lt0 : ∀ x ∈ p0, x.block < W.heap.size := by obtain ⟨m, hm⟩ := k0; exact DataW.trod_lt m _ _ _ hm
  have w0 : ∃ l, ReadSS W (.slice a0 len0 cap0) l ∧ Short l ∧ I64ss l := by
    obtain ⟨fuel, hf⟩ := h0
    exact open_rows2 (by simpa [Value.cells] using hf)
  obtain ⟨l0, rd0, s0, bd0⟩ := w0
  obtain ⟨a1, rfl, rfl, rfl, w1⟩ := open_int Try.underlying3 (hval 1 3 v1 rfl rfl) h1
  clear hA0 hval0
  refine (walk (.slice a0 len0 cap0) l0 a1 w1 W rd0 s0).mono fun e W' ⟨he, hg⟩ => ?_
  subst he
  exact ⟨_, rfl, ⟨_, _, _, [], _, [], hW', trodAll_cons_mk (shut_bool Try.underlying4 _) trodAll_mk0, (trodAll_cons_mk (Below.trod laidOut (by kernel_rfl) (of_decide_eq_true (by kernel_rfl)) k0 hg lt0) (trodAll_cons_mk (shut_int Try.underlying3 w1) trodAll_mk0)), rfl, hg.frame _, fun h => by cases h⟩⟩

theorem over : Rows.fnExactIsPartitionRow.holds Try.pinned (OpenSpec.ofChange Rows.fnExactIsPartitionSpec) :=
  OpenClaim.holds_of_wide 5 Try.f5 rfl rfl rfl rfl rfl rfl rfl ⟨rfl, rfl, rfl, rfl, rfl⟩ rfl rfl rfl rfl rfl (by kernel_rfl) Try.func5 (by kernel_rfl)
    (of_decide_eq_true (by kernel_rfl)) (by unfold Func.isWrapper; first | (rw [if_pos (by decide +kernel)]; kernel_rfl) | (rw [if_neg (by decide +kernel)]; exact ⟨rfl, rfl⟩))
    (fun os started H enc _ => lifted os started H enc)

theorem proved : Rows.FnExactIsPartitionSaid := over
end Go.Proofs.Ytkaalgbcdcbgoaa.lawFnExactIsPartition
