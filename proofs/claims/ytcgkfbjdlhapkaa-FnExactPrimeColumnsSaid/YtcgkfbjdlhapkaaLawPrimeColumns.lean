/- PrimeColumns answers as its model at every argument; it writes into no argument; its answer owns its memory. Conditions: none beyond the row's own. -/
import Derived.Test.YtcgkfbjdlhapkaaPdKm
import Derived.Test.YtcgkfbjdlhapkaaYa51
namespace Go.Proofs.Ytcgkfbjdlhapkaa.lawFnExactPrimeColumns
open Go.ChangeShapes Go.WideShapes Go.ChangeAt Go.RowKit
theorem laidOut : laidOutB Try.prog = true := by kernel_rfl

theorem own : ownKnob Try.prog.godebug = none := by kernel_rfl

set_option maxRecDepth 20000 in
set_option maxHeartbeats 6400000 in
theorem walk (n : Int) (vl : Value) (l : List (Int × Int)) (_w0 : (Lit.int .i64 n).wf = true) (w : World) (hrl : ReadD w vl l) (hml : l.length ≤ maxLen) (bdl : ∀ d ∈ l, (Lit.int .i64 d.1).wf = true ∧ (Lit.int .i64 d.2).wf = true) :
    Calls Try.prog 4 #[.int .i64 n, vl] w fun e w' => e = .returned (.bool true) ∧ Below w.heap.size w w' := by
  have hb := Below.refl w.heap.size w
  by_cases hszl : (l.length : Int) ≤ 1048576
  · have HZl := Lib.hid (fun w' (hb : Below w.heap.size w w') => szDepS_any vl l w' (hrl.kept hb) (1048576) (by omega) (by omega) (by unfold maxLen at hml; omega))
    rw [szD_ok hszl] at HZl
    have hnegl : ¬ (1048576 - (l.length : Int) < 0) := by omega
    have HTOl := Lib.hid (fun w' (hb : Below w.heap.size w w') => toDepS_any vl l w' (hrl.kept hb) (by omega))
    have HS := Lib.hid (fun ul w' (hl : ReadD w' ul l) => primeColumns11_any ul n l w' hl (by omega))
    have HI := Lib.hid (fun ul w' (hl : ReadD w' ul l) => implPrimeColumns_any ul n l _w0 bdl w' hl (by omega))
    obtain ⟨d, hd⟩ : ∃ d : Int, d = prZ n l := ⟨_, rfl⟩
    rw [← hd] at HS HI
    clear hd
    have hdd : (d != d) = false := by simp
    obtain ⟨al, capl, rfl, -⟩ := hrl
    go_enter Try.func4, Try.ntmps4
    go_wp2_with fail
    refine (HZl.out _ hb).mono ?_
    rintro e w1 ⟨rfl, rfl⟩
    go_wp2_with fail
    refine (HTOl.out _ hb).mono ?_
    rintro e w1 ⟨vol, rfl, ol, b1⟩
    replace ol := ol.range
    have z1 := b1.size
    replace hb := hb.trans (b1.mono hb.size)
    clear b1
    go_wp2_with fail
    refine (HS.out _ _ ol.read).mono ?_
    rintro e w2 ⟨rfl, b2⟩
    have z2 := b2.size
    replace hb := hb.trans (b2.mono hb.size)
    replace ol := ol.same (Below.keeps b2 (by omega))
    clear b2
    clear ol
    go_wp2_with fail
    refine (HTOl.out _ hb).mono ?_
    rintro e w3 ⟨vpl, rfl, pl, b3⟩
    replace pl := pl.range
    have z3 := b3.size
    replace hb := hb.trans (b3.mono hb.size)
    clear b3
    go_wp2_with fail
    refine (HI.out _ _ pl.read).mono ?_
    rintro e w4 ⟨rfl, b4⟩
    have z4 := b4.size
    replace hb := hb.trans (b4.mono hb.size)
    replace pl := pl.same (Below.keeps b4 (by omega))
    clear b4
    go_wp2_with fail
    refine (HTOl.out _ hb).mono ?_
    rintro e w5 ⟨vql, rfl, ql, b5⟩
    replace ql := ql.range
    have z5 := b5.size
    replace hb := hb.trans (b5.mono hb.size)
    replace pl := pl.same (Below.keeps b5 (by omega))
    clear b5
    go_wp2_with fail
    refine (eqDepS_same _ _ _ _ pl.read ql.read (by omega)).mono ?_
    rintro e w6 ⟨rfl, b6⟩
    have z6 := b6.size
    replace hb := hb.trans (b6.mono hb.size)
    replace pl := pl.same (Below.keeps b6 (by omega))
    replace ql := ql.same (Below.keeps b6 (by omega))
    clear b6
    clear ql
    go_wp2_with fail
    go_ret
    exact ⟨rfl, hb⟩
  · have HZl := Lib.hid (fun w' (hb : Below w.heap.size w w') => szDepS_any vl l w' (hrl.kept hb) (1048576) (by omega) (by omega) (by unfold maxLen at hml; omega))
    rw [szD_no hszl] at HZl
    obtain ⟨al, capl, rfl, -⟩ := hrl
    go_enter Try.func4, Try.ntmps4
    go_wp2_with fail
    refine (HZl.out _ hb).mono ?_
    rintro e w1 ⟨rfl, rfl⟩
    go_wp2_with fail
    go_ret
    exact ⟨rfl, hb⟩

set_option linter.unusedVariables false
set_option maxRecDepth 100000 in
theorem lifted (os : Os) (started : os.Started) (H : Type) (enc : TypeId × Value → H) :
    ReturnsInHanded {} Try.checked os 4 .any (Rows.fnExactPrimeColumnsSpec.pre6 enc Try.prog Try.f4 Rows.fnExactPrimeColumnsRow.domain false) (Rows.fnExactPrimeColumnsSpec.post enc Try.prog Try.f4 false true false false) := by
  refine returnsInHanded_of_change (C := Try.checked) own started (by kernel_rfl) Try.func4
    (ChangeSpec.witness6 (enc := enc) (C := Try.checked) false ⟨#[], #[.int .i64 0, .slice none 0 0], []⟩ 8 (by kernel_rfl) (by kernel_rfl) (by kernel_rfl) (by kernel_rfl)) ?_
  intro W base args ds gs before hval0 hW hcnd _
  have hval : ∀ (j : Nat) t v, Try.f4.params[j]? = some t → args[j]? = some v → Value.okWide Try.prog W .any base t v := hval0
  have hW' := hW
  obtain ⟨p, q, hA0, hV, rfl, hfz, hnd⟩ := hW
  have hA : DataW.TrodAll enc Try.prog W 0 (fun _ => true) true Try.f4.params.toList args.toList ds p := hA0
  rw [Try.params4] at hA hval
  obtain ⟨v0, vs0, d0, ds0, p0, q0, hargs, rfl, rfl, h0, r0⟩ := trodAll_cons hA
  obtain ⟨v1, vs1, d1, ds1, p1, q1, rfl, rfl, rfl, h1, r1⟩ := trodAll_cons r0
  obtain ⟨rfl, rfl, rfl⟩ := trodAll_nil r1
  obtain rfl : args = #[v0, v1] := by cases args; simp_all
  obtain ⟨rfl, rfl⟩ := trodVars_none hV
  obtain ⟨a0, rfl, rfl, rfl, w0⟩ := open_int Try.underlying3 (hval 0 3 v0 rfl rfl) h0
  obtain ⟨a1, len1, cap1, rfl⟩ := okWide_slice Try.underlying22 (hval 1 22 v1 rfl rfl)
  have k1 := h1
  have lt1 : ∀ x ∈ p1, x.block < W.heap.size := by obtain ⟨m, hm⟩ := k1; exact DataW.trod_lt m _ _ _ hm
  have w1 : ∃ l, ReadD W (.slice a1 len1 cap1) l ∧ l.length ≤ maxLen ∧ ∀ d ∈ l, (Lit.int .i64 d.1).wf = true ∧ (Lit.int .i64 d.2).wf = true := by
    obtain ⟨fuel, hf⟩ := h1
    exact open_deps (by simpa [Value.cells] using hf)
  obtain ⟨l1, rd1, m1, bd1⟩ := w1
  clear hA0 hval0
  refine (walk a0 (.slice a1 len1 cap1) l1 w0 W rd1 m1 bd1).mono fun e W' ⟨he, hg⟩ => ?_
  subst he
  exact ⟨_, rfl, ⟨_, _, _, [], _, [], hW', trodAll_cons_mk (shut_bool Try.underlying4 _) trodAll_mk0, (trodAll_cons_mk (shut_int Try.underlying3 w0) (trodAll_cons_mk (Below.trod laidOut (by kernel_rfl) (of_decide_eq_true (by kernel_rfl)) k1 hg lt1) trodAll_mk0)), rfl, hg.frame _, fun h => by cases h⟩⟩

theorem over : Rows.fnExactPrimeColumnsRow.holds Try.pinned (OpenSpec.ofChange Rows.fnExactPrimeColumnsSpec) :=
  OpenClaim.holds_of_wide 4 Try.f4 rfl rfl rfl rfl rfl rfl rfl ⟨rfl, rfl, rfl, rfl, rfl⟩ rfl rfl rfl rfl rfl (by kernel_rfl) Try.func4 (by kernel_rfl)
    (of_decide_eq_true (by kernel_rfl)) (by unfold Func.isWrapper; first | (rw [if_pos (by decide +kernel)]; kernel_rfl) | (rw [if_neg (by decide +kernel)]; exact ⟨rfl, rfl⟩))
    (fun os started H enc _ => lifted os started H enc)

theorem proved : Rows.FnExactPrimeColumnsSaid := over
end Go.Proofs.Ytcgkfbjdlhapkaa.lawFnExactPrimeColumns
