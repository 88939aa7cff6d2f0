/- The program's chapter 13: schemaOf, IsBoyce, IsThird, DecomposeBoyce, by contract. Conditions: as stated. -/
import Derived.Test.YtcgkfbjdlhapkaaPnDm
namespace Go.Proofs.Ytcgkfbjdlhapkaa
open Go.RowKit

theorem fine_nat {n s : Int} {l : List (Int × Int)} (hf : fineN n l s = true) (w0 : (Lit.int .i64 n).wf = true) (bd : ∀ d ∈ l, (Lit.int .i64 d.1).wf = true ∧ (Lit.int .i64 d.2).wf = true) (hl : l.length ≤ 1048576) : ∃ C T : Nat, n = (C : Int) ∧ s = (T : Int) ∧ MnOk C l ∧ isA (C : Int) (T : Int) = true ∧ T < 32 ∧ T < 2 ^ C := by
  unfold fineN at hf
  rw [Bool.and_eq_true] at hf
  obtain ⟨C, rfl, ok⟩ := MnOk.of hf.1 w0 bd hl
  obtain ⟨T, rfl, hT, hTC⟩ := isA_lt12c ok.h5 hf.2
  exact ⟨C, T, rfl, rfl, ok, hf.2, hT, hTC⟩
theorem far4 (w : World) (p : Nat) (q : Addr) (x0 x1 x2 x3 : Value) (h : p ≠ q.block) : ((((w.setCell ⟨p, 0, none⟩ x0).setCell ⟨p, 1, none⟩ x1).setCell ⟨p, 2, none⟩ x2).setCell ⟨p, 3, none⟩ x3).cell? q = w.cell? q := by
  rw [World.cell?_setCell_far _ _ _ _ h, World.cell?_setCell_far _ _ _ _ h, World.cell?_setCell_far _ _ _ _ h, World.cell?_setCell_far _ _ _ _ h]
theorem bel4s {w w' : World} {B p : Nat} (hb : Below B w w') (h : B ≤ p) (x0 x1 x2 x3 : Value) : Below B w ((((w'.setCell ⟨p, 0, none⟩ x0).setCell ⟨p, 1, none⟩ x1).setCell ⟨p, 2, none⟩ x2).setCell ⟨p, 3, none⟩ x3) :=
  (((hb.setCell (p := ⟨p, 0, none⟩) h _).setCell (p := ⟨p, 1, none⟩) h _).setCell (p := ⟨p, 2, none⟩) h _).setCell (p := ⟨p, 3, none⟩) h _
section
set_option maxRecDepth 20000
set_option maxHeartbeats 3200000
theorem meaning_yes (C : Nat) (v : Value) (l : List (Int × Int)) (ok : MnOk C l) (w : World) (hr : ReadD w v l) :
    Calls Try.prog 64 #[.int .i64 (C : Int), v] w fun e w' => ∃ b, e = .returned (.tuple #[.agg #[.func (.func 99) #[] #[.pointer (some ⟨b + 1, 0, none⟩)], .func (.func 100) #[] #[.pointer (some ⟨b, 0, none⟩), .pointer (some ⟨b + 1, 0, none⟩)], .func (.func 102) #[] #[.pointer (some ⟨b, 0, none⟩), .pointer (some ⟨b + 1, 0, none⟩)]], .bool true]) ∧ MnE w' b C v l ∧ Below w.heap.size w w' ∧ w.heap.size ≤ b :=
  (meaningOf_any v (C : Int) l ok.w0 ok.bd w hr ok.len).mono fun _ _ h => ⟨w.heap.size, (h.2.1 ok.ha).1, ⟨(h.2.1 ok.ha).2.1, (h.2.1 ok.ha).2.2, hr.kept h.2.2⟩, h.2.2, Nat.le_refl _⟩
theorem meaning_no (v : Value) (n : Int) (l : List (Int × Int)) (_w0 : (Lit.int .i64 n).wf = true) (bd : ∀ d ∈ l, (Lit.int .i64 d.1).wf = true ∧ (Lit.int .i64 d.2).wf = true) (ha : arD n l = false) (w : World) (hr : ReadD w v l) (hl : l.length ≤ 1048576) :
    Calls Try.prog 64 #[.int .i64 n, v] w fun e w' => e = .returned (.tuple #[.agg #[.nilFunc, .nilFunc, .nilFunc], .bool false]) ∧ Below w.heap.size w w' :=
  (meaningOf_any v n l _w0 bd w hr hl).mono fun _ _ h => ⟨h.1 ha, h.2.2⟩
theorem schema_yes (C T : Nat) (v : Value) (l : List (Int × Int)) (ok : MnOk C l) (hs : isA (C : Int) (T : Int) = true) (w : World) (hr : ReadD w v l) :
    Calls Try.prog 58 #[.int .i64 (C : Int), v, .int .i64 (T : Int)] w fun e w' => ∃ b, e = .returned (.tuple #[.agg #[.int .i64 (T : Int), .func (.func 99) #[] #[.pointer (some ⟨b + 1, 0, none⟩)], .func (.func 100) #[] #[.pointer (some ⟨b, 0, none⟩), .pointer (some ⟨b + 1, 0, none⟩)], .func (.func 102) #[] #[.pointer (some ⟨b, 0, none⟩), .pointer (some ⟨b + 1, 0, none⟩)]], .bool true]) ∧ MnE w' b C v l ∧ Below w.heap.size w w' := by
  have HB1 := Lib.hid ((Below.refl w.heap.size w).alloc (Nat.le_refl _) (.cells #[.int .i64 0, .nilFunc, .nilFunc, .nilFunc] 69))
  have HV1 := Lib.hid (BV.new w 69 #[.int .i64 0, .nilFunc, .nilFunc, .nilFunc])
  have HM := Lib.hid (fun w' (hb : Below w.heap.size w w') => meaning_yes C v l ok w' (hr.kept hb))
  have HIA := Lib.hid (fun w' => implIsA_any (C : Int) (T : Int) (by obtain ⟨X, e, hX, -⟩ := isA_lt12c ok.h5 hs; omega) (by obtain ⟨X, e, hX, -⟩ := isA_lt12c ok.h5 hs; omega) w')
  rw [hs] at HIA
  have HRD := Lib.hid (fun w' (hb : Below w.heap.size w w') => hr.kept hb)
  obtain ⟨a, cap, rfl, -⟩ := hr
  clear hs ok
  go_enter Try.func58, Try.ntmps58
  go_wp2_with fail
  refine (HM.out _ HB1.out).mono ?_
  rintro e w2 ⟨b, rfl, he, b2, hbge⟩
  have hb3 := (Below.refl w2.heap.size w2).alloc (Nat.le_refl _) (.cells #[.func (.func 99) #[] #[.pointer (some ⟨b + 1, 0, none⟩)], .func (.func 100) #[] #[.pointer (some ⟨b, 0, none⟩), .pointer (some ⟨b + 1, 0, none⟩)], .func (.func 102) #[] #[.pointer (some ⟨b, 0, none⟩), .pointer (some ⟨b + 1, 0, none⟩)]] 67)
  have HE2 := Lib.hid (he.kept hb3)
  have HV2 := Lib.hid ((HV1.out.keep b2).keep hb3)
  have HB2 := Lib.hid ((HB1.out.trans (b2.mono HB1.out.size)).alloc (HB1.out.trans (b2.mono HB1.out.size)).size (.cells #[.func (.func 99) #[] #[.pointer (some ⟨b + 1, 0, none⟩)], .func (.func 100) #[] #[.pointer (some ⟨b, 0, none⟩), .pointer (some ⟨b + 1, 0, none⟩)], .func (.func 102) #[] #[.pointer (some ⟨b, 0, none⟩), .pointer (some ⟨b + 1, 0, none⟩)]] 67))
  obtain ⟨m0, m1, m2⟩ := three_at w2 67 (.func (.func 99) #[] #[.pointer (some ⟨b + 1, 0, none⟩)]) (.func (.func 100) #[] #[.pointer (some ⟨b, 0, none⟩), .pointer (some ⟨b + 1, 0, none⟩)]) (.func (.func 102) #[] #[.pointer (some ⟨b, 0, none⟩), .pointer (some ⟨b + 1, 0, none⟩)])
  have HM2 := Lib.hid (And.intro m0 (And.intro m1 m2))
  have HLT := Lib.hid HV1.out.lt
  clear he hb3
  go_wp2_with fail
  refine (HIA.out _).mono ?_
  rintro e w3 ⟨rfl, b3⟩
  have HB3 := Lib.hid (HB2.out.trans (b3.mono HB2.out.size))
  have HE3 := Lib.hid (HE2.out.kept b3)
  have HV3 := Lib.hid (HV2.out.keep b3)
  have k0 := keep_in HM2.out.1 b3
  have k1 := keep_in HM2.out.2.1 b3
  have k2 := keep_in HM2.out.2.2 b3
  have e0 := HV3.out.fro 0
  have e1 := HV3.out.fro 1
  have e2 := HV3.out.fro 2
  have e3 := HV3.out.fro 3
  have d0 : w3.cell? ⟨w.heap.size, 0, none⟩ = some (.int .i64 0) := HV3.out.cell 0 rfl
  have d1 : w3.cell? ⟨w.heap.size, 1, none⟩ = some .nilFunc := HV3.out.cell 1 rfl
  have d2 : w3.cell? ⟨w.heap.size, 2, none⟩ = some .nilFunc := HV3.out.cell 2 rfl
  have d3 : w3.cell? ⟨w.heap.size, 3, none⟩ = some .nilFunc := HV3.out.cell 3 rfl
  have hz := (((HV3.out.set 0 (.int .i64 (T : Int))).set 1 (.func (.func 99) #[] #[.pointer (some ⟨b + 1, 0, none⟩)])).set 2 (.func (.func 100) #[] #[.pointer (some ⟨b, 0, none⟩), .pointer (some ⟨b + 1, 0, none⟩)])).set 3 (.func (.func 102) #[] #[.pointer (some ⟨b, 0, none⟩), .pointer (some ⟨b + 1, 0, none⟩)])
  have hld := load_sc hz rfl
  have hbp : w.heap.size < b := by rw [World.size_alloc] at hbge; omega
  have HBF := Lib.hid (bel4s HB3.out (Nat.le_refl w.heap.size) (.int .i64 (T : Int)) (.func (.func 99) #[] #[.pointer (some ⟨b + 1, 0, none⟩)]) (.func (.func 100) #[] #[.pointer (some ⟨b, 0, none⟩), .pointer (some ⟨b + 1, 0, none⟩)]) (.func (.func 102) #[] #[.pointer (some ⟨b, 0, none⟩), .pointer (some ⟨b + 1, 0, none⟩)]))
  have HEF : Hid (MnE _ b C _ l) := Lib.hid ⟨(far4 w3 w.heap.size ⟨b, 0, none⟩ (.int .i64 (T : Int)) (.func (.func 99) #[] #[.pointer (some ⟨b + 1, 0, none⟩)]) (.func (.func 100) #[] #[.pointer (some ⟨b, 0, none⟩), .pointer (some ⟨b + 1, 0, none⟩)]) (.func (.func 102) #[] #[.pointer (some ⟨b, 0, none⟩), .pointer (some ⟨b + 1, 0, none⟩)]) (by show w.heap.size ≠ b; omega)).trans HE3.out.n0, (far4 w3 w.heap.size ⟨b + 1, 0, none⟩ (.int .i64 (T : Int)) (.func (.func 99) #[] #[.pointer (some ⟨b + 1, 0, none⟩)]) (.func (.func 100) #[] #[.pointer (some ⟨b, 0, none⟩), .pointer (some ⟨b + 1, 0, none⟩)]) (.func (.func 102) #[] #[.pointer (some ⟨b, 0, none⟩), .pointer (some ⟨b + 1, 0, none⟩)]) (by show w.heap.size ≠ b + 1; omega)).trans HE3.out.l0, HRD.out _ HBF.out⟩
  clear b2 b3 m0 m1 m2 HM2 hz hbge
  go_wp2_with fail
  exact bodyPost_ret (v := .tuple #[.agg #[.int .i64 (T : Int), .func (.func 99) #[] #[.pointer (some ⟨b + 1, 0, none⟩)], .func (.func 100) #[] #[.pointer (some ⟨b, 0, none⟩), .pointer (some ⟨b + 1, 0, none⟩)], .func (.func 102) #[] #[.pointer (some ⟨b, 0, none⟩), .pointer (some ⟨b + 1, 0, none⟩)]], .bool true]) (by rw [results_cell_tmp rfl]; simp [asAddr, Result.andThen, hld]) rfl ⟨b, rfl, HEF.out, HBF.out⟩
theorem schema_no (v : Value) (n s : Int) (l : List (Int × Int)) (_w0 : (Lit.int .i64 n).wf = true) (bd : ∀ d ∈ l, (Lit.int .i64 d.1).wf = true ∧ (Lit.int .i64 d.2).wf = true) (_w2 : (Lit.int .i64 s).wf = true) (hf : fineN n l s = false) (w : World) (hr : ReadD w v l) (hl : l.length ≤ 1048576) :
    Calls Try.prog 58 #[.int .i64 n, v, .int .i64 s] w fun e w' => e = .returned (.tuple #[.agg #[.int .i64 0, .nilFunc, .nilFunc, .nilFunc], .bool false]) ∧ Below w.heap.size w w' := by
  have HB1 := Lib.hid ((Below.refl w.heap.size w).alloc (Nat.le_refl _) (.cells #[.int .i64 0, .nilFunc, .nilFunc, .nilFunc] 69))
  have HV1 := Lib.hid (BV.new w 69 #[.int .i64 0, .nilFunc, .nilFunc, .nilFunc])
  cases ha : arD n l with
  | false =>
    have HM := Lib.hid (fun w' (hb : Below w.heap.size w w') => meaning_no v n l _w0 bd ha w' (hr.kept hb) hl)
    obtain ⟨a, cap, rfl, -⟩ := hr
    clear ha hf bd
    go_enter Try.func58, Try.ntmps58
    go_wp2_with fail
    refine (HM.out _ HB1.out).mono ?_
    rintro e w2 ⟨rfl, b2⟩
    have hb3 := (Below.refl w2.heap.size w2).alloc (Nat.le_refl _) (.cells #[.nilFunc, .nilFunc, .nilFunc] 67)
    obtain ⟨w3, hw3⟩ : ∃ w', w' = w2.alloc (.cells #[.nilFunc, .nilFunc, .nilFunc] 67) := ⟨_, rfl⟩
    rw [← hw3] at hb3
    have HV3 := Lib.hid ((HV1.out.keep b2).keep hb3)
    have HB3 := Lib.hid ((HB1.out.trans (b2.mono HB1.out.size)).trans (hb3.mono (HB1.out.trans (b2.mono HB1.out.size)).size))
    have e0 := HV3.out.fro 0
    have e1 := HV3.out.fro 1
    have e2 := HV3.out.fro 2
    have e3 := HV3.out.fro 3
    have d0 : w3.cell? ⟨w.heap.size, 0, none⟩ = some (.int .i64 0) := HV3.out.cell 0 rfl
    have d1 : w3.cell? ⟨w.heap.size, 1, none⟩ = some .nilFunc := HV3.out.cell 1 rfl
    have d2 : w3.cell? ⟨w.heap.size, 2, none⟩ = some .nilFunc := HV3.out.cell 2 rfl
    have d3 : w3.cell? ⟨w.heap.size, 3, none⟩ = some .nilFunc := HV3.out.cell 3 rfl
    have hz := (((HV3.out.set 0 (.int .i64 0)).set 1 .nilFunc).set 2 .nilFunc).set 3 .nilFunc
    have hld := load_sc hz rfl
    have HBF := Lib.hid (bel4s HB3.out (Nat.le_refl w.heap.size) (.int .i64 0) .nilFunc .nilFunc .nilFunc)
    clear hz b2 hb3
    rw [hw3] at *
    clear hw3
    go_wp2_with fail
    exact bodyPost_ret (v := .tuple #[.agg #[.int .i64 0, .nilFunc, .nilFunc, .nilFunc], .bool false]) (by rw [results_cell_tmp rfl]; simp [asAddr, Result.andThen, hld]) rfl ⟨rfl, HBF.out⟩
  | true =>
    obtain ⟨C, rfl, ok⟩ := MnOk.of ha _w0 bd hl
    have hs : isA (C : Int) s = false := by
      unfold fineN at hf
      rw [ha, Bool.true_and] at hf
      exact hf
    have HM := Lib.hid (fun w' (hb : Below w.heap.size w w') => meaning_yes C v l ok w' (hr.kept hb))
    have HIA := Lib.hid (fun w' => implIsA_any (C : Int) s (wf_i64_ge _w2) (wf_i64_le _w2) w')
    rw [hs] at HIA
    obtain ⟨a, cap, rfl, -⟩ := hr
    clear ha hf bd hs ok
    go_enter Try.func58, Try.ntmps58
    go_wp2_with fail
    refine (HM.out _ HB1.out).mono ?_
    rintro e w2 ⟨b, rfl, he, b2, -⟩
    have hb3 := (Below.refl w2.heap.size w2).alloc (Nat.le_refl _) (.cells #[.func (.func 99) #[] #[.pointer (some ⟨b + 1, 0, none⟩)], .func (.func 100) #[] #[.pointer (some ⟨b, 0, none⟩), .pointer (some ⟨b + 1, 0, none⟩)], .func (.func 102) #[] #[.pointer (some ⟨b, 0, none⟩), .pointer (some ⟨b + 1, 0, none⟩)]] 67)
    have HV2 := Lib.hid ((HV1.out.keep b2).keep hb3)
    have HB2 := Lib.hid ((HB1.out.trans (b2.mono HB1.out.size)).alloc (HB1.out.trans (b2.mono HB1.out.size)).size (.cells #[.func (.func 99) #[] #[.pointer (some ⟨b + 1, 0, none⟩)], .func (.func 100) #[] #[.pointer (some ⟨b, 0, none⟩), .pointer (some ⟨b + 1, 0, none⟩)], .func (.func 102) #[] #[.pointer (some ⟨b, 0, none⟩), .pointer (some ⟨b + 1, 0, none⟩)]] 67))
    clear he hb3 b2
    go_wp2_with fail
    refine (HIA.out _).mono ?_
    rintro e w3 ⟨rfl, b3⟩
    have HB3 := Lib.hid (HB2.out.trans (b3.mono HB2.out.size))
    have HV3 := Lib.hid (HV2.out.keep b3)
    have e0 := HV3.out.fro 0
    have e1 := HV3.out.fro 1
    have e2 := HV3.out.fro 2
    have e3 := HV3.out.fro 3
    have d0 : w3.cell? ⟨w.heap.size, 0, none⟩ = some (.int .i64 0) := HV3.out.cell 0 rfl
    have d1 : w3.cell? ⟨w.heap.size, 1, none⟩ = some .nilFunc := HV3.out.cell 1 rfl
    have d2 : w3.cell? ⟨w.heap.size, 2, none⟩ = some .nilFunc := HV3.out.cell 2 rfl
    have d3 : w3.cell? ⟨w.heap.size, 3, none⟩ = some .nilFunc := HV3.out.cell 3 rfl
    have hz := (((HV3.out.set 0 (.int .i64 0)).set 1 .nilFunc).set 2 .nilFunc).set 3 .nilFunc
    have hld := load_sc hz rfl
    have HBF := Lib.hid (bel4s HB3.out (Nat.le_refl w.heap.size) (.int .i64 0) .nilFunc .nilFunc .nilFunc)
    clear hz b3
    go_wp2_with fail
    exact bodyPost_ret (v := .tuple #[.agg #[.int .i64 0, .nilFunc, .nilFunc, .nilFunc], .bool false]) (by rw [results_cell_tmp rfl]; simp [asAddr, Result.andThen, hld]) rfl ⟨rfl, HBF.out⟩
theorem implIsBoyce_any (v : Value) (n s : Int) (l : List (Int × Int)) (_w0 : (Lit.int .i64 n).wf = true) (bdl : ∀ d ∈ l, (Lit.int .i64 d.1).wf = true ∧ (Lit.int .i64 d.2).wf = true) (_w2 : (Lit.int .i64 s).wf = true) (w : World) (hr : ReadD w v l) (hl : l.length ≤ 1048576) :
    Calls Try.prog 27 #[.int .i64 n, v, .int .i64 s] w fun e w' => e = .returned (.bool (byB n l s)) ∧ Below w.heap.size w w' := by
  cases hf : fineN n l s with
  | false =>
    have HS := Lib.hid (schema_no v n s l _w0 bdl _w2 hf w hr hl)
    have HE : Hid (byB n l s = false) := Lib.hid (by unfold byB; rw [hf]; rfl)
    rw [HE.out]
    obtain ⟨a, cap, rfl, -⟩ := hr
    clear hf bdl
    go_enter Try.func27, Try.ntmps27
    go_wp2_with fail
    refine HS.out.mono ?_
    rintro e w2 ⟨rfl, b2⟩
    have HB2 := Lib.hid (b2.alloc b2.size (.cells #[.int .i64 0, .nilFunc, .nilFunc, .nilFunc] 69))
    clear b2
    go_wp2_with fail
    go_ret
    exact ⟨rfl, HB2.out⟩
  | true =>
    obtain ⟨C, T, rfl, rfl, ok, hsT, hT, hTC⟩ := fine_nat hf _w0 bdl hl
    have HS := Lib.hid (schema_yes C T v l ok hsT w hr)
    have HOF := Lib.hid (fun b w' (he : MnE w' b C v l) => offenders_any b C v l ok T 0 hT w' he)
    have HE : Hid (byB (C : Int) l (T : Int) = decide ((ofL (C : Int) l T 0).length = 0)) := Lib.hid (by rw [by_of, hf, Bool.true_and])
    rw [HE.out]
    obtain ⟨F, hF⟩ : ∃ F, F = ofL (C : Int) l T 0 := ⟨_, rfl⟩
    rw [← hF] at HOF ⊢
    obtain ⟨a, cap, rfl, -⟩ := hr
    clear hf bdl ok hsT hF hT hTC HE
    go_enter Try.func27, Try.ntmps27
    go_wp2_with fail
    refine HS.out.mono ?_
    rintro e w2 ⟨b, rfl, he, b2⟩
    have hb3 := (Below.refl w2.heap.size w2).alloc (Nat.le_refl _) (.cells #[.int .i64 (T : Int), .func (.func 99) #[] #[.pointer (some ⟨b + 1, 0, none⟩)], .func (.func 100) #[] #[.pointer (some ⟨b, 0, none⟩), .pointer (some ⟨b + 1, 0, none⟩)], .func (.func 102) #[] #[.pointer (some ⟨b, 0, none⟩), .pointer (some ⟨b + 1, 0, none⟩)]] 69)
    have HB2 := Lib.hid (b2.alloc b2.size (.cells #[.int .i64 (T : Int), .func (.func 99) #[] #[.pointer (some ⟨b + 1, 0, none⟩)], .func (.func 100) #[] #[.pointer (some ⟨b, 0, none⟩), .pointer (some ⟨b + 1, 0, none⟩)], .func (.func 102) #[] #[.pointer (some ⟨b, 0, none⟩), .pointer (some ⟨b + 1, 0, none⟩)]] 69))
    have HG := Lib.hid (HOF.out b _ (he.kept hb3))
    have HX2 := Lib.hid (SBk.new w2 T b)
    have c0 := HX2.out.c0
    have c1 := HX2.out.c1
    have c2 := HX2.out.c2
    have c3 := HX2.out.c3
    clear b2 hb3 he
    go_wp2_with fail
    refine HG.out.mono ?_
    rintro e w3 ⟨v3, rfl, o3, b3⟩
    have HB3 := Lib.hid (HB2.out.trans (b3.mono HB2.out.size))
    obtain ⟨a3, k3, rfl⟩ := o3.shape
    clear b3 o3 c0 c1 c2 c3
    have HDE : Hid (decide (F.length = 0) = ((F.length : Int) == 0)) := Lib.hid (by rw [Bool.eq_iff_iff, decide_eq_true_iff, beq_iff_eq]; omega)
    go_wp2_with fail
    go_ret
    exact ⟨ret_b HDE.out, HB3.out⟩
end
end Go.Proofs.Ytcgkfbjdlhapkaa
