/- Texts of this claim, merged: DdP, FnDepA. Conditions: as stated. -/
import Derived.Test.YtfndnaldgaaieaaSh24
import Derived.Test.YtfndnaldgaaieaaSh25
import Derived.Test.YtfndnaldgaaieaaSh32
import Derived.Test.YtfndnaldgaaieaaDepDraw3m
import Derived.Test.YtfndnaldgaaieaaSh15
import Derived.Test.YtfndnaldgaaieaaSh23
import Derived.Test.YtfndnaldgaaieaaSh30
import Derived.Test.YtfndnaldgaaieaaDdRm
import Derived.Deep.Quiet
import Derived.Deep.RegionHeld3
import Derived.BigQuiet
import Derived.Deep.CutBlock
import Derived.Deep.DeepCutAuto
namespace Go.Proofs.Ytfndnaldgaaieaa
open Go.RowKit

theorem implParseF_any (s : ByteArray) (w : World) :
    Calls Try.prog 37 #[.string s] w fun e w' => e = .returned (.tuple #[.int .i64 (paA s).1, .bool (paA s).2]) ∧ Below w.heap.size w w' := by
  refine (implParseA_any s w).mono ?_
  rintro e w' ⟨x, ok, h, rfl, hb⟩
  obtain ⟨rfl, rfl⟩ := paA_eq h
  exact ⟨rfl, hb⟩
theorem paA_bd (s : ByteArray) : ∃ X : Nat, X < 32 ∧ (paA s).1 = (X : Int) := by
  rcases paA_is s with ⟨X, hX, h, -⟩ | ⟨-, h, -⟩
  · exact ⟨X, hX, h⟩
  · exact ⟨0, by omega, h⟩
theorem texts_no62 : ∀ j : Fin 32, ((fmtA ((j.val : Nat) : Int)).data.toList.all fun c => c != 62) = true := by decide +kernel
theorem paA_no62 {s : ByteArray} (h : (paA s).2 = true) : ∀ x ∈ s.data.toList, x ≠ 62 := by
  rcases paA_is s with ⟨X, hX, -, ht, -⟩ | ⟨-, -, h'⟩
  · have he : (fmtA (X : Int)).data.toList = s.data.toList := by
      have ht' : (fmtA (X : Int)).toList = s.toList := by
        unfold isTx at ht
        simpa using ht
      rw [ByteArray.toList_eq, ByteArray.toList_eq] at ht'
      exact ht'
    have := texts_no62 ⟨X, hX⟩
    rw [List.all_eq_true] at this
    intro x hx
    have h3 := this x (by rw [he]; exact hx)
    simpa using h3
  · rw [h'] at h; cases h
/-- The column that a letter names. -/
noncomputable def colOk (s : ByteArray) : Bool := (paA s).2 && decide (cnt (paA s).1 = 1)
noncomputable def colI (s : ByteArray) : Int := if colOk s = true then (mems (paA s).1).getD 0 0 else 0
theorem cols_small : ∀ j : Fin 32, ((mems ((j.val : Nat) : Int)).all fun x => decide (0 ≤ x ∧ x ≤ 5)) = true := by decide +kernel
theorem cnt_mems (x : Int) : cnt x = (mems x).length := rfl
set_option maxHeartbeats 800000 in
theorem parseColumn_any (s : ByteArray) (w : World) :
    Calls Try.prog 38 #[.string s] w fun e w' => e = .returned (.tuple #[.int .i64 (colI s), .bool (colOk s)]) ∧ Below w.heap.size w w' := by
  have HX := Lib.hid (implParseF_any s)
  obtain ⟨X, hX, hx⟩ := paA_bd s
  have HM := Lib.hid (members_any X hX)
  have hc : colOk s = ((paA s).2 && decide ((mems (X : Int)).length = 1)) := by unfold colOk; rw [hx, cnt_mems]
  have hi : colI s = if colOk s = true then (mems (X : Int)).getD 0 0 else 0 := by unfold colI; rw [hx]
  rw [hx] at HX
  obtain ⟨ok, hok⟩ : ∃ ok, ok = (paA s).2 := ⟨_, rfl⟩
  rw [← hok] at HX hc
  obtain ⟨l, hl⟩ : ∃ l, l = mems (X : Int) := ⟨_, rfl⟩
  rw [← hl] at HM hc hi
  clear hx hok hl
  cases ok with
  | false =>
    have HE : Hid (colOk s = false ∧ colI s = 0) := Lib.hid ⟨by rw [hc]; rfl, by rw [hi, hc]; rfl⟩
    clear hc hi
    go_enter Try.func38, Try.ntmps38
    go_wp2_with fail
    refine (HX.out _).mono ?_
    rintro e w1 ⟨rfl, b1⟩
    go_wp2_with fail
    refine (HM.out _).mono ?_
    rintro e w2 ⟨v, rfl, ho, b2⟩
    have hb := b1.trans (b2.mono b1.size)
    clear b1 b2
    obtain ⟨a, cap, rfl, -⟩ := ho.read
    go_wp2_with fail
    go_ret2
    exact ⟨by rw [HE.out.1, HE.out.2]; rfl, hb⟩
  | true =>
    by_cases h1 : l.length = 1
    · obtain ⟨z, rfl⟩ : ∃ z, l = [z] := by
        match l, h1 with
        | [z], _ => exact ⟨z, rfl⟩
      have HE : Hid (colOk s = true ∧ colI s = z) := Lib.hid ⟨by rw [hc]; rfl, by rw [hi, hc]; rfl⟩
      clear hc hi h1
      go_enter Try.func38, Try.ntmps38
      go_wp2_with fail
      refine (HX.out _).mono ?_
      rintro e w1 ⟨rfl, b1⟩
      go_wp2_with fail
      refine (HM.out _).mono ?_
      rintro e w2 ⟨v, rfl, ho, b2⟩
      have hb := b1.trans (b2.mono b1.size)
      clear b1 b2
      obtain ⟨a, cap, rfl, hrm⟩ := ho.read
      obtain ⟨xm, rfl, hym⟩ := hrm 0 (by simp)
      have hym : w2.cell? xm = some (.int .i64 z) := by have := hym; rw [Addr.add_zero'] at this; exact this
      clear hrm ho
      go_wp2_with fail
      go_ret2
      exact ⟨by rw [HE.out.1, HE.out.2]; rfl, hb⟩
    · have HE : Hid (colOk s = false ∧ colI s = 0) := Lib.hid (by
        have : colOk s = false := by rw [hc, decide_eq_false h1]; rfl
        exact ⟨this, by rw [hi, this]; rfl⟩)
      have hne : ((l.length : Int) != 1) = true := by rw [bne_iff_ne]; omega
      clear hc hi h1
      go_enter Try.func38, Try.ntmps38
      go_wp2_with fail
      refine (HX.out _).mono ?_
      rintro e w1 ⟨rfl, b1⟩
      go_wp2_with fail
      refine (HM.out _).mono ?_
      rintro e w2 ⟨v, rfl, ho, b2⟩
      have hb := b1.trans (b2.mono b1.size)
      clear b1 b2
      obtain ⟨a, cap, rfl, -⟩ := ho.read
      go_wp2_with fail
      go_ret2
      exact ⟨by rw [HE.out.1, HE.out.2]; rfl, hb⟩
theorem parseD_eq (n : Int) {s : ByteArray} {p r : List UInt8} {ended : Bool} (h : CutR 62 s.data.toList p r ended) :
    okP n s = (ended && ((paA (strB p)).2 && (colOk (strB r) && depB n (paA (strB p)).1 (colI (strB r))))) ∧ pdL n s = (if okP n s = true then (paA (strB p)).1 else 0) ∧ pdR n s = (if okP n s = true then colI (strB r) else 0) := by
  cases ended with
  | false =>
    have h1 : okP n s = false := by unfold okP; rw [h.whole]; rfl
    refine ⟨h1, ?_, ?_⟩
    · unfold pdL; rw [h1]; rfl
    · unfold pdR; rw [h1]; rfl
  | true =>
    obtain ⟨h1, h2⟩ := h.parts
    by_cases hr : ∀ x ∈ r, x ≠ 62
    · have h3 : cutL 62 s.data.toList = [p, r] := by rw [h2, cutL_end 62 r hr]
      have hL : sideL s = paA (strB p) := by unfold sideL; rw [h3]; rfl
      have hR : sideR s = paA (strB r) := by unfold sideR; rw [h3]; rfl
      have hcol : colOk (strB r) = true → colI (strB r) = (mems (paA (strB r)).1).getD 0 0 := fun e => by unfold colI; rw [if_pos e]
      have hok : okP n s = ((paA (strB p)).2 && (colOk (strB r) && depB n (paA (strB p)).1 (colI (strB r)))) := by
        unfold okP
        rw [h3, hL, hR]
        unfold colI colOk
        cases (paA (strB p)).2 <;> cases (paA (strB r)).2 <;> by_cases hq : cnt (paA (strB r)).1 = 1 <;> simp [hq]
      refine ⟨hok, ?_, ?_⟩
      · unfold pdL; rw [hL]
      · unfold pdR
        rw [hR]
        by_cases e : okP n s = true
        · rw [if_pos e, if_pos e]
          rw [hok] at e
          simp only [Bool.and_eq_true] at e
          exact (hcol e.2.1).symm
        · rw [if_neg e, if_neg e]
    · have h4 : (paA (strB r)).2 = false := by
        cases e : (paA (strB r)).2 with
        | false => rfl
        | true => exact absurd (fun x hx => paA_no62 e x (by simpa [strB] using hx)) hr
      have h5 : colOk (strB r) = false := by unfold colOk; rw [h4]; rfl
      have h6 : (cutL 62 s.data.toList).length ≠ 2 := by
        rw [h2, List.length_cons]
        intro e
        have hl : (cutL 62 r).length = 1 := by omega
        obtain ⟨q, hq⟩ : ∃ q, cutL 62 r = [q] := by
          match h : cutL 62 r, hl with
          | [q], _ => exact ⟨q, rfl⟩
        have hj := joinL_cut 62 r
        rw [hq] at hj
        have hqr : q = r := by simpa [joinL] using hj
        refine hr fun x hx e => ?_
        subst e
        obtain ⟨a, b, hab⟩ := List.append_of_mem hx
        rw [hab, cutL_append] at hl
        have l1 : 0 < (cutL 62 a).length := List.length_pos_iff.2 (cutL_ne 62 a)
        have l2 : 0 < (cutL 62 b).length := List.length_pos_iff.2 (cutL_ne 62 b)
        rw [List.length_append] at hl
        omega
      have h7 : okP n s = false := by unfold okP; rw [decide_eq_false h6]; rfl
      refine ⟨by rw [h7, h5]; simp, ?_, ?_⟩
      · unfold pdL; rw [h7]; rfl
      · unfold pdR; rw [h7]; rfl
section
set_option maxRecDepth 20000
set_option maxHeartbeats 3200000
theorem implParseDep_any (n : Int) (s : ByteArray) (_w0 : (Lit.int .i64 n).wf = true) (w : World) (hs : s.size ≤ 1048576) :
    Calls Try.prog 17 #[.int .i64 n, .string s] w fun e w' => e = .returned (.tuple #[.agg #[.int .i64 (pdL n s), .int .i64 (pdR n s)], .bool (okP n s)]) ∧ Below w.heap.size w w' := by
  have HC := Lib.hid (fun w' => cut_any s 62 w' hs)
  have hb1 := (Below.refl w.heap.size w).alloc (Nat.le_refl _) (.cells #[.int .i64 0, .int .i64 0] 28)
  have HBX := Lib.hid (fun w' (hb : Below (w.alloc (.cells #[.int .i64 0, .int .i64 0] 28)).heap.size (w.alloc (.cells #[.int .i64 0, .int .i64 0] 28)) w') => And.intro (hb1.trans (hb.mono hb1.size)) (box2 hb))
  have HRF := Lib.hid (Below.refl (w.alloc (.cells #[.int .i64 0, .int .i64 0] 28)).heap.size (w.alloc (.cells #[.int .i64 0, .int .i64 0] 28)))
  clear hb1
  go_enter Try.func17, Try.ntmps17
  go_wp2_with fail
  refine (HC.out _).mono ?_
  rintro e w1 ⟨p, r, ended, rfl, hc, b1⟩
  obtain ⟨hok, hpl, hpr⟩ := parseD_eq n hc
  have kb := HRF.out.trans (b1.mono HRF.out.size)
  have HX := Lib.hid (implParseF_any (strB p))
  have HY := Lib.hid (parseColumn_any (strB r))
  have HXW := Lib.hid (paA_bd (strB p))
  obtain ⟨⟨x, one⟩, hx⟩ : ∃ z, z = paA (strB p) := ⟨_, rfl⟩
  obtain ⟨y, hy⟩ : ∃ y, y = colI (strB r) := ⟨_, rfl⟩
  obtain ⟨two, ht⟩ : ∃ two, two = colOk (strB r) := ⟨_, rfl⟩
  rw [← hx] at HX hok hpl HXW
  rw [← hy] at HY hok hpr
  rw [← ht] at HY hok
  have HYB : Hid (0 ≤ y ∧ y ≤ 5) := Lib.hid (by
    rw [hy]
    unfold colI
    split
    · next h =>
      obtain ⟨Z, hZ, hz⟩ := paA_bd (strB r)
      unfold colOk at h
      rw [Bool.and_eq_true, decide_eq_true_iff, cnt_mems] at h
      rw [hz] at h ⊢
      have hm : (mems (Z : Int)).getD 0 0 ∈ mems (Z : Int) := by
        rw [List.getD_eq_getElem?_getD, List.getElem?_eq_getElem (by omega)]
        exact List.getElem_mem _
      have := cols_small ⟨Z, hZ⟩
      rw [List.all_eq_true] at this
      have h5 := this _ hm
      rw [decide_eq_true_iff] at h5
      exact h5
    · omega)
  simp only at HX hok hpl HXW
  clear hx hy ht hc b1
  go_wp2_with fail
  refine (HX.out _).mono ?_
  rintro e w2 ⟨rfl, b2⟩
  replace kb := kb.trans (b2.mono kb.size)
  clear b2
  go_wp2_with fail
  refine (HY.out _).mono ?_
  rintro e w3 ⟨rfl, b2⟩
  replace kb := kb.trans (b2.mono kb.size)
  clear b2
  have bD := (Below.refl w3.heap.size w3).alloc (Nat.le_refl _) (.cells #[.int .i64 x, .int .i64 y] 28)
  have HDB := Lib.hid (fun w' (hb : Below (w3.alloc (.cells #[.int .i64 x, .int .i64 y] 28)).heap.size (w3.alloc (.cells #[.int .i64 x, .int .i64 y] 28)) w') => box2 hb)
  have hx0 : -9223372036854775808 ≤ x ∧ x ≤ 9223372036854775807 := by
    obtain ⟨X, hX, e⟩ := HXW.out
    have : x = (X : Int) := e
    omega
  have HI := Lib.hid (implIsDep_any n x y _w0 (WalkArith.wf_i64 (by omega)) (WalkArith.wf_i64 (by have := HYB.out; omega)))
  replace kb := kb.trans (bD.mono kb.size)
  clear bD hx0
  obtain ⟨hb1, c0, c1⟩ := HBX.out _ kb
  obtain ⟨f0, f1⟩ := fz2 kb
  obtain ⟨d0, d1⟩ := zero2 w3 28 (.int .i64 x) (.int .i64 y)
  cases ended with
  | false =>
    have HE : Hid (okP n s = false ∧ pdL n s = 0 ∧ pdR n s = 0) := Lib.hid (by rw [hpl, hpr, hok]; exact ⟨rfl, rfl, rfl⟩)
    obtain ⟨r0, r1⟩ := res2 (.int .i64 0) (.int .i64 0) c0 c1
    have hbe := (hb1.setCell (p := ⟨w.heap.size, 0, none⟩) (Nat.le_refl _) (.int .i64 0)).setCell (p := ⟨w.heap.size, 1, none⟩) (Nat.le_refl _) (.int .i64 0)
    clear hok hpl hpr
    go_wp2_with fail
    exact bodyPost_ret (v := .tuple #[.agg #[.int .i64 0, .int .i64 0], .bool false]) (by simp [results, Try.results17, go_sem, r0, r1]) rfl ⟨by rw [HE.out.1, HE.out.2.1, HE.out.2.2], hbe⟩
  | true =>
    cases one with
    | false =>
      have HE : Hid (okP n s = false ∧ pdL n s = 0 ∧ pdR n s = 0) := Lib.hid (by rw [hpl, hpr, hok]; exact ⟨rfl, rfl, rfl⟩)
      obtain ⟨r0, r1⟩ := res2 (.int .i64 0) (.int .i64 0) c0 c1
      have hbe := (hb1.setCell (p := ⟨w.heap.size, 0, none⟩) (Nat.le_refl _) (.int .i64 0)).setCell (p := ⟨w.heap.size, 1, none⟩) (Nat.le_refl _) (.int .i64 0)
      clear hok hpl hpr
      go_wp2_with fail
      exact bodyPost_ret (v := .tuple #[.agg #[.int .i64 0, .int .i64 0], .bool false]) (by simp [results, Try.results17, go_sem, r0, r1]) rfl ⟨by rw [HE.out.1, HE.out.2.1, HE.out.2.2], hbe⟩
    | true =>
      cases two with
      | false =>
        have HE : Hid (okP n s = false ∧ pdL n s = 0 ∧ pdR n s = 0) := Lib.hid (by rw [hpl, hpr, hok]; exact ⟨rfl, rfl, rfl⟩)
        obtain ⟨r0, r1⟩ := res2 (.int .i64 0) (.int .i64 0) c0 c1
        have hbe := (hb1.setCell (p := ⟨w.heap.size, 0, none⟩) (Nat.le_refl _) (.int .i64 0)).setCell (p := ⟨w.heap.size, 1, none⟩) (Nat.le_refl _) (.int .i64 0)
        clear hok hpl hpr
        go_wp2_with fail
        exact bodyPost_ret (v := .tuple #[.agg #[.int .i64 0, .int .i64 0], .bool false]) (by simp [results, Try.results17, go_sem, r0, r1]) rfl ⟨by rw [HE.out.1, HE.out.2.1, HE.out.2.2], hbe⟩
      | true =>
        cases hdp : depB n x y with
        | false =>
          rw [hdp] at hok HI
          have HE : Hid (okP n s = false ∧ pdL n s = 0 ∧ pdR n s = 0) := Lib.hid (by rw [hpl, hpr, hok]; exact ⟨rfl, rfl, rfl⟩)
          clear hok hpl hpr hdp
          go_wp2_with fail
          refine (HI.out _).mono ?_
          rintro e w4 ⟨rfl, b4⟩
          replace kb := kb.trans (b4.mono kb.size)
          clear c0 c1 f0 f1 hb1 d0 d1
          obtain ⟨hb1, c0, c1⟩ := HBX.out _ kb
          obtain ⟨f0, f1⟩ := fz2 kb
          obtain ⟨r0, r1⟩ := res2 (.int .i64 0) (.int .i64 0) c0 c1
          have hbe := (hb1.setCell (p := ⟨w.heap.size, 0, none⟩) (Nat.le_refl _) (.int .i64 0)).setCell (p := ⟨w.heap.size, 1, none⟩) (Nat.le_refl _) (.int .i64 0)
          clear b4
          go_wp2_with fail
          exact bodyPost_ret (v := .tuple #[.agg #[.int .i64 0, .int .i64 0], .bool false]) (by simp [results, Try.results17, go_sem, r0, r1]) rfl ⟨by rw [HE.out.1, HE.out.2.1, HE.out.2.2], hbe⟩
        | true =>
          rw [hdp] at hok HI
          have hok2 : okP n s = true := by rw [hok]; rfl
          have HE : Hid (okP n s = true ∧ pdL n s = x ∧ pdR n s = y) := Lib.hid ⟨hok2, by rw [hpl, if_pos hok2], by rw [hpr, if_pos hok2]⟩
          clear hok hpl hpr hdp hok2
          go_wp2_with fail
          refine (HI.out _).mono ?_
          rintro e w4 ⟨rfl, b4⟩
          replace kb := kb.trans (b4.mono kb.size)
          clear c0 c1 f0 f1 hb1 d0 d1
          obtain ⟨hb1, c0, c1⟩ := HBX.out _ kb
          obtain ⟨f0, f1⟩ := fz2 kb
          obtain ⟨d0, d1⟩ := HDB.out _ b4
          obtain ⟨r0, r1⟩ := res2 (.int .i64 x) (.int .i64 y) c0 c1
          have hbe := (hb1.setCell (p := ⟨w.heap.size, 0, none⟩) (Nat.le_refl _) (.int .i64 x)).setCell (p := ⟨w.heap.size, 1, none⟩) (Nat.le_refl _) (.int .i64 y)
          clear b4
          go_wp2_with fail
          exact bodyPost_ret (v := .tuple #[.agg #[.int .i64 x, .int .i64 y], .bool true]) (by simp [results, Try.results17, go_sem, r0, r1]) rfl ⟨by rw [HE.out.1, HE.out.2.1, HE.out.2.2], hbe⟩
end
end Go.Proofs.Ytfndnaldgaaieaa
namespace Go.Proofs.Ytfndnaldgaaieaa
open Go.RowKit

theorem rows_few6 {ll : List (List Int)} {m : Nat} (h : ∀ r ∈ ll, r.length ≤ m) (i : Nat) (hi : i < ll.length) : (ll.getD i []).length ≤ m :=
  h _ (by rw [List.getD_eq_getElem?_getD, List.getElem?_eq_getElem hi]; exact List.getElem_mem _)
/-- A table and a dependency, each in a box, and the table's rows readable. -/
structure TD (w : World) (T : Nat) (c : Int) (v : Value) (x y : Int) (ll : List (List Int)) : Prop where
  t : BoxIs w T c v
  d : DBox w (T + 1) x y
  s : ReadSS w v ll
theorem TD.kept {w w' : World} {T : Nat} {c x y : Int} {v : Value} {ll : List (List Int)} (h : TD w T c v x y ll) (hb : Below w.heap.size w w') : TD w' T c v x y ll :=
  ⟨h.t.kept hb h.t.lt, (hb.block _ h.d.lt).trans h.d, h.s.kept hb⟩
theorem TD.mk' {w : World} {c x y : Int} {v : Value} {ll : List (List Int)} (h : ReadSS w v ll) : TD ((w.alloc (.cells #[.int .i64 c, v] 26)).alloc (.cells #[.int .i64 x, .int .i64 y] 28)) w.heap.size c v x y ll := by
  have hb : Below w.heap.size w ((w.alloc (.cells #[.int .i64 c, v] 26)).alloc (.cells #[.int .i64 x, .int .i64 y] 28)) := ((Below.refl _ w).alloc (Nat.le_refl _) _).alloc (by simp) _
  refine ⟨BoxIs.grown (heap_alloc_new w _) (World.grownBy_alloc _ _ none) (by simp), ?_, h.kept hb⟩
  have := heap_alloc_new (w.alloc (.cells #[.int .i64 c, v] 26)) (.cells #[.int .i64 x, .int .i64 y] 28)
  rwa [World.size_alloc] at this
theorem TD.drew {w : World} {T : Nat} {c x y : Int} {v : Value} {ll : List (List Int)} (h : TD w T c v x y ll) : TD w.drew T c v x y ll := h.kept (Below.refl _ _).drew
theorem TD.all {w : World} {T : Nat} {c x y : Int} {v : Value} {ll : List (List Int)} (h : TD w T c v x y ll) : (w.cell? ⟨T, 0, none⟩ = some (.int .i64 c) ∧ w.cell? ⟨T, 1, none⟩ = some v) ∧ w.cell? ⟨T + 1, 0, none⟩ = some (.int .i64 x) ∧ w.cell? ⟨T + 1, 1, none⟩ = some (.int .i64 y) :=
  ⟨h.t.cells.1, h.d.cells.1⟩
/-- A world that has all that w has, and perhaps new blocks. -/
structure Bel (w : World) where
  x : World
  h : Below w.heap.size w x
instance (w : World) : Inhabited (Bel w) := ⟨⟨w, Below.refl _ w⟩⟩
theorem wp_region_bel {P : Program} {id : Nat} {Q : Exit → Act → World → Prop} {a : Act} {w : World} {l : List Oper} (hm : P.follows .mixedOrders = true) (hB : Region.lexB .any l.toArray = true)
    (h : wpQuiet P l.toArray (fun w' => ∃ p : Bel w, w' = p.x) (fun a' => ∀ w', (∃ p : Bel w, w' = p.x) → Q .normal a' w') l a) : (Code.region id l.toArray true).wp P Q a w :=
  wp_region_quiet (C := fun w' => ∃ p : Bel w, w' = p.x) hm hB ⟨⟨w.drew, (Below.refl _ w).drew⟩, rfl⟩ (by simpa using h)
theorem Calls.bel {P : Program} {f : FuncId} {args : Array Value} {w : World} {p : Bel w} {v : Value}
    (h : Calls P f args p.x fun e w' => e = .returned v ∧ Below p.x.heap.size p.x w') : Calls P f args p.x fun e w'' => e = .returned v ∧ ∃ q : Bel w, w'' = q.x :=
  h.mono fun _ w' ⟨he, hb⟩ => ⟨he, ⟨w', p.h.trans (hb.mono p.h.size)⟩, rfl⟩
theorem TD.bel {w : World} {T : Nat} {c x y : Int} {v : Value} {ll : List (List Int)} (h : TD w T c v x y ll) (p : Bel w) : TD p.x T c v x y ll := h.kept p.h
/-- What is compared, in plain words. -/
structure Plain (c : Int) (ll : List (List Int)) (m l r : Int) (H wb : Bool) (RM : Int) : Prop where
  lo : -1 ≤ RM
  hi : RM ≤ ll.length
  neg : RM < 0 → H = false ∧ wb = false
  wit : 0 ≤ RM → H = !wb
  zero : 0 ≤ RM → H = decide (RM = 0)
  few : 0 < RM → RM < ll.length
  sub : 0 ≤ RM → ∀ M, holdsD c (subT M ll ll.length) m l r = true → RM + ((subT M ll ll.length).length : Int) ≤ ll.length
theorem remD_ge (c : Int) (ll : List (List Int)) (m l r : Int) : -1 ≤ remD c ll m l r := by
  unfold remD
  split
  · have := remTo_nat (c := c.toNat) (ll := ll) (m := m) (R := r.toNat) (clSt c.toNat ll m l ll.length).1
    omega
  · omega
theorem plain (c : Int) (ll : List (List Int)) (m l r : Int) : Plain c ll m l r (holdsD c ll m l r) (witB c ll m l r) (remD c ll m l r) := by
  have hlo := remD_ge c ll m l r
  refine ⟨hlo, ?_, fun h => ok_holds (rem_neg h), fun h => holds_wit (rem_ok h), fun h => holds_rem (rem_ok h), fun h => rem_fewer (rem_ok (by omega)) h, fun h M hM => rem_sub (rem_ok h) hM⟩
  rcases (show remD c ll m l r ≤ 0 ∨ 0 < remD c ll m l r by omega) with h | h
  · omega
  · have := rem_fewer (rem_ok (show 0 ≤ remD c ll m l r by omega)) h
    omega
theorem sh_small {n : Nat} (h : n ≤ 20) : wrap64 (2 ^ n) = ((2 ^ n : Nat) : Int) := by
  have : ∀ n : Fin 21, wrap64 (2 ^ n.val) = ((2 ^ n.val : Nat) : Int) := by decide +kernel
  exact this ⟨n, by omega⟩
theorem shl_run (n : Nat) (h : n ≤ 20) : Op.shift .shl .i64 1 .i64 (n : Int) = (pure (.int .i64 ((2 ^ n : Nat) : Int)) : Sem Value) := by
  unfold Op.shift
  have h1 : ¬ (n : Int) < 0 := by omega
  have h2 : min ((n : Int)).toNat IntKind.i64.bits = n := by
    show min ((n : Int)).toNat 64 = n
    omega
  have h3 : IntKind.i64.wrap (1 * 2 ^ n) = ((2 ^ n : Nat) : Int) := by
    rw [Int.one_mul, IntWalk.i64_left]
    exact sh_small h
  simp only [if_neg h1, h2, h3]
section
variable (w : World) {ops : Array Oper} {rest : List Oper} {o : Oper} {a : Act} {Q : Exit → Act → World → Prop}
/-- '1 << n', n at most 20: the number by a name. -/
theorem wpList_shl1 (hg : o.guard = none) (x y : Operand) (t t' : TypeId) (hop : o.op = Op.binOp .shl t x y t') (n N : Nat) (hN : N = 2 ^ n) (hx : a.eval x = .int .i64 1) (hy : a.eval y = .int .i64 (n : Int)) (h : n ≤ 20)
    (hK : wpList Try.prog ops Q rest (a.put o.dst (.int .i64 (N : Int))) w) : wpList Try.prog ops Q (o :: rest) a w := by
  subst hN
  refine wpList_plain hg fun K' hK' => ?_
  unfold Oper.wp
  simp only [execOp, hop, hx, hy, binOp_shl, shl_run n h, Sem.run_pure, Sem.run_bind, Result.andThen]
  exact hK' _ _ hK
end
theorem shr_run (m n : Nat) (h : n ≤ 20) : Op.shift .shr .i64 (m : Int) .i64 (n : Int) = (pure (.int .i64 ((m / 2 ^ n : Nat) : Int)) : Sem Value) := by
  rw [shift_shr_any .i64 .i64 _ _ (by omega)]
  have h2 : min ((n : Int)).toNat IntKind.i64.bits = n := by
    show min ((n : Int)).toNat 64 = n
    omega
  rw [h2]
  have h3 : (m : Int) / 2 ^ n = ((m / 2 ^ n : Nat) : Int) := by rw [Int.natCast_ediv, Int.natCast_pow]; rfl
  rw [h3]
section
variable (w : World) {ops : Array Oper} {rest : List Oper} {o : Oper} {a : Act} {Q : Exit → Act → World → Prop}
theorem wpList_shr (hg : o.guard = none) (x y : Operand) (t t' : TypeId) (hop : o.op = Op.binOp .shr t x y t') (m n Z : Nat) (hZ : Z = m / 2 ^ n) (hx : a.eval x = .int .i64 (m : Int)) (hy : a.eval y = .int .i64 (n : Int)) (h : n ≤ 20)
    (hK : wpList Try.prog ops Q rest (a.put o.dst (.int .i64 (Z : Int))) w) : wpList Try.prog ops Q (o :: rest) a w := by
  subst hZ
  refine wpList_plain hg fun K' hK' => ?_
  unfold Oper.wp
  simp only [execOp, hop, hx, hy, binOp_shr, shr_run m n h, Sem.run_pure, Sem.run_bind, Result.andThen]
  exact hK' _ _ hK
end
theorem bit_of (i k Z : Nat) (hZ : Z = i / 2 ^ k) : (bits BinOp.and IntKind.i64 (Z : Int) 1 == 1) = bitB i k := by
  rw [← bit_one, hZ, Int.natCast_ediv, Int.natCast_pow]; rfl
/-- Rows of another table, by their slices: the table that is made of them. -/
theorem rows_read {w w' : World} {xa : Option Addr} {xc : Nat} {B : Nat} {P : List (Value × List Int)} {rows : List (List Int)} (ho : w'.ownsRow B 37 1 (.slice xa P.length xc) P.length (P.map (·.1))) (hb : Below w.heap.size w w') (hP : ∀ p ∈ P, ReadI w p.1 p.2) (he : P.map (·.2) = rows) : ReadSS w' (.slice xa P.length xc) rows := by
  have hl : rows.length = P.length := by rw [← he, List.length_map]
  rcases ho.2 with ⟨h1, h0⟩ | ⟨g, cap, cur, h1, hB, hgg, rest⟩
  · exact ⟨xa, xc, by rw [hl], fun i hi => by omega⟩
  · cases h1
    refine ⟨_, xc, by rw [hl], fun i hi => ?_⟩
    have hi' : i < P.length := by omega
    have hc := World.ownsRow.cellAt ho i (by simpa using hi')
    rw [List.getElem?_map, List.getElem?_eq_getElem hi'] at hc
    refine ⟨_, (P[i]).1, rfl, ?_, ?_⟩
    · rw [add_zero_off]; exact hc
    · have hr : rows.getD i [] = (P[i]).2 := by rw [← he, List.getD_eq_getElem?_getD, List.getElem?_map, List.getElem?_eq_getElem hi']; rfl
      rw [hr]
      exact (hP _ (List.getElem_mem hi')).kept hb
theorem pd_bd (n : Int) (s : ByteArray) : (0 ≤ pdL n s ∧ pdL n s ≤ 31) ∧ 0 ≤ pdR n s ∧ pdR n s ≤ 5 := by
  constructor
  · unfold pdL
    split
    · obtain ⟨X, hX, e⟩ := paA_bd (strB ((cutL 62 s.data.toList).getD 0 []))
      have e' : (sideL s).1 = (X : Int) := e
      omega
    · omega
  · unfold pdR
    split
    · obtain ⟨X, hX, e⟩ := paA_bd (strB ((cutL 62 s.data.toList).getD 1 []))
      have e' : (sideR s).1 = (X : Int) := e
      rw [e']
      have h := cols_small ⟨X, hX⟩
      rw [List.all_eq_true] at h
      by_cases hl : 0 < (mems (X : Int)).length
      · have h5 := h ((mems (X : Int)).getD 0 0) (by rw [List.getD_eq_getElem?_getD, List.getElem?_eq_getElem hl]; exact List.getElem_mem _)
        simpa using h5
      · rw [getD_end _ 0 (by omega)]; omega
    · omega
end Go.Proofs.Ytfndnaldgaaieaa
