/- The program's ParseDep, by contract. Conditions: as stated. -/
import Derived.Test.YtficnbeciohpfaaDepF
import Derived.Test.YtficnbeciohpfaaDdA
import Derived.Test.YtficnbeciohpfaaImB
import Derived.Test.YtficnbeciohpfaaImD
import Derived.Test.YtficnbeciohpfaaPrsB
namespace Go.Proofs.Ytficnbeciohpfaa
open Go.RowKit

theorem implParseF_any (s : ByteArray) (w : World) :
    Calls Try.prog 51 #[.string s] w fun e w' => e = .returned (.tuple #[.int .i64 (paA s).1, .bool (paA s).2]) ∧ Below w.heap.size w w' := by
  refine (implParseA_any s w).mono ?_
  rintro e w' ⟨x, ok, h, rfl, hb⟩
  obtain ⟨rfl, rfl⟩ := paA_eq h
  exact ⟨rfl, hb⟩
theorem paA_bd (s : ByteArray) : ∃ X : Nat, X < 32 ∧ (paA s).1 = (X : Int) := by
  rcases paA_is s with ⟨X, hX, h, -⟩ | ⟨-, h, -⟩
  · exact ⟨X, hX, h⟩
  · exact ⟨0, by omega, h⟩
theorem texts_no62 : ∀ j : Fin 32, ((fmtA ((j.val : Nat) : Int)).data.toList.all fun c => c != 62) = true := by decide +kernel
theorem paA_no62 {s : ByteArray} (h : (paA s).2 = true) : ∀ x ∈ s.data.toList, x ≠ 62 := by
  rcases paA_is s with ⟨X, hX, -, ht, -⟩ | ⟨-, -, h'⟩
  · have he : (fmtA (X : Int)).data.toList = s.data.toList := by
      have ht' : (fmtA (X : Int)).toList = s.toList := by
        unfold isTx at ht
        simpa using ht
      rw [ByteArray.toList_eq, ByteArray.toList_eq] at ht'
      exact ht'
    have := texts_no62 ⟨X, hX⟩
    rw [List.all_eq_true] at this
    intro x hx
    have h3 := this x (by rw [he]; exact hx)
    simpa using h3
  · rw [h'] at h; cases h
/-- The column that a letter names. -/
noncomputable def colOk (s : ByteArray) : Bool := (paA s).2 && decide (cnt (paA s).1 = 1)
noncomputable def colI (s : ByteArray) : Int := if colOk s = true then (mems (paA s).1).getD 0 0 else 0
theorem cols_small : ∀ j : Fin 32, ((mems ((j.val : Nat) : Int)).all fun x => decide (0 ≤ x ∧ x ≤ 5)) = true := by decide +kernel
theorem cnt_mems (x : Int) : cnt x = (mems x).length := rfl
set_option maxHeartbeats 800000 in
theorem parseColumn_any (s : ByteArray) (w : World) :
    Calls Try.prog 52 #[.string s] w fun e w' => e = .returned (.tuple #[.int .i64 (colI s), .bool (colOk s)]) ∧ Below w.heap.size w w' := by
  have HX := Lib.hid (implParseF_any s)
  obtain ⟨X, hX, hx⟩ := paA_bd s
  have HM := Lib.hid (members_any X hX)
  have hc : colOk s = ((paA s).2 && decide ((mems (X : Int)).length = 1)) := by unfold colOk; rw [hx, cnt_mems]
  have hi : colI s = if colOk s = true then (mems (X : Int)).getD 0 0 else 0 := by unfold colI; rw [hx]
  rw [hx] at HX
  obtain ⟨ok, hok⟩ : ∃ ok, ok = (paA s).2 := ⟨_, rfl⟩
  rw [← hok] at HX hc
  obtain ⟨l, hl⟩ : ∃ l, l = mems (X : Int) := ⟨_, rfl⟩
  rw [← hl] at HM hc hi
  clear hx hok hl
  cases ok with
  | false =>
    have HE : Hid (colOk s = false ∧ colI s = 0) := Lib.hid ⟨by rw [hc]; rfl, by rw [hi, hc]; rfl⟩
    clear hc hi
    go_enter Try.func52, Try.ntmps52
    go_wp2_with fail
    refine (HX.out _).mono ?_
    rintro e w1 ⟨rfl, b1⟩
    go_wp2_with fail
    refine (HM.out _).mono ?_
    rintro e w2 ⟨v, rfl, ho, b2⟩
    have hb := b1.trans (b2.mono b1.size)
    clear b1 b2
    obtain ⟨a, cap, rfl, -⟩ := ho.read
    go_wp2_with fail
    go_ret2
    exact ⟨by rw [HE.out.1, HE.out.2]; rfl, hb⟩
  | true =>
    by_cases h1 : l.length = 1
    · obtain ⟨z, rfl⟩ : ∃ z, l = [z] := by
        match l, h1 with
        | [z], _ => exact ⟨z, rfl⟩
      have HE : Hid (colOk s = true ∧ colI s = z) := Lib.hid ⟨by rw [hc]; rfl, by rw [hi, hc]; rfl⟩
      clear hc hi h1
      go_enter Try.func52, Try.ntmps52
      go_wp2_with fail
      refine (HX.out _).mono ?_
      rintro e w1 ⟨rfl, b1⟩
      go_wp2_with fail
      refine (HM.out _).mono ?_
      rintro e w2 ⟨v, rfl, ho, b2⟩
      have hb := b1.trans (b2.mono b1.size)
      clear b1 b2
      obtain ⟨a, cap, rfl, hrm⟩ := ho.read
      obtain ⟨xm, rfl, hym⟩ := hrm 0 (by simp)
      have hym : w2.cell? xm = some (.int .i64 z) := by have := hym; rw [Addr.add_zero'] at this; exact this
      clear hrm ho
      go_wp2_with fail
      go_ret2
      exact ⟨by rw [HE.out.1, HE.out.2]; rfl, hb⟩
    · have HE : Hid (colOk s = false ∧ colI s = 0) := Lib.hid (by
        have : colOk s = false := by rw [hc, decide_eq_false h1]; rfl
        exact ⟨this, by rw [hi, this]; rfl⟩)
      have hne : ((l.length : Int) != 1) = true := by rw [bne_iff_ne]; omega
      clear hc hi h1
      go_enter Try.func52, Try.ntmps52
      go_wp2_with fail
      refine (HX.out _).mono ?_
      rintro e w1 ⟨rfl, b1⟩
      go_wp2_with fail
      refine (HM.out _).mono ?_
      rintro e w2 ⟨v, rfl, ho, b2⟩
      have hb := b1.trans (b2.mono b1.size)
      clear b1 b2
      obtain ⟨a, cap, rfl, -⟩ := ho.read
      go_wp2_with fail
      go_ret2
      exact ⟨by rw [HE.out.1, HE.out.2]; rfl, hb⟩
theorem parseD_eq (n : Int) {s : ByteArray} {p r : List UInt8} {ended : Bool} (h : CutR 62 s.data.toList p r ended) :
    okP n s = (ended && ((paA (strB p)).2 && (colOk (strB r) && depB n (paA (strB p)).1 (colI (strB r))))) ∧ pdL n s = (if okP n s = true then (paA (strB p)).1 else 0) ∧ pdR n s = (if okP n s = true then colI (strB r) else 0) := by
  cases ended with
  | false =>
    have h1 : okP n s = false := by unfold okP; rw [h.whole]; rfl
    refine ⟨h1, ?_, ?_⟩
    · unfold pdL; rw [h1]; rfl
    · unfold pdR; rw [h1]; rfl
  | true =>
    obtain ⟨h1, h2⟩ := h.parts
    by_cases hr : ∀ x ∈ r, x ≠ 62
    · have h3 : cutL 62 s.data.toList = [p, r] := by rw [h2, cutL_end 62 r hr]
      have hL : sideL s = paA (strB p) := by unfold sideL; rw [h3]; rfl
      have hR : sideR s = paA (strB r) := by unfold sideR; rw [h3]; rfl
      have hcol : colOk (strB r) = true → colI (strB r) = (mems (paA (strB r)).1).getD 0 0 := fun e => by unfold colI; rw [if_pos e]
      have hok : okP n s = ((paA (strB p)).2 && (colOk (strB r) && depB n (paA (strB p)).1 (colI (strB r)))) := by
        unfold okP
        rw [h3, hL, hR]
        unfold colI colOk
        cases (paA (strB p)).2 <;> cases (paA (strB r)).2 <;> by_cases hq : cnt (paA (strB r)).1 = 1 <;> simp [hq]
      refine ⟨hok, ?_, ?_⟩
      · unfold pdL; rw [hL]
      · unfold pdR
        rw [hR]
        by_cases e : okP n s = true
        · rw [if_pos e, if_pos e]
          rw [hok] at e
          simp only [Bool.and_eq_true] at e
          exact (hcol e.2.1).symm
        · rw [if_neg e, if_neg e]
    · have h4 : (paA (strB r)).2 = false := by
        cases e : (paA (strB r)).2 with
        | false => rfl
        | true => exact absurd (fun x hx => paA_no62 e x (by simpa [strB] using hx)) hr
      have h5 : colOk (strB r) = false := by unfold colOk; rw [h4]; rfl
      have h6 : (cutL 62 s.data.toList).length ≠ 2 := by
        rw [h2, List.length_cons]
        intro e
        have hl : (cutL 62 r).length = 1 := by omega
        obtain ⟨q, hq⟩ : ∃ q, cutL 62 r = [q] := by
          match h : cutL 62 r, hl with
          | [q], _ => exact ⟨q, rfl⟩
        have hj := joinL_cut 62 r
        rw [hq] at hj
        have hqr : q = r := by simpa [joinL] using hj
        refine hr fun x hx e => ?_
        subst e
        obtain ⟨a, b, hab⟩ := List.append_of_mem hx
        rw [hab, cutL_append] at hl
        have l1 : 0 < (cutL 62 a).length := List.length_pos_iff.2 (cutL_ne 62 a)
        have l2 : 0 < (cutL 62 b).length := List.length_pos_iff.2 (cutL_ne 62 b)
        rw [List.length_append] at hl
        omega
      have h7 : okP n s = false := by unfold okP; rw [decide_eq_false h6]; rfl
      refine ⟨by rw [h7, h5]; simp, ?_, ?_⟩
      · unfold pdL; rw [h7]; rfl
      · unfold pdR; rw [h7]; rfl
section
set_option maxRecDepth 20000
set_option maxHeartbeats 3200000
theorem implParseDep_any (n : Int) (s : ByteArray) (_w0 : (Lit.int .i64 n).wf = true) (w : World) (hs : s.size ≤ 1048576) :
    Calls Try.prog 25 #[.int .i64 n, .string s] w fun e w' => e = .returned (.tuple #[.agg #[.int .i64 (pdL n s), .int .i64 (pdR n s)], .bool (okP n s)]) ∧ Below w.heap.size w w' := by
  have HC := Lib.hid (fun w' => cut_any s 62 w' hs)
  have hb1 := (Below.refl w.heap.size w).alloc (Nat.le_refl _) (.cells #[.int .i64 0, .int .i64 0] 25)
  have HBX := Lib.hid (fun w' (hb : Below (w.alloc (.cells #[.int .i64 0, .int .i64 0] 25)).heap.size (w.alloc (.cells #[.int .i64 0, .int .i64 0] 25)) w') => And.intro (hb1.trans (hb.mono hb1.size)) (box2 hb))
  have HRF := Lib.hid (Below.refl (w.alloc (.cells #[.int .i64 0, .int .i64 0] 25)).heap.size (w.alloc (.cells #[.int .i64 0, .int .i64 0] 25)))
  clear hb1
  go_enter Try.func25, Try.ntmps25
  go_wp2_with fail
  refine (HC.out _).mono ?_
  rintro e w1 ⟨p, r, ended, rfl, hc, b1⟩
  obtain ⟨hok, hpl, hpr⟩ := parseD_eq n hc
  have kb := HRF.out.trans (b1.mono HRF.out.size)
  have HX := Lib.hid (implParseF_any (strB p))
  have HY := Lib.hid (parseColumn_any (strB r))
  have HXW := Lib.hid (paA_bd (strB p))
  obtain ⟨⟨x, one⟩, hx⟩ : ∃ z, z = paA (strB p) := ⟨_, rfl⟩
  obtain ⟨y, hy⟩ : ∃ y, y = colI (strB r) := ⟨_, rfl⟩
  obtain ⟨two, ht⟩ : ∃ two, two = colOk (strB r) := ⟨_, rfl⟩
  rw [← hx] at HX hok hpl HXW
  rw [← hy] at HY hok hpr
  rw [← ht] at HY hok
  have HYB : Hid (0 ≤ y ∧ y ≤ 5) := Lib.hid (by
    rw [hy]
    unfold colI
    split
    · next h =>
      obtain ⟨Z, hZ, hz⟩ := paA_bd (strB r)
      unfold colOk at h
      rw [Bool.and_eq_true, decide_eq_true_iff, cnt_mems] at h
      rw [hz] at h ⊢
      have hm : (mems (Z : Int)).getD 0 0 ∈ mems (Z : Int) := by
        rw [List.getD_eq_getElem?_getD, List.getElem?_eq_getElem (by omega)]
        exact List.getElem_mem _
      have := cols_small ⟨Z, hZ⟩
      rw [List.all_eq_true] at this
      have h5 := this _ hm
      rw [decide_eq_true_iff] at h5
      exact h5
    · omega)
  simp only at HX hok hpl HXW
  clear hx hy ht hc b1
  go_wp2_with fail
  refine (HX.out _).mono ?_
  rintro e w2 ⟨rfl, b2⟩
  replace kb := kb.trans (b2.mono kb.size)
  clear b2
  go_wp2_with fail
  refine (HY.out _).mono ?_
  rintro e w3 ⟨rfl, b2⟩
  replace kb := kb.trans (b2.mono kb.size)
  clear b2
  have bD := (Below.refl w3.heap.size w3).alloc (Nat.le_refl _) (.cells #[.int .i64 x, .int .i64 y] 25)
  have HDB := Lib.hid (fun w' (hb : Below (w3.alloc (.cells #[.int .i64 x, .int .i64 y] 25)).heap.size (w3.alloc (.cells #[.int .i64 x, .int .i64 y] 25)) w') => box2 hb)
  have hx0 : -9223372036854775808 ≤ x ∧ x ≤ 9223372036854775807 := by
    obtain ⟨X, hX, e⟩ := HXW.out
    have : x = (X : Int) := e
    omega
  have HI := Lib.hid (implIsDep_any n x y _w0 (WalkArith.wf_i64 (by omega)) (WalkArith.wf_i64 (by have := HYB.out; omega)))
  replace kb := kb.trans (bD.mono kb.size)
  clear bD hx0
  obtain ⟨hb1, c0, c1⟩ := HBX.out _ kb
  obtain ⟨f0, f1⟩ := fz2 kb
  obtain ⟨d0, d1⟩ := zero2 w3 25 (.int .i64 x) (.int .i64 y)
  cases ended with
  | false =>
    have HE : Hid (okP n s = false ∧ pdL n s = 0 ∧ pdR n s = 0) := Lib.hid (by rw [hpl, hpr, hok]; exact ⟨rfl, rfl, rfl⟩)
    obtain ⟨r0, r1⟩ := res2 (.int .i64 0) (.int .i64 0) c0 c1
    have hbe := (hb1.setCell (p := ⟨w.heap.size, 0, none⟩) (Nat.le_refl _) (.int .i64 0)).setCell (p := ⟨w.heap.size, 1, none⟩) (Nat.le_refl _) (.int .i64 0)
    clear hok hpl hpr
    go_wp2_with fail
    exact bodyPost_ret (v := .tuple #[.agg #[.int .i64 0, .int .i64 0], .bool false]) (by simp [results, Try.results25, go_sem, r0, r1]) rfl ⟨by rw [HE.out.1, HE.out.2.1, HE.out.2.2], hbe⟩
  | true =>
    cases one with
    | false =>
      have HE : Hid (okP n s = false ∧ pdL n s = 0 ∧ pdR n s = 0) := Lib.hid (by rw [hpl, hpr, hok]; exact ⟨rfl, rfl, rfl⟩)
      obtain ⟨r0, r1⟩ := res2 (.int .i64 0) (.int .i64 0) c0 c1
      have hbe := (hb1.setCell (p := ⟨w.heap.size, 0, none⟩) (Nat.le_refl _) (.int .i64 0)).setCell (p := ⟨w.heap.size, 1, none⟩) (Nat.le_refl _) (.int .i64 0)
      clear hok hpl hpr
      go_wp2_with fail
      exact bodyPost_ret (v := .tuple #[.agg #[.int .i64 0, .int .i64 0], .bool false]) (by simp [results, Try.results25, go_sem, r0, r1]) rfl ⟨by rw [HE.out.1, HE.out.2.1, HE.out.2.2], hbe⟩
    | true =>
      cases two with
      | false =>
        have HE : Hid (okP n s = false ∧ pdL n s = 0 ∧ pdR n s = 0) := Lib.hid (by rw [hpl, hpr, hok]; exact ⟨rfl, rfl, rfl⟩)
        obtain ⟨r0, r1⟩ := res2 (.int .i64 0) (.int .i64 0) c0 c1
        have hbe := (hb1.setCell (p := ⟨w.heap.size, 0, none⟩) (Nat.le_refl _) (.int .i64 0)).setCell (p := ⟨w.heap.size, 1, none⟩) (Nat.le_refl _) (.int .i64 0)
        clear hok hpl hpr
        go_wp2_with fail
        exact bodyPost_ret (v := .tuple #[.agg #[.int .i64 0, .int .i64 0], .bool false]) (by simp [results, Try.results25, go_sem, r0, r1]) rfl ⟨by rw [HE.out.1, HE.out.2.1, HE.out.2.2], hbe⟩
      | true =>
        cases hdp : depB n x y with
        | false =>
          rw [hdp] at hok HI
          have HE : Hid (okP n s = false ∧ pdL n s = 0 ∧ pdR n s = 0) := Lib.hid (by rw [hpl, hpr, hok]; exact ⟨rfl, rfl, rfl⟩)
          clear hok hpl hpr hdp
          go_wp2_with fail
          refine (HI.out _).mono ?_
          rintro e w4 ⟨rfl, b4⟩
          replace kb := kb.trans (b4.mono kb.size)
          clear c0 c1 f0 f1 hb1 d0 d1
          obtain ⟨hb1, c0, c1⟩ := HBX.out _ kb
          obtain ⟨f0, f1⟩ := fz2 kb
          obtain ⟨r0, r1⟩ := res2 (.int .i64 0) (.int .i64 0) c0 c1
          have hbe := (hb1.setCell (p := ⟨w.heap.size, 0, none⟩) (Nat.le_refl _) (.int .i64 0)).setCell (p := ⟨w.heap.size, 1, none⟩) (Nat.le_refl _) (.int .i64 0)
          clear b4
          go_wp2_with fail
          exact bodyPost_ret (v := .tuple #[.agg #[.int .i64 0, .int .i64 0], .bool false]) (by simp [results, Try.results25, go_sem, r0, r1]) rfl ⟨by rw [HE.out.1, HE.out.2.1, HE.out.2.2], hbe⟩
        | true =>
          rw [hdp] at hok HI
          have hok2 : okP n s = true := by rw [hok]; rfl
          have HE : Hid (okP n s = true ∧ pdL n s = x ∧ pdR n s = y) := Lib.hid ⟨hok2, by rw [hpl, if_pos hok2], by rw [hpr, if_pos hok2]⟩
          clear hok hpl hpr hdp hok2
          go_wp2_with fail
          refine (HI.out _).mono ?_
          rintro e w4 ⟨rfl, b4⟩
          replace kb := kb.trans (b4.mono kb.size)
          clear c0 c1 f0 f1 hb1 d0 d1
          obtain ⟨hb1, c0, c1⟩ := HBX.out _ kb
          obtain ⟨f0, f1⟩ := fz2 kb
          obtain ⟨d0, d1⟩ := HDB.out _ b4
          obtain ⟨r0, r1⟩ := res2 (.int .i64 x) (.int .i64 y) c0 c1
          have hbe := (hb1.setCell (p := ⟨w.heap.size, 0, none⟩) (Nat.le_refl _) (.int .i64 x)).setCell (p := ⟨w.heap.size, 1, none⟩) (Nat.le_refl _) (.int .i64 y)
          clear b4
          go_wp2_with fail
          exact bodyPost_ret (v := .tuple #[.agg #[.int .i64 x, .int .i64 y], .bool true]) (by simp [results, Try.results25, go_sem, r0, r1]) rfl ⟨by rw [HE.out.1, HE.out.2.1, HE.out.2.2], hbe⟩
end
end Go.Proofs.Ytficnbeciohpfaa
