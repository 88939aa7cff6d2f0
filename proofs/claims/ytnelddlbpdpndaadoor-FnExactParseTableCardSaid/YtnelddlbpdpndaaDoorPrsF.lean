/- The program's ParseTable, by contract. Conditions: as stated; the library's table of powers of ten reads as its initialiser lays it. -/
import Derived.Test.YtnelddlbpdpndaaDoorPrsE
import Derived.Deep.AppendLies
namespace Go.Proofs.YtnelddlbpdpndaaDoor
open Go.RowKit

theorem BoxIs.fresh (w : World) (c : Int) (rv : Value) : BoxIs (w.alloc (.cells #[.int .i64 c, rv] 27)) w.heap.size c rv := by
  unfold BoxIs World.alloc; simp
/-- A string's length. -/
def szS (v : Value) : Nat := match v with | .string s => s.size | _ => 0
theorem BoxIs.far {w w' : World} {T : Nat} {c : Int} {u : Value} {row : Option Nat} (h : BoxIs w T c u) (hg : w.grownBy w' row) (hT : row ≠ some T) : BoxIs w' T c u := (hg.block T h.lt (Ne.symm hT)).trans h
theorem BoxIs.other {w : World} {T : Nat} {c : Int} {u x : Value} {p : Addr} (h : BoxIs w T c u) (hp : T ≠ p.block) : BoxIs (w.setCell p x) T c u := (Below.heap_setCell _ _ _ _ hp).trans h
set_option maxRecDepth 20000 in
set_option maxHeartbeats 6400000 in
theorem implParseTable_any (s : ByteArray) (w : World) (hs : s.size ≤ 1048576) (hT : Tab w.heap.size w) :
    Calls Tryd.prog 11 #[.string s] w (RetPT s w) := by
  obtain ⟨i0, hi, hz0, hz1, hz2⟩ := info_parts infoSj
  have HI : Hid (_ ∧ _ ∧ _ ∧ _) := Lib.hid ⟨hi, hz0, hz1, hz2⟩
  clear hi hz0 hz1 hz2
  have HT := Lib.hid hT
  clear hT
  have hb1 := (Below.refl w.heap.size w).alloc (Nat.le_refl _) (.cells #[.int .i64 0, .slice none 0 0] 27)
  have HB1 := Lib.hid hb1
  have HR0 := Lib.hid (BoxIs.fresh w 0 (.slice none 0 0))
  have HC := Lib.hid (cut_any s 10 (w.alloc (.cells #[.int .i64 0, .slice none 0 0] 27)) hs)
  have sz1 : (w.alloc (.cells #[.int .i64 0, .slice none 0 0] 27)).heap.size = w.heap.size + 1 := by simp
  clear hb1
  go_enter Tryd.func11, Tryd.ntmps11
  go_wp2_with fail
  refine HC.out.mono ?_
  rintro e w2 ⟨p, r, ended, rfl, hcut, hb2⟩
  have HCUT := Lib.hid hcut
  rw [sz1] at hb2
  have s2 := hb2.size
  rw [sz1] at s2
  have HR2 := Lib.hid (HR0.out.kept hb2 (by omega))
  have HW2 := Lib.hid (HB1.out.trans (hb2.mono (by omega)))
  have HH := Lib.hid (parseHead_any ⟨p.toArray⟩ w2)
  have hpe : strV p = .string ⟨p.toArray⟩ := rfl
  clear hcut hb2
  rw [hpe]
  clear hpe
  go_wp2_with fail
  refine HH.out.mono ?_
  rintro e w3 ⟨n, ok, hhd, rfl, hb3⟩
  have HHD : Hid (HeadR p n ok) := Lib.hid hhd
  have s3 := hb3.size
  have HR3 := Lib.hid (HR2.out.kept hb3 (by omega))
  have HW3 := Lib.hid (HW2.out.trans (hb3.mono (by omega)))
  clear hhd hb3
  obtain ⟨⟨d0, d1⟩, g0, g1⟩ := HR3.out.cells
  by_cases hbad : ended = false ∨ ok = false
  · have HE : Hid (parC s = 0 ∧ parR s = [] ∧ parOk s = false) := Lib.hid (by
      refine head_no HCUT.out ?_
      rcases hbad with h | h
      · exact .inl h
      · rcases HHD.out with ⟨_, _, _, _, _, h2⟩ | ⟨h2, -, -⟩
        · rw [h] at h2; cases h2
        · exact .inr h2)
    cases ended with
    | false =>
      clear hbad
      go_wp2_with fail
      refine bodyPost_ret (v := .tuple #[.agg #[.int .i64 0, .slice none 0 0], .bool false]) (by simp [results, Tryd.results11, go_sem, d0, d1]) rfl ⟨.slice none 0 0, by rw [HE.out.1, HE.out.2.2], by rw [HE.out.2.1]; exact OwnSS.nil _ _ _, ?_⟩
      exact (HW3.out.setCell (by simp) _).setCell (by simp) _
    | true =>
      obtain rfl : ok = false := by rcases hbad with h | h; cases h; exact h
      clear hbad
      go_wp2_with fail
      refine bodyPost_ret (v := .tuple #[.agg #[.int .i64 0, .slice none 0 0], .bool false]) (by simp [results, Tryd.results11, go_sem, d0, d1]) rfl ⟨.slice none 0 0, by rw [HE.out.1, HE.out.2.2], by rw [HE.out.2.1]; exact OwnSS.nil _ _ _, ?_⟩
      exact (HW3.out.setCell (by simp) _).setCell (by simp) _
  · obtain rfl : ended = true := by cases ended; exact absurd (.inl rfl) hbad; rfl
    obtain rfl : ok = true := by cases ok; exact absurd (.inr rfl) hbad; rfl
    obtain ⟨C, hC1, hC5, rfl, hlet, -⟩ : ∃ C : Nat, 1 ≤ C ∧ C ≤ 5 ∧ n = (C : Int) ∧ letC (C : Int) = p ∧ true = true := by
      rcases HHD.out with h | ⟨-, -, h⟩
      · exact h
      · cases h
    have HPRE := Lib.hid (head_ok HCUT.out hC1 hC5 hlet)
    have hre : strV r = .string ⟨r.toArray⟩ := rfl
    have hrs : (⟨r.toArray⟩ : ByteArray).size ≤ s.size := by
      have h1 := congrArg List.length HCUT.out.parts.1
      rw [size_list, List.length_append, List.length_cons] at h1
      have h2 : (⟨r.toArray⟩ : ByteArray).size = r.length := by rw [← size_list]
      omega
    rw [hre]
    have hbx := BoxIs.fresh w3 (C : Int) (.slice none 0 0)
    have hR4 := HR3.out.kept ((Below.refl w3.heap.size w3).alloc (Nat.le_refl _) (.cells #[.int .i64 (C : Int), .slice none 0 0] 27)) (by omega)
    have hw4 := HW3.out.alloc (by omega) (.cells #[.int .i64 (C : Int), .slice none 0 0] 27)
    have sz4 : w3.heap.size + 1 ≤ (w3.alloc (.cells #[.int .i64 (C : Int), .slice none 0 0] 27)).heap.size := by simp
    clear hbad hlet hre d0 d1 g0 g1
    go_wp2_with fail
    go_loopw [5] (fun tv wr => ∃ (t : ByteArray) (L : List (List Int)) (rv : Value), tv = .string t ∧ t.size ≤ s.size ∧ Hid (Pre s C L t.data.toList) ∧ Hid (BoxIs wr w3.heap.size (C : Int) rv) ∧ Hid (BoxIs wr w.heap.size 0 (.slice none 0 0)) ∧ Hid (OwnSS wr (w3.heap.size + 1) wr.heap.size rv L) ∧ Below w.heap.size w wr ∧ w3.heap.size + 1 ≤ wr.heap.size) (fun tv _ => szS tv)
    case atStart => exact ⟨⟨r.toArray⟩, [], .slice none 0 0, rfl, hrs, HPRE, Lib.hid hbx, Lib.hid hR4, Lib.hid (OwnSS.nil _ _ _), hw4, sz4⟩
    case round =>
      clear hbx hR4 hw4 sz4 hrs
      obtain ⟨t, L, rv, rfl, hts, HP, HBX, HRB, HSS, hb, hsz⟩ := hrel
      obtain ⟨⟨c0, c1⟩, f0, f1⟩ := HBX.out.cells
      obtain ⟨⟨d0, d1⟩, g0, g1⟩ := HRB.out.cells
      obtain ⟨ra, rcap, rfl, -⟩ := HSS.out.read
      have hL40 := HP.out.len
      by_cases hem : t.data.toList = []
      · have he1 : t.toList.isEmpty = true := by rw [ByteArray.toList_eq, hem]; rfl
        have HDN := Lib.hid (Pre.done (s := s) (C := C) (L := L) (by have := HP.out; rwa [hem] at this))
        have HSR := Lib.hid (((HSS.out.same (((Same.refl _ _ _).setCell (p := ⟨w.heap.size, 0, none⟩) (.inl (by show w.heap.size < _; omega)) (.int .i64 (C : Int))).setCell (p := ⟨w.heap.size, 1, none⟩) (.inl (by show w.heap.size < _; omega)) (.slice ra L.length rcap))).base (B' := w.heap.size) (C' := ((wr.setCell ⟨w.heap.size, 0, none⟩ (.int .i64 (C : Int))).setCell ⟨w.heap.size, 1, none⟩ (.slice ra L.length rcap)).heap.size) (by omega) (by simp)))
        clear hem
        go_wp2_with fail
        refine bodyPost_ret (v := .tuple #[.agg #[.int .i64 (C : Int), .slice ra L.length rcap], .bool true]) (by simp [results, Tryd.results11, go_sem, d0, d1]) rfl ⟨_, by rw [HDN.out.1, HDN.out.2.2], by rw [HDN.out.2.1]; exact HSR.out, ?_⟩
        exact (hb.setCell (by simp) _).setCell (by simp) _
      · have he1 : t.toList.isEmpty = false := by
          rw [ByteArray.toList_eq]
          cases hq : t.data.toList with
          | nil => exact absurd hq hem
          | cons a b => rfl
        have HEM := Lib.hid hem
        have HCT := Lib.hid (cut_any t 10 wr (by omega))
        clear hem
        go_wp2_with fail
        refine HCT.out.mono ?_
        rintro e w5 ⟨lp, lr, le, rfl, hct, hb5⟩
        have HCT2 := Lib.hid hct
        have s5 := hb5.size
        have HBX5 := Lib.hid (HBX.out.kept hb5 (by omega))
        have HRB5 := Lib.hid (HRB.out.kept hb5 (by omega))
        have HSS5 := Lib.hid (HSS.out.same (Below.keeps hb5 (Nat.le_refl _)))
        have hbw5 := hb.trans (hb5.mono (by omega))
        clear hct hb5 c0 c1 f0 f1 d0 d1 g0 g1
        obtain ⟨⟨c0, c1⟩, f0, f1⟩ := HBX5.out.cells
        obtain ⟨⟨d0, d1⟩, g0, g1⟩ := HRB5.out.cells
        have hpe : strV lp = .string ⟨lp.toArray⟩ := rfl
        have hre : strV lr = .string ⟨lr.toArray⟩ := rfl
        rw [hpe, hre]
        clear hpe hre
        cases le with
        | false =>
          have HE := Lib.hid (HP.out.noLine HCT2.out HEM.out)
          go_wp2_with fail
          refine bodyPost_ret (v := .tuple #[.agg #[.int .i64 0, .slice none 0 0], .bool false]) (by simp [results, Tryd.results11, go_sem, d0, d1]) rfl ⟨.slice none 0 0, by rw [HE.out.1, HE.out.2.2], by rw [HE.out.2.1]; exact OwnSS.nil _ _ _, ?_⟩
          exact (hbw5.setCell (by simp) _).setCell (by simp) _
        | true =>
          have hcl := HCT2.out.parts.1
          have hpl : (⟨lp.toArray⟩ : ByteArray).size = lp.length := by rw [← size_list]
          have hrl : (⟨lr.toArray⟩ : ByteArray).size = lr.length := by rw [← size_list]
          have hlens : lp.length + lr.length + 1 = t.size := by have := congrArg List.length hcl; rw [size_list, List.length_append, List.length_cons] at this; omega
          clear hcl
          by_cases h40 : L.length = 40
          · have HE := Lib.hid (HP.out.noRoom h40 HEM.out)
            have h4 : ((L.length : Int) == 40) = true := by rw [h40]; rfl
            clear h40
            go_wp2_with fail
            refine bodyPost_ret (v := .tuple #[.agg #[.int .i64 0, .slice none 0 0], .bool false]) (by simp [results, Tryd.results11, go_sem, d0, d1]) rfl ⟨.slice none 0 0, by rw [HE.out.1, HE.out.2.2], by rw [HE.out.2.1]; exact OwnSS.nil _ _ _, ?_⟩
            exact (hbw5.setCell (by simp) _).setCell (by simp) _
          · have h4 : ((L.length : Int) == 40) = false := by rw [beq_eq_false_iff_ne]; omega
            have h39 : L.length < 40 := by omega
            have HQ := Lib.hid (parseRow_any ⟨lp.toArray⟩ C w5 (by omega) hC1 hC5 (HT.out.at hbw5))
            clear h40
            go_wp2_with fail
            refine HQ.out.mono ?_
            rintro e w6 ⟨hrow, hb6⟩
            have s6 := hb6.size
            have HBX6 := Lib.hid (HBX5.out.kept hb6 (by omega))
            have HRB6 := Lib.hid (HRB5.out.kept hb6 (by omega))
            have HSS6 := Lib.hid (HSS5.out.same (Below.keeps hb6 s5))
            have hbw6 := hbw5.trans (hb6.mono (by omega))
            clear hb6 c0 c1 f0 f1 d0 d1 g0 g1
            obtain ⟨⟨c0, c1⟩, f0, f1⟩ := HBX6.out.cells
            obtain ⟨⟨d0, d1⟩, g0, g1⟩ := HRB6.out.cells
            rcases hrow with ⟨u, q, rfl, hq1, hq2, ho⟩ | ⟨rfl, hno⟩
            · have HPN := Lib.hid (HP.out.snoc HCT2.out h39 hq1 hq2)
              obtain ⟨au, cu, rfl, -⟩ := ho.read
              have hql : q.length = C := hq1.1
              rw [hql]
              rw [hql] at ho
              have hos := HSS6.out.same (w' := w6.alloc (.cells #[.slice au C cu] 39)) (fun k _ hk => Below.heap_alloc _ _ _ (by omega))
              obtain ⟨V, o1, o2, o3, o4⟩ := hos
              have O1 := Lib.hid o1
              have O2 := Lib.hid o2
              have O3 := Lib.hid o3
              have O4 := Lib.hid o4
              have HOU : Hid (OwnI (w6.alloc (.cells #[.slice au C cu] 39)) (w3.heap.size + 1) (.slice au C cu) q) := Lib.hid (OwnI.base (World.ownsRow.alloc ho _) (by omega))
              have HLT := Lib.hid ho.lt
              have c1A := ((BoxIs.far HBX6.out (⟨rfl, rfl, rfl, by simp, fun k hk _ => Below.heap_alloc _ _ _ hk⟩ : w6.grownBy (w6.alloc (.cells #[.slice au C cu] 39)) none) (by simp)).cells).1.2
              clear o1 o2 o3 o4 hq1 hq2 ho
              go_wp2_with (at_builtin; refine wpList_append_own _ rfl _ _ 22 rfl (w3.heap.size + 1) 39 i0 (.slice none 0 0) 1 24 Tryd.underlying22 HI.out.1 HI.out.2.1 HI.out.2.2.1 HI.out.2.2.2 rfl (by decide) _ _ _ rfl O1.out ⟨w6.heap.size, 0, none⟩ 1 1 [.slice au C cu] rfl rfl (cell_one_new _ _ _) (one_slice _ _ _) (by unfold maxLen; omega) (by omega) (by simp; omega) ?_; intro v' w7 hown' hgrow _; have HBX7 := Lib.hid (box_grown HBX6.out hgrow O1.out); have HRB7 := Lib.hid (BoxIs.far (BoxIs.far HRB6.out (⟨rfl, rfl, rfl, by simp, fun k hk _ => Below.heap_alloc _ _ _ hk⟩ : w6.grownBy (w6.alloc (.cells #[.slice au C cu] 39)) none) (by simp)) hgrow (fun e => by have := (World.ownsRow.lt O1.out _ e).1; omega)); have HO7 := Lib.hid hown'; have HG7 := Lib.hid hgrow; obtain ⟨a7, c7, rfl⟩ := row_form hown'; clear hown' hgrow; obtain ⟨⟨k0, k1⟩, k2, k3⟩ := HBX7.out.cells)
              have s7 := HG7.out.size
              rw [World.size_alloc] at s7
              have HSN := Lib.hid (OwnSS.snocV O1.out O2.out O3.out O4.out HOU.out (C' := w7.heap.size) (fun k hk => by have := HLT.out k hk; exact ⟨by omega, by omega⟩) HO7.out HG7.out (by omega) (fun k hk => (World.ownsRow.lt HO7.out k hk).2))
              have HSN2 : Hid (OwnSS (w7.setCell ⟨w3.heap.size, 1, none⟩ (.slice a7 (L.length + 1) c7)) (w3.heap.size + 1) (w7.setCell ⟨w3.heap.size, 1, none⟩ (.slice a7 (L.length + 1) c7)).heap.size (.slice a7 (L.length + 1) c7) (L ++ [q])) := Lib.hid ((HSN.out.same ((Same.refl _ _ _).setCell (p := ⟨w3.heap.size, 1, none⟩) (.inl (by show w3.heap.size < _; omega)) (.slice a7 (L.length + 1) c7))).base (Nat.le_refl _) (by simp))
              have hbw7 := ((hbw6.alloc (by omega) (.cells #[.slice au C cu] 39)).grown HG7.out (by simp; omega) (fun k hk => by have := (World.ownsRow.lt O1.out k hk).1; omega)).setCell (p := ⟨w3.heap.size, 1, none⟩) (by show w.heap.size ≤ w3.heap.size; omega) (.slice a7 (L.length + 1) c7)
              go_roundw
              case rel => exact ⟨⟨lr.toArray⟩, L ++ [q], _, rfl, by omega, HPN, Lib.hid HBX7.out.set, Lib.hid (HRB7.out.other (by show w.heap.size ≠ w3.heap.size; omega)), HSN2, hbw7, by simp; omega⟩
              case measure => show (⟨lr.toArray⟩ : ByteArray).size < t.size; omega
            · have HE := Lib.hid (HP.out.noRow HCT2.out hno)
              clear hno
              go_wp2_with fail
              refine bodyPost_ret (v := .tuple #[.agg #[.int .i64 0, .slice none 0 0], .bool false]) (by simp [results, Tryd.results11, go_sem, d0, d1]) rfl ⟨.slice none 0 0, by rw [HE.out.1, HE.out.2.2], by rw [HE.out.2.1]; exact OwnSS.nil _ _ _, ?_⟩
              exact (hbw6.setCell (by simp) _).setCell (by simp) _
end Go.Proofs.YtnelddlbpdpndaaDoor
