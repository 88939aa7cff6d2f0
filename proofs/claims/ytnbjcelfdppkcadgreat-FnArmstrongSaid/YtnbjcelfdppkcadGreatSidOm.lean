/- The sides of all rows: sidesOf, by contract. Conditions: as stated. -/
import Derived.Test.YtnbjcelfdppkcadGreatXz42
import Derived.Test.YtnbjcelfdppkcadGreatXz37
import Derived.Test.YtnbjcelfdppkcadGreatXz15
import Derived.Test.YtnbjcelfdppkcadGreatDepDm
import Derived.Deep.AppendLies
import Derived.Deep.RegionLaw
namespace Go.Proofs.YtnbjcelfdppkcadGreat
open Go.RowKit

theorem okD_parts {c m l r : Int} {ll : List (List Int)} : okD c ll m l r = (modeOk m && (isT c ll && depB c l r)) := by
  unfold okD fineT
  cases modeOk m <;> cases isT c ll <;> rfl
theorem modeOk_two6 {m : Int} (h : modeOk m = true) : m = 0 ∨ m = 1 := by simpa [modeOk] using h
theorem isA_nat6 {c s : Int} (h : isA c s = true) (h5 : 1 ≤ c ∧ c ≤ 5) : ∃ S : Nat, s = (S : Int) ∧ S < 2 ^ c.toNat ∧ S < 32 := by
  obtain ⟨C, rfl⟩ : ∃ C : Nat, c = (C : Int) := ⟨c.toNat, by omega⟩
  obtain ⟨S, rfl, hC, hS⟩ := isA_nat h
  exact ⟨S, rfl, by rw [show ((C : Int)).toNat = C by omega]; exact hS, pow_lt32 hC hS⟩
theorem okD_facts {c m l r : Int} {ll : List (List Int)} (h : okD c ll m l r = true) : isT c ll = true ∧ (m = 0 ∨ m = 1) ∧ ∃ L R : Nat, l = (L : Int) ∧ r = (R : Int) ∧ L < 2 ^ c.toNat ∧ R < c.toNat := by
  rw [okD_parts, Bool.and_eq_true, Bool.and_eq_true] at h
  obtain ⟨hm, hT, hd⟩ := h
  obtain ⟨hc1, hc5, -⟩ := isT_bd hT
  have hdd := depB_iff.1 hd
  obtain ⟨L, rfl, hL, -⟩ := isA_nat6 hdd.2.1 ⟨hc1, hc5⟩
  exact ⟨hT, modeOk_two6 hm, L, r.toNat, rfl, by omega, hL, by omega⟩
/-- Sides of the call's own. -/
def RetSd (ok : Bool) (l : List (List Int)) (w : World) (e : Ending) (w' : World) : Prop := ∃ u, e = .returned (.tuple #[u, .bool ok]) ∧ OwnSd w' w.heap.size u l ∧ Below w.heap.size w w'
theorem six_new (w : World) (T : TypeId) (vs : List Value) : ∀ j u, vs[j]? = some u → (w.alloc (.cells vs.toArray T)).cell? ((⟨w.heap.size, 0, none⟩ : Addr).add j) = some u := by
  intro j u hj
  rw [add_zero_off, World.cell?_alloc_mark w vs.toArray T (0, 0) j]
  simpa using hj
theorem ownsRow_down6 {w : World} {base base' : Nat} {e : TypeId} {size : Nat} {v : Value} {n : Nat} {xs : List Value} (h : w.ownsRow base e size v n xs) (hb : base' ≤ base) : w.ownsRow base' e size v n xs := by
  refine ⟨h.1, ?_⟩
  rcases h.2 with h' | ⟨g, cap, cur, e1, hB, rest⟩
  · exact .inl h'
  · exact .inr ⟨g, cap, cur, e1, Nat.le_trans hb hB, rest⟩
theorem six_one (a0 a1 a2 a3 a4 a5 : Int) : ∀ u ∈ [Value.int .i64 a0, .int .i64 a1, .int .i64 a2, .int .i64 a3, .int .i64 a4, .int .i64 a5], u.oneCell' = true := by
  intro u hu
  simp only [List.mem_cons, List.not_mem_nil, or_false] at hu
  rcases hu with rfl | rfl | rfl | rfl | rfl | rfl <;> rfl
theorem RecAt.cells6 {w : World} {b : Nat} {r : List Int} (h : RecAt w b r) (hr : (pad5 r) = [r.getD 0 0, r.getD 1 0, r.getD 2 0, r.getD 3 0, r.getD 4 0]) : ∃ a0 a1 a2 a3 a4 : Int, pad5 r = [a0, a1, a2, a3, a4] ∧ w.cell? ⟨b, 0, none⟩ = some (.int .i64 a0) ∧ w.cell? ⟨b, 1, none⟩ = some (.int .i64 a1) ∧ w.cell? ⟨b, 2, none⟩ = some (.int .i64 a2) ∧ w.cell? ⟨b, 3, none⟩ = some (.int .i64 a3) ∧ w.cell? ⟨b, 4, none⟩ = some (.int .i64 a4) :=
  ⟨_, _, _, _, _, hr, (h 0 (by omega)).1, (h 1 (by omega)).1, (h 2 (by omega)).1, (h 3 (by omega)).1, (h 4 (by omega)).1⟩
set_option maxRecDepth 20000 in
set_option maxHeartbeats 3200000 in
theorem sidesOf_any (c m l r : Int) (v : Value) (ll : List (List Int)) (_w1 : (Lit.int .i64 m).wf = true) (_w2 : (Lit.int .i64 l).wf = true) (_w3 : (Lit.int .i64 r).wf = true) (w : World) (hr : ReadSS w v ll) (hl : ll.length ≤ 1048576) (ht : ∀ i, i < ll.length → (ll.getD i []).length ≤ 1048576) :
    Calls Tryz.prog 82 #[.agg #[.int .i64 c, v], .int .i64 m, .agg #[.int .i64 l, .int .i64 r]] w (RetSd (okD c ll m l r) (if okD c ll m l r = true then sdL m ll l.toNat r.toNat ll.length else []) w) := by
  have HO := Lib.hid (eqOf_any m)
  have HV := Lib.hid (fun w' (hb : Below w.heap.size w w') => implIsTable_any c v ll w' (hr.kept hb) hl ht)
  have HR := Lib.hid (fun w' (hb : Below w.heap.size w w') => hr.kept hb)
  have hE := okD_parts (c := c) (m := m) (l := l) (r := r) (ll := ll)
  obtain ⟨a, cap, rfl, -⟩ := hr
  have hb1 := (Below.refl w.heap.size w).alloc (Nat.le_refl _) (.cells #[.int .i64 c, .slice a ll.length cap] 29)
  have hb2 := hb1.alloc hb1.size (.cells #[.int .i64 l, .int .i64 r] 35)
  have HB2 := Lib.hid hb2
  have HRF := Lib.hid (Below.refl ((w.alloc (.cells #[.int .i64 c, .slice a ll.length cap] 29)).alloc (.cells #[.int .i64 l, .int .i64 r] 35)).heap.size ((w.alloc (.cells #[.int .i64 c, .slice a ll.length cap] 29)).alloc (.cells #[.int .i64 l, .int .i64 r] 35)))
  clear hb1 hb2
  obtain ⟨⟨c0, c1⟩, d0, d1⟩ := boxTD HRF.out
  obtain ⟨F, hF⟩ : ∃ F, eqFn m = F := ⟨_, rfl⟩
  cases hm : modeOk m with
  | false =>
    have HE : Hid (okD c ll m l r = false) := Lib.hid (by rw [hE, hm]; rfl)
    rw [HE.out]
    rw [hm, hF] at HO
    clear hm hF hE
    go_enter Tryz.func82, Tryz.ntmps82
    go_wp2_with fail
    refine (HO.out _).mono ?_
    rintro e w' ⟨rfl, rfl⟩
    go_wp2_with fail
    go_ret2
    exact ⟨_, rfl, OwnSd.nil _ _, HB2.out⟩
  | true =>
    have hmm := modeOk_two6 hm
    rw [hm, hF] at HO
    cases hv : isT c ll with
    | false =>
      have HE : Hid (okD c ll m l r = false) := Lib.hid (by rw [hE, hv]; simp)
      rw [HE.out]
      rw [hv] at HV
      clear hm hF hmm hv hE
      go_enter Tryz.func82, Tryz.ntmps82
      go_wp2_with fail
      refine (HO.out _).mono ?_
      rintro e w' ⟨rfl, rfl⟩
      go_wp2_with fail
      refine (HV.out _ HB2.out).mono ?_
      rintro e w' ⟨rfl, b⟩
      have hb2 := HB2.out.trans (b.mono HB2.out.size)
      clear b
      go_wp2_with fail
      go_ret2
      exact ⟨_, rfl, OwnSd.nil _ _, hb2⟩
    | true =>
      rw [hv] at HV
      have HI := Lib.hid (implIsDep_any c l r (WalkArith.wf_i64 (by have := isT_bd hv; omega)) _w2 _w3)
      cases hd : depB c l r with
      | false =>
        have HE : Hid (okD c ll m l r = false) := Lib.hid (by rw [hE, hd]; simp)
        rw [HE.out]
        rw [hd] at HI
        clear hm hF hmm hv hE hd
        go_enter Tryz.func82, Tryz.ntmps82
        go_wp2_with fail
        refine (HO.out _).mono ?_
        rintro e w' ⟨rfl, rfl⟩
        go_wp2_with fail
        refine (HV.out _ HB2.out).mono ?_
        rintro e w' ⟨rfl, b⟩
        have hbr := HRF.out.trans (b.mono HRF.out.size)
        clear c0 c1 d0 d1 b
        obtain ⟨⟨c0, c1⟩, d0, d1⟩ := boxTD hbr
        go_wp2_with fail
        refine (HI.out _).mono ?_
        rintro e w3 ⟨rfl, b⟩
        have hb3 := HB2.out.trans ((hbr.trans (b.mono hbr.size)).mono HB2.out.size)
        clear b
        go_wp2_with fail
        go_ret2
        exact ⟨_, rfl, OwnSd.nil _ _, hb3⟩
      | true =>
        rw [hd] at HI
        have HE : Hid (okD c ll m l r = true) := Lib.hid (by rw [hE, hm, hv, hd]; rfl)
        rw [HE.out]
        rw [if_pos rfl]
        obtain ⟨hc1, hc5, h40⟩ := isT_bd hv
        have hdd := depB_iff.1 hd
        obtain ⟨L, rfl, hL, hL32⟩ := isA_nat6 hdd.2.1 ⟨hc1, hc5⟩
        obtain ⟨R, rfl⟩ : ∃ R : Nat, r = (R : Int) := ⟨r.toNat, by omega⟩
        rw [show ((L : Int)).toNat = L from rfl, show ((R : Int)).toNat = R from rfl]
        have hRc : R < c.toNat := by omega
        obtain ⟨j0, hj, hz0, hz1, hz2⟩ := info_parts infoSd
        have HJ : Hid (_ ∧ _ ∧ _ ∧ _) := Lib.hid ⟨hj, hz0, hz1, hz2⟩
        have HM := Lib.hid (members_any L hL32)
        have HROW := Lib.hid (fun i (hi : i < ll.length) => (isT_row hv hi).1)
        have HMI := Lib.hid (fun i (hi : i < ll.length) => mems_in (i := i) hv hL hi)
        have HTL := Lib.hid (fun i (hi : i < ll.length) => tld_get m hi)
        have HTP := Lib.hid (fun i u w' (hi : i < ll.length) (hu : ReadI w' u (ll.getD i [])) => toldApart_any m hmm u (ll.getD i []) i w' hu (by have := HROW.out i hi; omega) (by omega))
        rw [hF] at HTP
        clear hm hF hmm hv hE hd hdd hL hj hz0 hz1 hz2
        go_enter Tryz.func82, Tryz.ntmps82
        go_wp2_with fail
        refine (HO.out _).mono ?_
        rintro e w' ⟨rfl, rfl⟩
        go_wp2_with fail
        refine (HV.out _ HB2.out).mono ?_
        rintro e w' ⟨rfl, b⟩
        have hbr := HRF.out.trans (b.mono HRF.out.size)
        clear c0 c1 d0 d1 b
        obtain ⟨⟨c0, c1⟩, d0, d1⟩ := boxTD hbr
        go_wp2_with fail
        refine (HI.out _).mono ?_
        rintro e w3 ⟨rfl, b⟩
        replace hbr := hbr.trans (b.mono hbr.size)
        clear c0 c1 d0 d1 b
        obtain ⟨⟨c0, c1⟩, d0, d1⟩ := boxTD hbr
        go_wp2_with fail
        refine (HM.out _).mono ?_
        rintro e w4 ⟨vc, rfl, hvc, b⟩
        have hs4 := b.size
        replace hbr := hbr.trans (b.mono hbr.size)
        clear c0 c1 d0 d1 b
        obtain ⟨⟨c0, c1⟩, d0, d1⟩ := boxTD hbr
        have hw4 := (HB2.out.trans (hbr.mono HB2.out.size)).size
        have hww := hbr.size
        have hvl := hvc.lt
        go_wp2_with (at_make; refine wpList_make_own _ rfl _ _ 104 rfl w4.heap.size 123 j0 (.agg #[.int .i64 0, .int .i64 0, .int .i64 0, .int .i64 0, .int .i64 0, .int .i64 0]) 6 Tryz.underlying104 HJ.out.1 HJ.out.2.1 HJ.out.2.2.1 .i64 .i64 _ ll.length rfl rfl rfl (by rw [HJ.out.2.2.2]; omega) (by unfold maxLen; omega) (Nat.le_refl _) ?_; intro w5 hown0 hgrow0; have s5 := hgrow0.size; have hb5 := hbr.grown hgrow0 hww (by simp); have ho5 := OwnSd.made hown0; have hv5 := hvc.kept ((Below.refl w4.heap.size w4).grown hgrow0 (Nat.le_refl _) (by simp)) (fun k hk => (hvl k hk).2); clear hown0 hgrow0 c0 c1 d0 d1 hbr; obtain ⟨⟨c0, c1⟩, d0, d1⟩ := boxTD hb5)
        go_loopw [11, 44] (fun ov iv wr => ∃ k : Nat, k ≤ ll.length ∧ iv = .int .i64 (k : Int) ∧ OwnSd wr w4.heap.size ov (sdL m ll L R k) ∧ OwnI wr w3.heap.size vc (mems (L : Int)) ∧ Below ((w.alloc (.cells #[.int .i64 c, .slice a ll.length cap] 29)).alloc (.cells #[.int .i64 (L : Int), .int .i64 (R : Int)] 35)).heap.size ((w.alloc (.cells #[.int .i64 c, .slice a ll.length cap] 29)).alloc (.cells #[.int .i64 (L : Int), .int .i64 (R : Int)] 35)) wr ∧ w4.heap.size ≤ wr.heap.size) (fun _ iv _ => ll.length - (intOf iv).toNat)
        case atStart => exact ⟨0, by omega, rfl, ho5, hv5, hb5, by omega⟩
        case round =>
          clear ho5 hv5 hb5 c0 c1 d0 d1 hvc
          obtain ⟨k, hk, rfl, ho, hvc, hb, hsr⟩ := hrel
          obtain ⟨w6, hw6⟩ : ∃ w', w' = wr := ⟨_, rfl⟩
          rw [← hw6] at ho hvc hb hsr ⊢
          clear hw6
          obtain ⟨ov, hov⟩ : ∃ ov, ov = u11 := ⟨_, rfl⟩
          rw [← hov] at ho ⊢
          clear hov
          by_cases hlt : k < ll.length
          · obtain ⟨a2, cap2, hv2, ha2⟩ := HR.out _ (HB2.out.trans (hb.mono HB2.out.size))
            simp only [Value.slice.injEq] at hv2
            obtain ⟨rfl, -, rfl⟩ := hv2
            obtain ⟨x, ui, rfl, hx, hu⟩ := ha2 k hlt
            clear ha2
            have z0 : (0 : Int) ≤ (k : Int) := by omega
            have z1 : (k : Int) < (ll.length : Int) := by omega
            have HT := Lib.hid (HTP.out k ui w6 hlt hu)
            have HO6 := Lib.hid (fun w' (b : Below w6.heap.size w6 w') => ho.below b (fun k hk => (ho.lt k hk).2))
            have HV6 := Lib.hid (fun w' (b : Below w6.heap.size w6 w') => hvc.kept b (fun k hk => (hvc.lt k hk).2))
            have HB6 := Lib.hid (fun w' (b : Below w6.heap.size w6 w') => hb.trans (b.mono hb.size))
            have HOL := Lib.hid ho.lt
            have hlen := HROW.out k hlt
            clear hu ho hvc hb
            go_wp2_with fail
            refine HT.out.mono ?_
            rintro e w7 ⟨vv, rfl, hvv, b7⟩
            have HB7 := Lib.hid b7
            clear b7
            obtain ⟨⟨c0, c1⟩, d0, d1⟩ := boxTD (HB6.out _ HB7.out)
            have hto := tapR_len m k (ll.getD k [])
            have HREC := Lib.hid (fun w' (b : Below w7.heap.size w7 w') => recordOf_any vv vc (tapR m k (ll.getD k [])) (mems (L : Int)) w' (hvv.kept b (fun k hk => (hvv.lt k hk).2)).read ((HV6.out _ HB7.out).kept b (fun k hk => ((HV6.out _ HB7.out).lt k hk).2)).read (mems_len _) (by rw [hto]; exact HMI.out k hlt))
            have HK := Lib.hid (show kyS m ll L R k = pad5 ((mems (L : Int)).map fun q => (tapR m k (ll.getD k [])).getD q.toNat 0) ++ [(tapR m k (ll.getD k [])).getD R 0] by unfold kyS kyL recC; rw [HTL.out k hlt])
            obtain ⟨tr, htr⟩ : ∃ tr, tr = tapR m k (ll.getD k []) := ⟨_, rfl⟩
            rw [← htr] at hvv HREC HK hto
            obtain ⟨av, capv, rfl, hrv⟩ := hvv.read
            have hRl : R < tr.length := by omega
            obtain ⟨xv, rfl, hxv⟩ := hrv R hRl
            have z2 : (0 : Int) ≤ (R : Int) := by omega
            have z3 : (R : Int) < (tr.length : Int) := by omega
            rw [get_getD tr R hRl] at hxv
            obtain ⟨y, hy⟩ : ∃ y, y = tr.getD R 0 := ⟨_, rfl⟩
            rw [← hy] at hxv HK
            have HOL7 := Lib.hid (fun k hk => (HOL.out k hk))
            have s7 := HB7.out.size
            have hsd : (sdL m ll L R k).length = k := sdL_len _ _ _ _ _
            have HSU := Lib.hid (sdL_succ m ll L R k)
            obtain ⟨SD, hSD⟩ : ∃ SD, SD = sdL m ll L R k := ⟨_, rfl⟩
            rw [← hSD] at hsd HSU HO6
            rw [HK.out] at HSU
            obtain ⟨rc, hrc⟩ : ∃ rc, rc = (mems (L : Int)).map fun q => tr.getD q.toNat 0 := ⟨_, rfl⟩
            rw [← hrc] at HSU HREC
            clear hrv hy htr hvv hto HK hSD hrc
            go_wp2_with fail
            go_region_law (first
              | (go_simp; go_at_call 107; refine (HREC.out w7.drew (Below.refl _ _).drew).mono ?_; rintro e w8 ⟨bq, rfl, hrec, -, hbq, b8⟩; replace b8 : Below w7.heap.size w7 w8 := (Below.refl w7.heap.size w7).drew.trans b8; have s8 := b8.size; have HB8 := Lib.hid (HB7.out.trans (b8.mono HB7.out.size)); obtain ⟨⟨p0, p1⟩, e0, e1⟩ := boxTD (HB6.out _ HB8.out); have hxv8 := (b8.cell (World.block_lt_of_cell? _ _ hxv)).trans hxv; obtain ⟨a0, a1, a2, a3, a4, hpad, k0, k1, k2, k3, k4⟩ := hrec.cells6 rfl; have HPAD := Lib.hid hpad; have HO8 := Lib.hid (HO6.out _ HB8.out); have HO9 := Lib.hid (World.ownsRow.alloc HO8.out (.cells #[.int .i64 a0, .int .i64 a1, .int .i64 a2, .int .i64 a3, .int .i64 a4, .int .i64 y] 123)); clear hrec hpad b8)
              | (refine step_append_lies _ (by rfl) _ _ _ (by rfl) w4.heap.size 123 j0 (.agg #[.int .i64 0, .int .i64 0, .int .i64 0, .int .i64 0, .int .i64 0, .int .i64 0]) 6 48 Tryz.underlying104 HJ.out.1 HJ.out.2.1 HJ.out.2.2.1 HJ.out.2.2.2 rfl (by decide) _ _ _ (by rfl) HO9.out ⟨w8.heap.size, 0, none⟩ 1 1 [.int .i64 a0, .int .i64 a1, .int .i64 a2, .int .i64 a3, .int .i64 a4, .int .i64 y] (by rfl) (by rfl) (six_new w8 _ _) (six_one _ _ _ _ _ _) (by omega) (by unfold maxLen; omega) (by omega) (by rw [World.size_alloc]; omega) (w8.heap.size + 1) (by rw [World.size_alloc]) ?_; intro gg gcap w9 hown' hgrow hat hltg; have s9 := hgrow.size; have HW := Lib.hid hown'; have HG := Lib.hid hgrow; clear hown' hgrow hat hltg))
            all_goals
              have hb9 : Below w4.heap.size w8 w9 := ((Below.refl w4.heap.size w8).alloc (by omega) _).grown HG.out (by simp; omega) (fun j hj => (HOL.out j hj).1)
              have hv9 := (HV6.out _ HB8.out).kept hb9 (fun k hk => (hvl k hk).2)
              have hbb := (HB6.out _ HB8.out).trans (hb9.mono hww)
              have ho9 : OwnSd w9 w4.heap.size (.slice (some ⟨gg, 0, none⟩) (SD.length + 1) gcap) (SD ++ [pad5 rc ++ [y]]) := OwnSd.snoc (by rw [HPAD.out]; exact HW.out)
              have hz9 := hb9.size
              rw [← HSU.out, hsd] at ho9
              clear p0 p1 e0 e1 hxv8 k0 k1 k2 k3 k4 hb9
              go_wp2_with fail
              go_roundw
              case rel => exact ⟨k + 1, by omega, by go_num, ho9, hv9, hbb, by omega⟩
              case measure => simp [intOf]; omega
          · obtain rfl : k = ll.length := by omega
            have hbw := HB2.out.trans (hb.mono HB2.out.size)
            have hob : OwnSd w6 w.heap.size ov (sdL m ll L R ll.length) := ownsRow_down6 ho (by omega)
            go_wp2_with fail
            go_ret2
            exact ⟨_, rfl, hob, hbw⟩
end Go.Proofs.YtnbjcelfdppkcadGreat
