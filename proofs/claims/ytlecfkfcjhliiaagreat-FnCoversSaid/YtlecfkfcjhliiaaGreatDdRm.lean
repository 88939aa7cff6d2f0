/- The program's RowsToRemove, by contract. Conditions: as stated. -/
import Derived.Test.YtlecfkfcjhliiaaGreatWc38
namespace Go.Proofs.YtlecfkfcjhliiaaGreat
open Go.RowKit

theorem Box6.block {w w' : World} {b : Nat} {a0 a1 a2 a3 a4 a5 : Int} (h : Box6 w b a0 a1 a2 a3 a4 a5) (e : w'.heap[b]? = w.heap[b]?) : Box6 w' b a0 a1 a2 a3 a4 a5 := by
  have hc : ∀ j, w'.cell? ⟨b, j, none⟩ = w.cell? ⟨b, j, none⟩ := fun j => World.cell?_of_block (a := ⟨b, j, none⟩) e
  exact ⟨(hc 0).trans h.1, (hc 1).trans h.2.1, (hc 2).trans h.2.2.1, (hc 3).trans h.2.2.2.1, (hc 4).trans h.2.2.2.2.1, (hc 5).trans h.2.2.2.2.2⟩
section
set_option maxRecDepth 20000
set_option maxHeartbeats 3200000
theorem implRowsToRemove_any (c m l r : Int) (v : Value) (ll : List (List Int)) (_w1 : (Lit.int .i64 m).wf = true) (_w2 : (Lit.int .i64 l).wf = true) (_w3 : (Lit.int .i64 r).wf = true) (w : World) (hr : ReadSS w v ll) (hl : ll.length ≤ 1048576) (ht : ∀ i, i < ll.length → (ll.getD i []).length ≤ 1048576) :
    Calls Tryz.prog 48 #[.agg #[.int .i64 c, v], .int .i64 m, .agg #[.int .i64 l, .int .i64 r]] w fun e w' => e = .returned (.int .i64 (remD c ll m l r)) ∧ Below w.heap.size w w' := by
  have HS := Lib.hid (fun w' (hb : Below w.heap.size w w') => sidesOf_any c m l r v ll _w1 _w2 _w3 w' (hr.kept hb) hl ht)
  obtain ⟨a, cap, rfl, -⟩ := hr
  have hb1 := (Below.refl w.heap.size w).alloc (Nat.le_refl _) (.cells #[.int .i64 c, .slice a ll.length cap] 26)
  have hb2 := hb1.alloc hb1.size (.cells #[.int .i64 l, .int .i64 r] 37)
  have HB2 := Lib.hid hb2
  obtain ⟨⟨c0, c1⟩, d0, d1⟩ := boxTD (Below.refl ((w.alloc (.cells #[.int .i64 c, .slice a ll.length cap] 26)).alloc (.cells #[.int .i64 l, .int .i64 r] 37)).heap.size _)
  clear hb1 hb2
  cases hk : okD c ll m l r with
  | false =>
    have HE : Hid (remD c ll m l r = -1) := Lib.hid (by unfold remD; rw [hk]; rfl)
    rw [hk] at HS
    clear hk ht
    go_enter Tryz.func48, Tryz.ntmps48
    go_wp2_with fail
    refine (HS.out _ HB2.out).mono ?_
    rintro e w3 ⟨u, rfl, -, b3⟩
    have hb3 := HB2.out.trans (b3.mono HB2.out.size)
    clear b3
    go_wp2_with fail
    go_ret
    exact ⟨ret_int HE.out.symm, hb3⟩
  | true =>
    have HSIX := Lib.hid (sd_six hk)
    have h40 := ok_len hk
    rw [hk, if_pos rfl] at HS
    obtain ⟨hT, hm, L, R, rfl, rfl, hL, hR⟩ := okD_facts hk
    rw [show ((L : Int)).toNat = L from rfl, show ((R : Int)).toNat = R from rfl] at HS HSIX
    have hsl := sdL_len m ll L R ll.length
    have HG := Lib.hid (fun i (hi : i < ll.length) => sdL_get m ll L R ll.length hi)
    have HKY := Lib.hid (fun i (hi : i < ll.length) => kyL_r5 (m := m) hT hL hi)
    have HKS := Lib.hid (fun i (hi : i < ll.length) => kyS_s6 (m := m) hT hL hR hi)
    have HTK := Lib.hid (fun i => kyS_take m ll L R i)
    have HRE := Lib.hid (fun rs (hn : rs.Nodup) (hmem : ∀ x, x ∈ rs ↔ ∃ i, i < ll.length ∧ kyL m ll L i = x) => rem_eq hk hT hm hL hR hn hmem)
    have HKSL := Lib.hid (fun i j => kyS_kyL (m := m) (ll := ll) (L := L) (R := R) i j)
    obtain ⟨K, hK⟩ : ∃ K, K = kyL m ll L := ⟨_, rfl⟩
    obtain ⟨S, hS⟩ : ∃ S, S = kyS m ll L R := ⟨_, rfl⟩
    rw [← hK] at HKY HTK HRE HKSL
    rw [← hS] at HG HKS HTK HRE HKSL
    obtain ⟨SD, hSD⟩ : ∃ SD, SD = sdL m ll L R ll.length := ⟨_, rfl⟩
    rw [← hSD] at HS HSIX hsl HG
    have hmm := @run_makeMap Tryz.prog
    clear hk ht hSD hK hS hT hm hL hR
    go_enter Tryz.func48, Tryz.ntmps48
    go_wp2_with fail
    refine (HS.out _ HB2.out).mono ?_
    rintro e w3 ⟨u, rfl, ho, b3⟩
    have hb3 := HB2.out.trans (b3.mono HB2.out.size)
    have HRD := Lib.hid ho.read
    obtain ⟨au, cu, rfl, -⟩ := ho.read
    have HM0 := Lib.hid (MapT.made w3)
    have hs1 : (w3.alloc (.map #[] 0)).heap.size = w3.heap.size + 1 := by simp
    have hq0 := MapQ.made (w3.alloc (.map #[] 0))
    rw [hs1] at hq0
    have hm0 := HM0.out.kept (World.grownBy_alloc (w3.alloc (.map #[] 0)) (.map #[] 0) none) (by simp)
    have hbb := ((Below.refl w3.heap.size w3).alloc (Nat.le_refl _) (.map #[] 0)).alloc (by simp) (.map #[] 0)
    have hm1 : MapT ((w3.alloc (.map #[] 0)).alloc (.map #[] 0)) w3.heap.size 0 (cntK S 0) := hm0.congr (fun _ => rfl)
    have hq1 : MapQ ((w3.alloc (.map #[] 0)).alloc (.map #[] 0)) (w3.heap.size + 1) 0 (stayK K S 0) := hq0.congr (fun _ => rfl)
    rw [hsl]
    clear b3 c0 c1 d0 d1 ho hm0 hq0 hs1
    go_wp2_with fail
    go_loopw [29] (fun iv wr => ∃ i : Nat, i ≤ ll.length ∧ iv = .int .i64 (i : Int) ∧ MapT wr w3.heap.size i (cntK S i) ∧ MapQ wr (w3.heap.size + 1) i (stayK K S i) ∧ Below w3.heap.size w3 wr) (fun iv _ => ll.length - (intOf iv).toNat)
    case atStart => exact ⟨0, by omega, rfl, hm1, hq1, hbb⟩
    case round =>
      clear hm1 hq1 hbb
      obtain ⟨i, hi, rfl, hm, hq, hb⟩ := hrel
      obtain ⟨w5, hw5⟩ : ∃ w', w' = wr := ⟨_, rfl⟩
      rw [← hw5] at hm hq hb ⊢
      clear hw5
      by_cases hlt : i < ll.length
      · have z0 : (0 : Int) ≤ (i : Int) := by omega
        have z1 : (i : Int) < (ll.length : Int) := by omega
        have hil : i < SD.length := by omega
        have h6 := HKS.out i hlt
        have h5 := HKY.out i hlt
        obtain ⟨b, o, s0, s1, s2, s3, s4, s5, rfl, hs, hc⟩ := ReadSd.at (HRD.out.kept hb) hil (HSIX.out i hil)
        rw [HG.out i hlt] at hs
        have hk5 : K i = [s0, s1, s2, s3, s4] := by rw [← HTK.out i, hs]; rfl
        obtain ⟨c0, c1, c2, c3, c4, c5⟩ := hc
        have hlo := hm.lt
        have hlq := hq.lt
        have HF1 := Lib.hid (fun x => cntK_succ S i x)
        have HF2 := Lib.hid (fun x => show stayK K S (i + 1) x = if x = K i then max (stayK K S i x) (cntK S (i + 1) (S i)) else stayK K S i x from rfl)
        have hcl := cntK_le S i (S i)
        have hgl := stayK_le K S (K i) i
        have hc1 : cntK S (i + 1) (S i) = cntK S i (S i) + 1 := by rw [cntK_succ, if_pos rfl]
        rw [hc1] at HF2
        have hma := (hm.kept (World.grownBy_alloc w5 (.cells #[.int .i64 s0, .int .i64 s1, .int .i64 s2, .int .i64 s3, .int .i64 s4, .int .i64 s5] 96) none) (by simp)).drew
        obtain ⟨st, w6, e2, hm6, hg6, hback⟩ := mapT_entry hma (by unfold maxLen; omega) h6 (WalkArith.wf_i64 (by omega))
        have e1 := mapT_run hma h6
        have e3 := mapT_run hm6 h6
        obtain ⟨w7, e4, hm7, hg7⟩ := hback w6 (cntK S i (S i) + 1) rfl (WalkArith.wf_i64 (by omega))
        have hqa := ((hq.kept (World.grownBy_alloc w5 (.cells #[.int .i64 s0, .int .i64 s1, .int .i64 s2, .int .i64 s3, .int .i64 s4, .int .i64 s5] 96) none) (by simp)).drew.kept hg6 (by simp)).kept hg7 (by simp)
        have e5 := mapQ_run hqa.drew h5
        have e6 := mapT_run hm7.drew h6
        obtain ⟨w8, e7, hq8, hg8⟩ := mapQ_update hqa.drew (by unfold maxLen; omega) h5 (c := max (stayK K S i (K i)) (cntK S i (S i) + 1)) (by omega) (WalkArith.wf_i64 (by omega))
        rw [if_pos rfl] at e6
        obtain ⟨F, hF⟩ : ∃ F, F = cntK S i (S i) := ⟨_, rfl⟩
        obtain ⟨G, hG⟩ : ∃ G, G = stayK K S i (K i) := ⟨_, rfl⟩
        have hm8 : MapT w8 w3.heap.size (i + 1) (cntK S (i + 1)) := (hm7.drew.kept hg8 (by simp)).congr (fun x => by rw [HF1.out x]; by_cases hx : x = S i <;> simp [hx])
        have hq9 : MapQ w8 (w3.heap.size + 1) (i + 1) (stayK K S (i + 1)) := hq8.congr (fun x => by rw [HF2.out x]; by_cases hx : x = K i <;> simp [hx])
        rw [← hF] at e1 e2 e3 e4 e6 e7 hcl
        rw [← hG] at e5 e7 hgl
        rw [hs] at e1 e2 e3 e6
        rw [hk5] at e5 e7
        rw [sidV_six] at e1 e2 e3 e6
        rw [show recV [s0, s1, s2, s3, s4] = .agg #[.int .i64 s0, .int .i64 s1, .int .i64 s2, .int .i64 s3, .int .i64 s4] from rfl] at e5 e7
        rw [show ((F + 1 : Nat) : Int) = (F : Int) + 1 from rfl] at e4 e6
        rw [show goInt (st : Int) = .int .i64 (st : Int) from rfl] at e2 e4
        rw [show ((max G (F + 1) : Nat) : Int) = if (G : Int) < (F : Int) + 1 then (F : Int) + 1 else (G : Int) from by split <;> omega] at e7
        have hwr : IntKind.i64.wrap ((F : Int) + 1) = (F : Int) + 1 := IntWalk.i64_in _ (by omega)
        have hbx := Box6.new w5 96 s0 s1 s2 s3 s4 s5
        have hb7 : Below w3.heap.size w3 w7 := (((hb.alloc hb.size (.cells #[.int .i64 s0, .int .i64 s1, .int .i64 s2, .int .i64 s3, .int .i64 s4, .int .i64 s5] 96)).drew.grown hg6 (by simp; omega) (fun j hj => by cases hj; omega)).grown hg7 (by have := hg6.size; simp at this; omega) (fun j hj => by cases hj; omega))
        have hs7 := hb7.size
        have hb8 := (hb7.drew.grown hg8 hs7 (fun j hj => by cases hj; omega))
        have hbx7 : Box6 w7 w5.heap.size s0 s1 s2 s3 s4 s5 := (hbx.block (hg6.block w5.heap.size (by simp) (by simp; omega))).block (hg7.block w5.heap.size (by have := hg6.size; simp at this; omega) (by simp; omega))
        have HM8 := Lib.hid hm8
        have HQ8 := Lib.hid hq9
        have HB8 := Lib.hid hb8
        have HBX7 := Lib.hid hbx7
        obtain ⟨k0, k1, k2, k3, k4, k5⟩ := hbx
        clear hm8 hq9 hb8 hbx7 hm hq hb hma hqa hback hm6 hm7 hq8 hg6 hg7 hg8 hb7 hF hG hc1 hs hk5 h5 h6
        go_wp2_with fail
        go_region_law (fail)
        all_goals
          obtain ⟨k0, k1, k2, k3, k4, k5⟩ := HBX7.out
          go_wp2_with fail
          go_region_law (fail)
          all_goals
            clear e1 e2 e3 e4 e5 e6 e7 k0 k1 k2 k3 k4 k5 c0 c1 c2 c3 c4 c5
            go_wp2_with fail
            go_roundw
            case rel => exact ⟨i + 1, by omega, by go_num, HM8.out, HQ8.out, HB8.out⟩
            case measure => simp [intOf]; omega
      · obtain rfl : i = ll.length := by omega
        have hlq := hq.lt
        have hsz := hb.size
        obtain ⟨D, hown, hD⟩ := hq
        have hsd := hown.size_le
        have HD := Lib.hid hD
        have HB5 := Lib.hid hb
        have HSL := Lib.hid (fun x => stayK_le K S x ll.length)
        have HHAS := Lib.hid (fun x => stayK_has K S HKSL.out ll.length x)
        clear hm hb hD
        go_wp2_with (first
          | (at_range; refine wpList_range_own _ rfl _ 99 rfl 92 3 keyR Tryz.underlying99 (plainElem Tryz.prog 3) (w3.heap.size + 1) ll.length D rfl hown ?_; intro w6 hrg0 hg0 hs0))
        go_frame
        have HBR := Lib.hid (HB5.out.grown hg0 hsz (by simp))
        go_loopw [13] (fun rv wr => ∃ left cnt rs, wr.ranges Tryz.prog 92 (plainElem Tryz.prog 3) (w3.heap.size + 1) w5.heap.size ll.length D left cnt ∧ Hid (PhB D left rs) ∧ rv = .int .i64 ((ll.length : Int) - ((rs.map (stayK K S ll.length)).sum : Nat)) ∧ (rs.map (stayK K S ll.length)).sum ≤ 40 * rs.length ∧ rs.length + cnt ≤ 40 ∧ Hid (Below w3.heap.size w3 wr)) (fun _ wr => wr.rangeLeft (w3.heap.size + 1) w5.heap.size)
        case atStart => exact ⟨_, _, [], hrg0, Lib.hid (PhB.start D), by simp, by simp, by simp; omega, HBR⟩
        case round =>
          clear hrg0 hg0 hs0 HBR hown
          obtain ⟨left, cnt, rs, hrg, HPB, rfl, hsum, hrc, HB⟩ := hrel
          obtain ⟨w7, hw7⟩ : ∃ w', w' = wr := ⟨_, rfl⟩
          rw [← hw7] at hrg HB ⊢
          clear hw7
          have h7s := hrg.lt
          have hMP := Lib.hid (fun x => (List.map_append (f := stayK K S ll.length) (l₁ := rs) (l₂ := [x])))
          obtain ⟨sm, hsm⟩ : ∃ sm, sm = (rs.map (stayK K S ll.length)).sum := ⟨_, rfl⟩
          rw [← hsm] at hsum ⊢
          have HSM := Lib.hid hsm
          clear hsm
          go_wp2_with (first | (at_next; refine mapQ_next _ rfl _ rfl (w3.heap.size + 1) w5.heap.size ll.length D left cnt rfl hrg ?_ ?_))
          · intro hc0 hl0
            have hst := HPB.out.stop hl0
            have HE := Lib.hid (HRE.out rs HPB.out.1 (fun x => by
              constructor
              · intro hx
                obtain ⟨h5, hh⟩ := HPB.out.2.1 x hx
                have h1 := (HD.out x h5).1
                rw [hh] at h1
                exact (HHAS.out x).1 (by simpa using h1.symm)
              · rintro ⟨i, hi, rfl⟩
                have h5 := HKY.out i hi
                exact (hst (K i) h5).2 (by rw [(HD.out _ h5).1]; exact decide_eq_true ((HHAS.out (K i)).2 ⟨i, hi, rfl⟩))))
            have hbe := hb3.trans (HB.out.mono hb3.size)
            clear hst hrg
            go_wp2_with fail
            go_ret
            exact ⟨ret_int (by rw [HE.out.2, HSM.out]), hbe⟩
          · intro a0 a1 a2 a3 a4 y w8 cnt1 hR hleft hat hrg1 hlt1 hg1 hs1 hen
            have hPB := Lib.hid (HPB.out.step hR hleft)
            have hy : y = (stayK K S ll.length [a0, a1, a2, a3, a4] : Int) := by
              have h1 := (HD.out _ hR).2
              rw [hat] at h1
              simpa using h1
            have hyl := HSL.out [a0, a1, a2, a3, a4]
            have HRG := Lib.hid hrg
            have HB8 := Lib.hid (HB.out.grown hg1 (by have := HB.out.size; omega) (fun j hj => by cases hj; omega))
            obtain ⟨Y, hY⟩ : ∃ Y, Y = stayK K S ll.length [a0, a1, a2, a3, a4] := ⟨_, rfl⟩
            have hsum2 : ((rs ++ [[a0, a1, a2, a3, a4]]).map (stayK K S ll.length)).sum = sm + Y := by rw [hMP.out, List.sum_append, ← HSM.out, hY]; simp
            have HS2 := Lib.hid hsum2
            rw [← hY] at hy hyl
            subst hy
            have hwr : IntKind.i64.wrap ((ll.length : Int) - (sm : Int) - (Y : Int)) = (ll.length : Int) - (sm : Int) - (Y : Int) := IntWalk.i64_in _ (by omega)
            clear hat hg1 hs1 hrg hsum2 hY
            go_wp2_with fail
            go_roundw
            case rel => exact ⟨_, cnt1, rs ++ [[a0, a1, a2, a3, a4]], hrg1, hPB, by rw [HS2.out]; go_num, by rw [HS2.out, List.length_append, List.length_singleton]; omega, by rw [List.length_append, List.length_singleton]; omega, HB8⟩
            case measure => rw [hrg1.left_eq, HRG.out.left_eq]; omega
end
end Go.Proofs.YtlecfkfcjhliiaaGreat
