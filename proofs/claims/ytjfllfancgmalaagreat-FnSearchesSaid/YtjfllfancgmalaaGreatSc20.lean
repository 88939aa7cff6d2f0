/- Texts of this claim, merged: DdH. Conditions: as stated. -/
import Derived.Test.YtjfllfancgmalaaGreatSidOm
namespace Go.Proofs.YtjfllfancgmalaaGreat
open Go.RowKit

theorem sd_six {c m l r : Int} {ll : List (List Int)} (h : okD c ll m l r = true) : ∀ i, i < (sdL m ll l.toNat r.toNat ll.length).length → S6 ((sdL m ll l.toNat r.toNat ll.length).getD i []) := by
  obtain ⟨hT, hm, L, R, rfl, rfl, hL, hR⟩ := okD_facts h
  intro i hi
  rw [sdL_len] at hi
  rw [show ((L : Int)).toNat = L from rfl, show ((R : Int)).toNat = R from rfl, sdL_get _ _ _ _ _ hi]
  exact kyS_s6 hT hL hR hi
theorem sd_pair {c m l r : Int} {ll : List (List Int)} (h : okD c ll m l r = true) : pairI (vioB (sdL m ll l.toNat r.toNat ll.length)) (sdL m ll l.toNat r.toNat ll.length).length = pairD c ll m l r := by
  obtain ⟨hT, hm, L, R, rfl, rfl, hL, hR⟩ := okD_facts h
  rw [sdL_len]
  exact vio_pair hT hm hL hR
theorem vio_nil : pairI (vioB []) ([] : List (List Int)).length = (-1, -1) := pairI_eq (.inl ⟨rfl, rfl, fun _ _ _ hk => absurd hk (Nat.not_lt_zero _)⟩)
theorem ok_len {c m l r : Int} {ll : List (List Int)} (h : okD c ll m l r = true) : ll.length ≤ 40 := by
  obtain ⟨hT, -⟩ := okD_facts h
  exact (isT_bd hT).2.2
section
set_option maxRecDepth 20000
set_option maxHeartbeats 1600000
theorem implHoldsDep_any (c m l r : Int) (v : Value) (ll : List (List Int)) (_w1 : (Lit.int .i64 m).wf = true) (_w2 : (Lit.int .i64 l).wf = true) (_w3 : (Lit.int .i64 r).wf = true) (w : World) (hr : ReadSS w v ll) (hl : ll.length ≤ 1048576) (ht : ∀ i, i < ll.length → (ll.getD i []).length ≤ 1048576) :
    Calls Tryz.prog 54 #[.agg #[.int .i64 c, v], .int .i64 m, .agg #[.int .i64 l, .int .i64 r]] w fun e w' => e = .returned (.bool (holdsD c ll m l r)) ∧ Below w.heap.size w w' := by
  have HS := Lib.hid (fun w' (hb : Below w.heap.size w w') => sidesOf_any c m l r v ll _w1 _w2 _w3 w' (hr.kept hb) hl ht)
  obtain ⟨a, cap, rfl, -⟩ := hr
  have hb1 := (Below.refl w.heap.size w).alloc (Nat.le_refl _) (.cells #[.int .i64 c, .slice a ll.length cap] 26)
  have hb2 := hb1.alloc hb1.size (.cells #[.int .i64 l, .int .i64 r] 38)
  have HB2 := Lib.hid hb2
  obtain ⟨⟨c0, c1⟩, d0, d1⟩ := boxTD (Below.refl ((w.alloc (.cells #[.int .i64 c, .slice a ll.length cap] 26)).alloc (.cells #[.int .i64 l, .int .i64 r] 38)).heap.size _)
  clear hb1 hb2
  cases hk : okD c ll m l r with
  | false =>
    have HE : Hid (holdsD c ll m l r = false) := Lib.hid (by unfold holdsD; rw [hk]; rfl)
    rw [hk] at HS
    clear hk ht
    go_enter Tryz.func54, Tryz.ntmps54
    go_wp2_with fail
    refine (HS.out _ HB2.out).mono ?_
    rintro e w3 ⟨u, rfl, -, b3⟩
    have hb3 := HB2.out.trans (b3.mono HB2.out.size)
    clear b3
    go_wp2_with fail
    go_ret
    exact ⟨ret_b HE.out, hb3⟩
  | true =>
    have HSIX := Lib.hid (sd_six hk)
    have HP := sd_pair hk
    have hE : holdsD c ll m l r = decide ((pairD c ll m l r).1 < 0) := by unfold holdsD; rw [hk, Bool.true_and]
    have h40 := ok_len hk
    rw [hk, if_pos rfl] at HS
    have hsl := sdL_len m ll l.toNat r.toNat ll.length
    obtain ⟨SD, hSD⟩ : ∃ SD, SD = sdL m ll l.toNat r.toNat ll.length := ⟨_, rfl⟩
    rw [← hSD] at HS HSIX HP hsl
    obtain ⟨⟨p1, p2⟩, hp⟩ : ∃ p, p = pairD c ll m l r := ⟨_, rfl⟩
    rw [← hp] at HP hE
    have HP := Lib.hid HP
    have HE := Lib.hid hE
    clear hk ht hSD hp hE
    go_enter Tryz.func54, Tryz.ntmps54
    go_wp2_with fail
    refine (HS.out _ HB2.out).mono ?_
    rintro e w3 ⟨u, rfl, ho, b3⟩
    have hb3 := HB2.out.trans (b3.mono HB2.out.size)
    have HF := Lib.hid (firstViolation_any u SD w3 ho.read HSIX.out (by omega))
    rw [HP.out] at HF
    clear b3 ho c0 c1 d0 d1
    go_wp2_with fail
    refine HF.out.mono ?_
    rintro e w4 ⟨rfl, b4⟩
    have hb4 := hb3.trans (b4.mono hb3.size)
    clear b4
    go_wp2_with fail
    go_ret
    exact ⟨ret_b (by rw [HE.out]; by_cases h : 0 ≤ p1 <;> simp only [h, decide_true, decide_false] <;> simp <;> omega), hb4⟩
end
end Go.Proofs.YtjfllfancgmalaaGreat
