/- The model's HoldsDep and WitnessOf, by contract. Conditions: as stated. -/
import Derived.Test.YtficnbeciohpfaaDepB
namespace Go.Proofs.Ytficnbeciohpfaa
open Go.RowKit

/-- The first pair that violates the dependency. -/
noncomputable def pairD (c : Int) (ll : List (List Int)) (m l r : Int) : Int × Int := pairI (badB c.toNat ll m l.toNat r.toNat) ll.length
def okD (c : Int) (ll : List (List Int)) (m l r : Int) : Bool := fineT c ll m && depB c l r
noncomputable def holdsD (c : Int) (ll : List (List Int)) (m l r : Int) : Bool := okD c ll m l r && decide ((pairD c ll m l r).1 < 0)
noncomputable def witI (c : Int) (ll : List (List Int)) (m l r : Int) : Int := if okD c ll m l r = true then (pairD c ll m l r).1 else -1
noncomputable def witK (c : Int) (ll : List (List Int)) (m l r : Int) : Int := if okD c ll m l r = true then (pairD c ll m l r).2 else -1
noncomputable def witB (c : Int) (ll : List (List Int)) (m l r : Int) : Bool := okD c ll m l r && decide (0 ≤ (pairD c ll m l r).1)
theorem depB_nat {c l r : Int} (h : depB c l r = true) : ∃ L R : Nat, l = (L : Int) ∧ r = (R : Int) ∧ R < 5 := by
  obtain ⟨⟨h1, h5⟩, ha, h0, hr⟩ := depB_iff.1 h
  refine ⟨l.toNat, r.toNat, ?_, by omega, by omega⟩
  unfold isA at ha
  simp at ha
  omega
theorem fineT_isT {c : Int} {ll : List (List Int)} {m : Int} (h : fineT c ll m = true) : isT c ll = true := by unfold fineT at h; simp at h; exact h.1

section
set_option maxRecDepth 20000
set_option maxHeartbeats 1600000
theorem holdsDep_any (c m l r : Int) (v : Value) (ll : List (List Int)) (w : World) (hr : ReadSS w v ll) (hl : ll.length ≤ 1048576) (ht : ∀ i, i < ll.length → (ll.getD i []).length ≤ 1048576) :
    Calls Try.prog 14 #[.agg #[.int .i64 c, v], .int .i64 m, .agg #[.int .i64 l, .int .i64 r]] w fun e w' => e = .returned (.bool (holdsD c ll m l r)) ∧ Below w.heap.size w w' := by
  have HF := Lib.hid (fun w' (hb : Below w.heap.size w w') => l4Fine_any c m v ll w' (hr.kept hb) hl ht)
  have HD := Lib.hid (isDep_any c l r)
  have HP := Lib.hid (fun (L R : Nat) w' (hb : Below w.heap.size w w') hT (hR : R < 5) => pair6_any c m L R v ll w' (hr.kept hb) hT hR)
  obtain ⟨a, cap, rfl, -⟩ := hr
  have hb1 := (Below.refl w.heap.size w).alloc (Nat.le_refl _) (.cells #[.int .i64 c, .slice a ll.length cap] 33)
  have hb2 := hb1.alloc hb1.size (.cells #[.int .i64 l, .int .i64 r] 25)
  have HB2 := Lib.hid hb2
  have HRF := Lib.hid (Below.refl ((w.alloc (.cells #[.int .i64 c, .slice a ll.length cap] 33)).alloc (.cells #[.int .i64 l, .int .i64 r] 25)).heap.size ((w.alloc (.cells #[.int .i64 c, .slice a ll.length cap] 33)).alloc (.cells #[.int .i64 l, .int .i64 r] 25)))
  obtain ⟨⟨c0, c1⟩, d0, d1⟩ := boxTD HRF.out
  clear hb1 hb2 ht
  cases hf : fineT c ll m with
  | false =>
    have HE : Hid (holdsD c ll m l r = false) := Lib.hid (by unfold holdsD okD; rw [hf]; rfl)
    rw [hf] at HF
    clear hf
    go_enter Try.func14, Try.ntmps14
    go_wp2_with fail
    refine (HF.out _ HB2.out).mono ?_
    rintro e w1 ⟨rfl, b1⟩
    have hb1 := HRF.out.trans (b1.mono HRF.out.size)
    clear b1 c0 c1 d0 d1
    obtain ⟨⟨c0, c1⟩, d0, d1⟩ := boxTD hb1
    have hb2 := HB2.out.trans (hb1.mono HB2.out.size)
    go_wp2_with fail
    go_ret
    exact ⟨by rw [HE.out]; rfl, hb2⟩
  | true =>
    rw [hf] at HF
    cases hd : depB c l r with
    | false =>
      have HE : Hid (holdsD c ll m l r = false) := Lib.hid (by unfold holdsD okD; rw [hd]; simp)
      rw [hd] at HD
      clear hf hd
      go_enter Try.func14, Try.ntmps14
      go_wp2_with fail
      refine (HF.out _ HB2.out).mono ?_
      rintro e w1 ⟨rfl, b1⟩
      have hb1 := HRF.out.trans (b1.mono HRF.out.size)
      clear b1 c0 c1 d0 d1
      obtain ⟨⟨c0, c1⟩, d0, d1⟩ := boxTD hb1
      have hb2 := HB2.out.trans (hb1.mono HB2.out.size)
      go_wp2_with fail
      refine (HD.out _).mono ?_
      rintro e w2 ⟨rfl, b2⟩
      have hb3 := hb1.trans (b2.mono hb1.size)
      clear b2 c0 c1 d0 d1 hb2
      obtain ⟨⟨c0, c1⟩, d0, d1⟩ := boxTD hb3
      have hb4 := HB2.out.trans (hb3.mono HB2.out.size)
      go_wp2_with fail
      go_ret
      exact ⟨by rw [HE.out]; rfl, hb4⟩
    | true =>
      rw [hd] at HD
      have hT := fineT_isT hf
      have hok : okD c ll m l r = true := by unfold okD; rw [hf, hd]; rfl
      obtain ⟨x, hx⟩ : ∃ x, x = (pairD c ll m l r).1 := ⟨_, rfl⟩
      have HE : Hid (holdsD c ll m l r = decide (x < 0)) := Lib.hid (by unfold holdsD; rw [hok, hx]; rfl)
      obtain ⟨L, R, rfl, rfl, hR⟩ := depB_nat hd
      have HQ := Lib.hid (fun w' hb => HP.out L R w' hb hT hR)
      unfold pairD at hx
      rw [show ((L : Int)).toNat = L from rfl, show ((R : Int)).toNat = R from rfl] at hx
      rw [← hx] at HQ
      clear hf hd hT hok hx HP
      go_enter Try.func14, Try.ntmps14
      go_wp2_with fail
      refine (HF.out _ HB2.out).mono ?_
      rintro e w1 ⟨rfl, b1⟩
      have hb1 := HRF.out.trans (b1.mono HRF.out.size)
      clear b1 c0 c1 d0 d1
      obtain ⟨⟨c0, c1⟩, d0, d1⟩ := boxTD hb1
      have hb2 := HB2.out.trans (hb1.mono HB2.out.size)
      go_wp2_with fail
      refine (HD.out _).mono ?_
      rintro e w2 ⟨rfl, b2⟩
      have hb3 := hb1.trans (b2.mono hb1.size)
      clear b2 c0 c1 d0 d1 hb2
      obtain ⟨⟨c0, c1⟩, d0, d1⟩ := boxTD hb3
      have hb4 := HB2.out.trans (hb3.mono HB2.out.size)
      go_wp2_with fail
      refine (HQ.out _ hb4).mono ?_
      rintro e w3 ⟨rfl, b3⟩
      have hb5 := hb4.trans (b3.mono hb4.size)
      clear b3 c0 c1 d0 d1
      go_wp2_with fail
      go_ret
      exact ⟨by rw [HE.out]; rfl, hb5⟩
theorem witnessOf_any (c m l r : Int) (v : Value) (ll : List (List Int)) (w : World) (hr : ReadSS w v ll) (hl : ll.length ≤ 1048576) (ht : ∀ i, i < ll.length → (ll.getD i []).length ≤ 1048576) :
    Calls Try.prog 18 #[.agg #[.int .i64 c, v], .int .i64 m, .agg #[.int .i64 l, .int .i64 r]] w fun e w' => e = .returned (.tuple #[.int .i64 (witI c ll m l r), .int .i64 (witK c ll m l r), .bool (witB c ll m l r)]) ∧ Below w.heap.size w w' := by
  have HF := Lib.hid (fun w' (hb : Below w.heap.size w w') => l4Fine_any c m v ll w' (hr.kept hb) hl ht)
  have HD := Lib.hid (isDep_any c l r)
  have HP := Lib.hid (fun (L R : Nat) w' (hb : Below w.heap.size w w') hT (hR : R < 5) => pair6_any c m L R v ll w' (hr.kept hb) hT hR)
  obtain ⟨a, cap, rfl, -⟩ := hr
  have hb1 := (Below.refl w.heap.size w).alloc (Nat.le_refl _) (.cells #[.int .i64 c, .slice a ll.length cap] 33)
  have hb2 := hb1.alloc hb1.size (.cells #[.int .i64 l, .int .i64 r] 25)
  have HB2 := Lib.hid hb2
  have HRF := Lib.hid (Below.refl ((w.alloc (.cells #[.int .i64 c, .slice a ll.length cap] 33)).alloc (.cells #[.int .i64 l, .int .i64 r] 25)).heap.size ((w.alloc (.cells #[.int .i64 c, .slice a ll.length cap] 33)).alloc (.cells #[.int .i64 l, .int .i64 r] 25)))
  obtain ⟨⟨c0, c1⟩, d0, d1⟩ := boxTD HRF.out
  clear hb1 hb2 ht
  cases hf : fineT c ll m with
  | false =>
    have HE : Hid (witI c ll m l r = -1 ∧ witK c ll m l r = -1 ∧ witB c ll m l r = false) := Lib.hid (by unfold witI witK witB okD; rw [hf]; exact ⟨rfl, rfl, rfl⟩)
    rw [hf] at HF
    clear hf
    go_enter Try.func18, Try.ntmps18
    go_wp2_with fail
    refine (HF.out _ HB2.out).mono ?_
    rintro e w1 ⟨rfl, b1⟩
    have hb1 := HRF.out.trans (b1.mono HRF.out.size)
    clear b1 c0 c1 d0 d1
    obtain ⟨⟨c0, c1⟩, d0, d1⟩ := boxTD hb1
    have hb2 := HB2.out.trans (hb1.mono HB2.out.size)
    go_wp2_with fail
    go_ret3
    exact ⟨by rw [HE.out.1, HE.out.2.1, HE.out.2.2]; rfl, hb2⟩
  | true =>
    rw [hf] at HF
    cases hd : depB c l r with
    | false =>
      have HE : Hid (witI c ll m l r = -1 ∧ witK c ll m l r = -1 ∧ witB c ll m l r = false) := Lib.hid (by unfold witI witK witB okD; rw [hd]; simp)
      rw [hd] at HD
      clear hf hd
      go_enter Try.func18, Try.ntmps18
      go_wp2_with fail
      refine (HF.out _ HB2.out).mono ?_
      rintro e w1 ⟨rfl, b1⟩
      have hb1 := HRF.out.trans (b1.mono HRF.out.size)
      clear b1 c0 c1 d0 d1
      obtain ⟨⟨c0, c1⟩, d0, d1⟩ := boxTD hb1
      have hb2 := HB2.out.trans (hb1.mono HB2.out.size)
      go_wp2_with fail
      refine (HD.out _).mono ?_
      rintro e w2 ⟨rfl, b2⟩
      have hb3 := hb1.trans (b2.mono hb1.size)
      clear b2 c0 c1 d0 d1 hb2
      obtain ⟨⟨c0, c1⟩, d0, d1⟩ := boxTD hb3
      have hb4 := HB2.out.trans (hb3.mono HB2.out.size)
      go_wp2_with fail
      go_ret3
      exact ⟨by rw [HE.out.1, HE.out.2.1, HE.out.2.2]; rfl, hb4⟩
    | true =>
      rw [hd] at HD
      have hT := fineT_isT hf
      have hok : okD c ll m l r = true := by unfold okD; rw [hf, hd]; rfl
      obtain ⟨x, hx⟩ : ∃ x, x = (pairD c ll m l r).1 := ⟨_, rfl⟩
      obtain ⟨y, hy⟩ : ∃ y, y = (pairD c ll m l r).2 := ⟨_, rfl⟩
      have HE : Hid (witI c ll m l r = x ∧ witK c ll m l r = y ∧ witB c ll m l r = decide (0 ≤ x)) := Lib.hid (by unfold witI witK witB; rw [hok, hx, hy]; exact ⟨rfl, rfl, rfl⟩)
      obtain ⟨L, R, rfl, rfl, hR⟩ := depB_nat hd
      have HQ := Lib.hid (fun w' hb => HP.out L R w' hb hT hR)
      unfold pairD at hx hy
      rw [show ((L : Int)).toNat = L from rfl, show ((R : Int)).toNat = R from rfl] at hx hy
      rw [← hx, ← hy] at HQ
      clear hf hd hT hok hx hy HP
      go_enter Try.func18, Try.ntmps18
      go_wp2_with fail
      refine (HF.out _ HB2.out).mono ?_
      rintro e w1 ⟨rfl, b1⟩
      have hb1 := HRF.out.trans (b1.mono HRF.out.size)
      clear b1 c0 c1 d0 d1
      obtain ⟨⟨c0, c1⟩, d0, d1⟩ := boxTD hb1
      have hb2 := HB2.out.trans (hb1.mono HB2.out.size)
      go_wp2_with fail
      refine (HD.out _).mono ?_
      rintro e w2 ⟨rfl, b2⟩
      have hb3 := hb1.trans (b2.mono hb1.size)
      clear b2 c0 c1 d0 d1 hb2
      obtain ⟨⟨c0, c1⟩, d0, d1⟩ := boxTD hb3
      have hb4 := HB2.out.trans (hb3.mono HB2.out.size)
      go_wp2_with fail
      refine (HQ.out _ hb4).mono ?_
      rintro e w3 ⟨rfl, b3⟩
      have hb5 := hb4.trans (b3.mono hb4.size)
      clear b3 c0 c1 d0 d1
      go_wp2_with fail
      go_ret3
      exact ⟨by rw [HE.out.1, HE.out.2.1, HE.out.2.2]; rfl, hb5⟩
end
end Go.Proofs.Ytficnbeciohpfaa
