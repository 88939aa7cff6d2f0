/- Texts of this claim, merged: SmF. Conditions: as stated. -/
import Derived.Test.YtigecfbmdbpbhaaGreatSmEm
import Derived.Test.YtigecfbmdbpbhaaGreatSb23
namespace Go.Proofs.YtigecfbmdbpbhaaGreat
open Go.RowKit

/-- A search and whether there is one, in memory of the call's own. -/
def RetSWB (c m at_ t : Int) (ll : List (List Int)) (F : List (Int × Int)) (b : Bool) (w : World) (e : Ending) (w' : World) : Prop :=
  ∃ u g : Value, e = .returned (.tuple #[srcV c u m at_ g t, .bool b]) ∧ OwnSS w' w.heap.size w'.heap.size u ll ∧ OwnD w' w.heap.size g F ∧ Below w.heap.size w w'
section
set_option maxRecDepth 20000
set_option maxHeartbeats 3200000
theorem stepSearch8_any (c m at_ t : Int) (v f : Value) (ll : List (List Int)) (F : List (Int × Int)) (w : World) (hr : ReadSS w v ll) (hl : ll.length ≤ 1048576) (ht : ∀ i, i < ll.length → (ll.getD i []).length ≤ 1048576) (hf : ReadD w f F) (hF : F.length ≤ 1048576) :
    Calls Tryz.prog 5 #[srcV c v m at_ f t] w (RetSWB c m (ssA c ll m at_ F t) (ssT c ll m at_ F t) ll (ssF c ll m at_ F t) (nxB c ll m at_ F t) w) := by
  have HF := Lib.hid (fun w' (hb : Below w.heap.size w w') => isSearch8_any c m at_ t v f ll F w' (hr.kept hb) hl ht (hf.kept hb) hF)
  have HD := Lib.hid (fun w' (hb : Below w.heap.size w w') => isSearched8_any c m at_ t v f ll F w' (hr.kept hb) hl ht (hf.kept hb) hF)
  have HCP := Lib.hid (fun w' (hb : Below w.heap.size w w') => l8Copy_any c m at_ t v f ll F w' (hr.kept hb) hl ht (hf.kept hb) hF)
  obtain ⟨a, cap, rfl, -⟩ := hr
  obtain ⟨af, capf, rfl, -⟩ := hf
  obtain ⟨hx, hy, hb⟩ := SBI.pair w (.int .i64 c) (.slice a ll.length cap) (.int .i64 m) (.int .i64 at_) (.slice af F.length capf) (.int .i64 t) (.int .i64 0) (.slice none 0 0) (.int .i64 0) (.int .i64 0) (.slice none 0 0) (.int .i64 0)
  have HX := Lib.hid hx
  have HY := Lib.hid hy
  have HB := Lib.hid hb
  obtain ⟨⟨c0, c1, c2, c3, c4, c5⟩, -⟩ := HX.out.cells
  have HZ : Hid (((w.alloc (.cells #[.int .i64 c, .slice a ll.length cap, .int .i64 m, .int .i64 at_, .slice af F.length capf, .int .i64 t] 32)).alloc (.cells #[.int .i64 0, .slice none 0 0, .int .i64 0, .int .i64 0, .slice none 0 0, .int .i64 0] 32)).heap.size = w.heap.size + 2) := Lib.hid (by simp)
  unfold srcV at HF HCP HD ⊢
  clear hx hy hb ht
  go_enter Tryz.func5, Tryz.ntmps5
  go_wp2_with fail
  refine (HCP.out _ HB.out).mono ?_
  rintro e w1 ⟨u, g, rfl, ou, og, b1⟩
  have HB1 := Lib.hid (HB.out.trans (b1.mono HB.out.size))
  have hX1 := HX.out.kept b1
  have hY1 := HY.out.kept b1
  obtain ⟨au, capu, rfl, -⟩ := ou.read
  obtain ⟨ag, capg, rfl⟩ := og.shape
  rw [HZ.out] at ou og
  have hp := (Below.refl w1.heap.size w1).alloc (Nat.le_refl _) (.cells #[.int .i64 c, .slice au ll.length capu, .int .i64 m, .int .i64 at_, .slice ag F.length capg, .int .i64 t] 32)
  have HNX := Lib.hid (SBI.new w1 (.int .i64 c) (.slice au ll.length capu) (.int .i64 m) (.int .i64 at_) (.slice ag F.length capg) (.int .i64 t))
  have HX2 := Lib.hid (hX1.kept hp)
  have HY2 := Lib.hid (hY1.kept hp)
  have HB2 := Lib.hid (HB1.out.trans (hp.mono HB1.out.size))
  have HOU := Lib.hid (ou.same (w' := w1.alloc (.cells #[.int .i64 c, .slice au ll.length capu, .int .i64 m, .int .i64 at_, .slice ag F.length capg, .int .i64 t] 32)) (Below.keeps hp (Nat.le_refl _)))
  have HOG := Lib.hid (og.below hp (fun q hq => (og.lt q hq).2))
  have HS1 : Hid (w.heap.size + 2 ≤ w1.heap.size) := Lib.hid (by have := b1.size; rw [HZ.out] at this; exact this)
  unfold srcV
  clear c0 c1 c2 c3 c4 c5 b1 hX1 hY1 ou og hp HX HY HB HB1 HCP HZ
  obtain ⟨⟨c0, c1, c2, c3, c4, c5⟩, -⟩ := HX2.out.cells
  go_wp2_with fail
  refine (HF.out _ HB2.out).mono ?_
  rintro e w2 ⟨rfl, b2⟩
  have HNX2 := Lib.hid (HNX.out.kept b2)
  have HX3 := Lib.hid (HX2.out.kept b2)
  have HY3 := Lib.hid (HY2.out.kept b2)
  have HB3 := Lib.hid (HB2.out.trans (b2.mono HB2.out.size))
  have HOU2 := Lib.hid (HOU.out.same (Below.keeps b2 (by simp)))
  have HOG2 := Lib.hid (HOG.out.below b2 (fun q hq => (HOG.out.lt q hq).2))
  have HS2 : Hid (w1.heap.size < w2.heap.size) := Lib.hid (by have := b2.size; rw [World.size_alloc] at this; exact this)
  clear c0 c1 c2 c3 c4 c5 b2 HNX HX2 HY2 HB2 HOU HOG
  obtain ⟨p, hp⟩ : ∃ p, p = w1.heap.size := ⟨_, rfl⟩
  rw [← hp] at HNX2 HOU2 HS1 HS2 ⊢
  clear hp
  cases hs : isSB c ll m at_ F t with
  | false =>
    have e0 : nxB c ll m at_ F t = false := by unfold nxB; rw [hs]; simp
    have HE := Lib.hid (And.intro (show ssA c ll m at_ F t = at_ by unfold ssA; rw [e0]; rfl) (And.intro (show ssT c ll m at_ F t = t by unfold ssT; rw [e0]; rfl) (And.intro (show ssF c ll m at_ F t = F by unfold ssF; rw [e0]; rfl) e0)))
    clear e0
    clear hs HD
    have HFN := Lib.hid (sea_fin2 HOU2.out HOG2.out HB3.out (Nat.le_of_lt HS2.out) (.int .i64 c) (.slice au ll.length capu) (.int .i64 m) (.int .i64 at_) (.slice ag F.length capg) (.int .i64 t))
    obtain ⟨⟨d0, d1, d2, d3, d4, d5⟩, -⟩ := HNX2.out.cells
    obtain ⟨⟨r0, r1, r2, r3, r4, r5⟩, s0, s1, s2, s3, s4, s5⟩ := HY3.out.cells
    go_wp2_with fail
    exact bodyPost_ret (v := .tuple #[srcV c (.slice au ll.length capu) m at_ (.slice ag F.length capg) t, .bool false]) (by simp [srcV, results, Tryz.results5, go_sem, r0, r1, r2, r3, r4, r5]) rfl ⟨.slice au ll.length capu, .slice ag F.length capg, by rw [HE.out.1, HE.out.2.1, HE.out.2.2.2], by rw [HE.out.2.2.1]; exact HFN.out⟩
  | true =>
    obtain ⟨⟨c0, c1, c2, c3, c4, c5⟩, -⟩ := HX3.out.cells
    go_wp2_with fail
    refine (HD.out _ HB3.out).mono ?_
    rintro e w4 ⟨rfl, b4⟩
    replace HNX2 := Lib.hid (HNX2.out.kept b4)
    replace HX3 := Lib.hid (HX3.out.kept b4)
    replace HY3 := Lib.hid (HY3.out.kept b4)
    replace HB3 := Lib.hid (HB3.out.trans (b4.mono HB3.out.size))
    replace HOU2 := Lib.hid (HOU2.out.same (Below.keeps b4 (Nat.le_of_lt HS2.out)))
    replace HOG2 := Lib.hid (HOG2.out.below b4 (fun q hq => (HOG2.out.lt q hq).2))
    replace HS2 := Lib.hid (Nat.lt_of_lt_of_le HS2.out b4.size)
    clear c0 c1 c2 c3 c4 c5 b4
    cases hed : edB c ll m at_ F t with
    | true =>
      have e0 : nxB c ll m at_ F t = false := by unfold nxB; rw [hed]; simp
      have HE := Lib.hid (And.intro (show ssA c ll m at_ F t = at_ by unfold ssA; rw [e0]; rfl) (And.intro (show ssT c ll m at_ F t = t by unfold ssT; rw [e0]; rfl) (And.intro (show ssF c ll m at_ F t = F by unfold ssF; rw [e0]; rfl) e0)))
      clear e0
      clear hs hed
      have HFN := Lib.hid (sea_fin2 HOU2.out HOG2.out HB3.out (Nat.le_of_lt HS2.out) (.int .i64 c) (.slice au ll.length capu) (.int .i64 m) (.int .i64 at_) (.slice ag F.length capg) (.int .i64 t))
      obtain ⟨⟨d0, d1, d2, d3, d4, d5⟩, -⟩ := HNX2.out.cells
      obtain ⟨⟨r0, r1, r2, r3, r4, r5⟩, s0, s1, s2, s3, s4, s5⟩ := HY3.out.cells
      go_wp2_with fail
      exact bodyPost_ret (v := .tuple #[srcV c (.slice au ll.length capu) m at_ (.slice ag F.length capg) t, .bool false]) (by simp [srcV, results, Tryz.results5, go_sem, r0, r1, r2, r3, r4, r5]) rfl ⟨.slice au ll.length capu, .slice ag F.length capg, by rw [HE.out.1, HE.out.2.1, HE.out.2.2.2], by rw [HE.out.2.2.1]; exact HFN.out⟩
    | false =>
      have hnx : nxB c ll m at_ F t = true := by unfold nxB; rw [hs, hed]; rfl
      obtain ⟨C, K, n, rfl, rfl, rfl, hC1, hC5, hK, hN160, hfi, hrep⟩ := nxB_all hnx
      obtain ⟨⟨F9, n9⟩, h9⟩ : ∃ z, repN C ll m (K + 1) = z := ⟨_, rfl⟩
      have HE := Lib.hid (And.intro (show ssA (C : Int) ll m (K : Int) F (n : Int) = ((K + 1 : Nat) : Int) by unfold ssA; rw [hnx]; simp) (And.intro (show ssT (C : Int) ll m (K : Int) F (n : Int) = (n9 : Int) by unfold ssT; rw [hnx, show ((C : Int)).toNat = C from rfl, show ((K : Int)).toNat = K from rfl, h9]; rfl) (And.intro (show ssF (C : Int) ll m (K : Int) F (n : Int) = F9 by unfold ssF; rw [hnx, show ((C : Int)).toNat = C from rfl, show ((K : Int)).toNat = K from rfl, h9]; rfl) hnx)))
      have hcm := Cm.mk (w0 := w) (C := C) (m := m) (K := (K : Int)) (n0 := (n : Int)) (k := K) (p := p) HNX2.out HX3.out HY3.out HOU2.out HOG2.out HB3.out ⟨HS1.out, HS2.out⟩
      have HST := Lib.hid (l8Step_any C K n m F w _ _ (K : Int) (n : Int) _ _ ll p w4 (fineT_isT hfi) hK hrep hcm F9 n9 h9)
      clear hs hed hnx h9 hrep hfi hcm HNX2 HX3 HY3 HB3 HOU2 HOG2 HF HD
      go_wp2_with fail
      refine HST.out.mono ?_
      rintro e w5 ⟨rfl, g', hc5⟩
      obtain ⟨ag', capg', rfl⟩ := hc5.fnd.shape
      have HFN := Lib.hid (hc5.fin (.int .i64 (C : Int)) (.slice au ll.length capu) (.int .i64 m) (.int .i64 ((K + 1 : Nat) : Int)) (.slice ag' F9.length capg') (.int .i64 (n9 : Int)))
      obtain ⟨⟨d0, d1, d2, d3, d4, d5⟩, -⟩ := hc5.nx.cells
      obtain ⟨⟨r0, r1, r2, r3, r4, r5⟩, s0, s1, s2, s3, s4, s5⟩ := hc5.rb.cells
      obtain ⟨k9, hk9⟩ : ∃ k9, k9 = ((K + 1 : Nat) : Int) := ⟨_, rfl⟩
      rw [← hk9] at HFN HE d3
      clear hc5 HST hk9
      go_wp2_with fail
      exact bodyPost_ret (v := .tuple #[srcV (C : Int) (.slice au ll.length capu) m k9 (.slice ag' F9.length capg') (n9 : Int), .bool true]) (by simp [srcV, results, Tryz.results5, go_sem, r0, r1, r2, r3, r4, r5]) rfl ⟨.slice au ll.length capu, .slice ag' F9.length capg', by rw [HE.out.1, HE.out.2.1, HE.out.2.2.2], by rw [HE.out.2.2.1]; exact HFN.out⟩
end
end Go.Proofs.YtigecfbmdbpbhaaGreat
