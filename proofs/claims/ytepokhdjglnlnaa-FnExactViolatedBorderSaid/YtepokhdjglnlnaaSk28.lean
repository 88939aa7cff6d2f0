/- Texts of this claim, merged: MvB, CvC. Conditions: as stated. -/
import Derived.Test.YtepokhdjglnlnaaMvAm
import Derived.Test.YtepokhdjglnlnaaSk15
import Derived.Test.YtepokhdjglnlnaaSk16
import Derived.Test.YtepokhdjglnlnaaSk9
import Derived.Test.YtepokhdjglnlnaaParDm
import Derived.Maps.AppendAt
import Derived.Test.YtepokhdjglnlnaaSk20
import Derived.Test.YtepokhdjglnlnaaSk25
import Derived.Test.YtepokhdjglnlnaaDdRm
namespace Go.Proofs.Ytepokhdjglnlnaa
open Go.RowKit

noncomputable def imB (c : Int) (ll : List (List Int)) (m l r : Int) : Bool := okD c ll m l r && minN c.toNat ll m l.toNat r.toNat
theorem depB_small {c l r : Int} (h : depB c l r = true) : ∃ C L R : Nat, c = (C : Int) ∧ l = (L : Int) ∧ r = (R : Int) ∧ 1 ≤ C ∧ C ≤ 5 ∧ L < 2 ^ C ∧ L < 32 ∧ R < C := by
  obtain ⟨⟨h1, h5⟩, ha, h0, hr⟩ := depB_iff.1 h
  unfold isA at ha
  rw [decide_eq_true_iff] at ha
  obtain ⟨-, l0, l1⟩ := ha
  have e : ((2 ^ c.toNat : Nat) : Int) = (2 : Int) ^ c.toNat := by rw [Int.natCast_pow]; rfl
  have h32 := two5 (C := c.toNat) (by omega)
  exact ⟨c.toNat, l.toNat, r.toNat, by omega, by omega, by omega, by omega, by omega, by omega, by omega, by omega⟩
section
set_option maxRecDepth 20000
set_option maxHeartbeats 1600000
theorem isMinimalDep_any (c m l r : Int) (v : Value) (ll : List (List Int)) (w : World) (hr : ReadSS w v ll) (hl : ll.length ≤ 1048576) (ht : ∀ i, i < ll.length → (ll.getD i []).length ≤ 1048576) :
    Calls Try.prog 18 #[.agg #[.int .i64 c, v], .int .i64 m, .agg #[.int .i64 l, .int .i64 r]] w fun e w' => e = .returned (.bool (imB c ll m l r)) ∧ Below w.heap.size w w' := by
  have HF := Lib.hid (fun w' (hb : Below w.heap.size w w') => l4Fine_any c m v ll w' (hr.kept hb) hl ht)
  have HD := Lib.hid (isDep_any c l r)
  have HP := Lib.hid (fun (C L R : Nat) w' (hb : Below w.heap.size w w') hT (hL : L < 32) (hR : R < 5) => l7Minimal_any C m L R v ll w' (hr.kept hb) hT hL hR)
  obtain ⟨a, cap, rfl, -⟩ := hr
  have hb1 := (Below.refl w.heap.size w).alloc (Nat.le_refl _) (.cells #[.int .i64 c, .slice a ll.length cap] 28)
  have hb2 := hb1.alloc hb1.size (.cells #[.int .i64 l, .int .i64 r] 38)
  have HB2 := Lib.hid hb2
  have HTD := Lib.hid (TDc.mk' w 28 38 c (.slice a ll.length cap) l r)
  obtain ⟨⟨c0, c1⟩, d0, d1⟩ := HTD.out
  clear hb1 hb2 ht
  cases hf : fineT c ll m with
  | false =>
    have HE : Hid (imB c ll m l r = false) := Lib.hid (by unfold imB okD; rw [hf]; rfl)
    rw [hf] at HF
    clear hf
    go_enter Try.func18, Try.ntmps18
    go_wp2_with fail
    refine (HF.out _ HB2.out).mono ?_
    rintro e w1 ⟨rfl, b1⟩
    have hb2 := HB2.out.trans (b1.mono HB2.out.size)
    go_wp2_with fail
    go_ret
    exact ⟨by rw [HE.out]; rfl, hb2⟩
  | true =>
    rw [hf] at HF
    cases hd : depB c l r with
    | false =>
      have HE : Hid (imB c ll m l r = false) := Lib.hid (by unfold imB okD; rw [hd]; simp)
      rw [hd] at HD
      clear hf hd
      go_enter Try.func18, Try.ntmps18
      go_wp2_with fail
      refine (HF.out _ HB2.out).mono ?_
      rintro e w1 ⟨rfl, b1⟩
      have hb2 := HB2.out.trans (b1.mono HB2.out.size)
      have HT1 := Lib.hid (HTD.out.kept b1)
      clear b1 c0 c1 d0 d1
      obtain ⟨⟨c0, c1⟩, d0, d1⟩ := HT1.out
      go_wp2_with fail
      refine (HD.out _).mono ?_
      rintro e w2 ⟨rfl, b2⟩
      have hb4 := hb2.trans (b2.mono hb2.size)
      go_wp2_with fail
      go_ret
      exact ⟨by rw [HE.out]; rfl, hb4⟩
    | true =>
      rw [hd] at HD
      have hT := fineT_isT hf
      have hok : okD c ll m l r = true := by unfold okD; rw [hf, hd]; rfl
      obtain ⟨C, L, R, rfl, rfl, rfl, hC1, hC5, -, hL, hR⟩ := depB_small hd
      have HQ := Lib.hid (fun w' hb => HP.out C L R w' hb hT hL (by omega))
      have HE : Hid (imB (C : Int) ll m (L : Int) (R : Int) = minN C ll m L R) := Lib.hid (by unfold imB; rw [hok, Bool.true_and]; rfl)
      obtain ⟨x, hx⟩ : ∃ x, x = minN C ll m L R := ⟨_, rfl⟩
      rw [← hx] at HQ HE
      clear hf hd hT hok hx HP
      go_enter Try.func18, Try.ntmps18
      go_wp2_with fail
      refine (HF.out _ HB2.out).mono ?_
      rintro e w1 ⟨rfl, b1⟩
      have hb2 := HB2.out.trans (b1.mono HB2.out.size)
      have HT1 := Lib.hid (HTD.out.kept b1)
      clear b1 c0 c1 d0 d1
      obtain ⟨⟨c0, c1⟩, d0, d1⟩ := HT1.out
      go_wp2_with fail
      refine (HD.out _).mono ?_
      rintro e w2 ⟨rfl, b2⟩
      have hb4 := hb2.trans (b2.mono hb2.size)
      have HT2 := Lib.hid (HT1.out.kept b2)
      clear b2 c0 c1 d0 d1
      obtain ⟨⟨c0, c1⟩, d0, d1⟩ := HT2.out
      go_wp2_with fail
      refine (HQ.out _ hb4).mono ?_
      rintro e w3 ⟨rfl, b3⟩
      have hb5 := hb4.trans (b3.mono hb4.size)
      go_wp2_with fail
      go_ret
      exact ⟨ret_b HE.out, hb5⟩
/-- No two rows agree in all of the set's columns. -/
def uniqB (c : Int) (ll : List (List Int)) (m s : Int) : Bool := fineT c ll m && isA c s && decide ((clSt c.toNat ll m s ll.length).1.length = 0)
theorem isUnique_any (c m s : Int) (v : Value) (ll : List (List Int)) (w : World) (hr : ReadSS w v ll) (hl : ll.length ≤ 1048576) (ht : ∀ i, i < ll.length → (ll.getD i []).length ≤ 1048576) :
    Calls Try.prog 28 #[.agg #[.int .i64 c, v], .int .i64 m, .int .i64 s] w fun e w' => e = .returned (.bool (uniqB c ll m s)) ∧ Below w.heap.size w w' := by
  have hb1 := (Below.refl w.heap.size w).alloc (Nat.le_refl _) (.cells #[.int .i64 c, v] 28)
  have HF := Lib.hid (fun w' (hb : Below w.heap.size w w') => l4Fine_any c m v ll w' (hr.kept hb) hl ht)
  have HA := Lib.hid (fun w' => isA_any c s w')
  have HC := Lib.hid (fun w' (hb : Below w.heap.size w w') (hT : isT c ll = true) => classes5_any c m s v ll w' (hr.kept hb) hT)
  have HB1 := Lib.hid hb1
  obtain ⟨c0, c1⟩ := zero2 w 28 (.int .i64 c) v
  obtain ⟨a, cap, rfl, -⟩ := hr
  clear hb1 ht
  cases hf : fineT c ll m with
  | false =>
    have HE : Hid (uniqB c ll m s = false) := Lib.hid (by unfold uniqB; rw [hf]; rfl)
    rw [hf] at HF
    clear hf
    go_enter Try.func28, Try.ntmps28
    go_wp2_with fail
    refine (HF.out _ HB1.out).mono ?_
    rintro e w1 ⟨rfl, b1⟩
    have hb2 := HB1.out.trans (b1.mono HB1.out.size)
    go_wp2_with fail
    go_ret
    exact ⟨by rw [HE.out]; rfl, hb2⟩
  | true =>
    rw [hf] at HF
    cases ha : isA c s with
    | false =>
      have HE : Hid (uniqB c ll m s = false) := Lib.hid (by unfold uniqB; rw [ha]; simp)
      rw [ha] at HA
      clear hf ha
      go_enter Try.func28, Try.ntmps28
      go_wp2_with fail
      refine (HF.out _ HB1.out).mono ?_
      rintro e w1 ⟨rfl, b1⟩
      have hb2 := HB1.out.trans (b1.mono HB1.out.size)
      replace c0 := (b1.cell (World.block_lt_of_cell? _ _ c0)).trans c0
      replace c1 := (b1.cell (World.block_lt_of_cell? _ _ c1)).trans c1
      clear b1
      go_wp2_with fail
      refine (HA.out _).mono ?_
      rintro e w2 ⟨rfl, rfl⟩
      go_wp2_with fail
      go_ret
      exact ⟨by rw [HE.out]; rfl, hb2⟩
    | true =>
      rw [ha] at HA
      have hT := fineT_isT hf
      have HQ := Lib.hid (fun w' hb => HC.out w' hb hT)
      have hE : uniqB c ll m s = decide ((clSt c.toNat ll m s ll.length).1.length = 0) := by unfold uniqB; rw [hf, ha]; rfl
      obtain ⟨P, hP⟩ : ∃ P, P = (clSt c.toNat ll m s ll.length).1 := ⟨_, rfl⟩
      rw [← hP] at HQ hE
      obtain ⟨qb, hqb⟩ : ∃ qb, qb = decide (P.length = 0) := ⟨_, rfl⟩
      rw [← hqb] at hE
      have HE := Lib.hid hE
      have hq : ((P.length : Int) == 0) = qb := by rw [hqb, Bool.eq_iff_iff, beq_iff_eq, decide_eq_true_iff]; omega
      clear hqb
      clear hf ha hT hP hE HC
      go_enter Try.func28, Try.ntmps28
      go_wp2_with fail
      refine (HF.out _ HB1.out).mono ?_
      rintro e w1 ⟨rfl, b1⟩
      have hb2 := HB1.out.trans (b1.mono HB1.out.size)
      replace c0 := (b1.cell (World.block_lt_of_cell? _ _ c0)).trans c0
      replace c1 := (b1.cell (World.block_lt_of_cell? _ _ c1)).trans c1
      clear b1
      go_wp2_with fail
      refine (HA.out _).mono ?_
      rintro e w2 ⟨rfl, rfl⟩
      go_wp2_with fail
      refine (HQ.out _ hb2).mono ?_
      rintro e w3 ⟨vp, rfl, op, b3⟩
      have hb3 := hb2.trans (b3.mono hb2.size)
      obtain ⟨ap, capp, rfl, -⟩ := op.read
      clear b3 op
      go_wp2_with fail
      go_ret
      exact ⟨ret_b HE.out, hb3⟩
end
/-- The border; the keys. -/
noncomputable def vbL (c : Int) (ll : List (List Int)) (m q : Int) : List Int := if fineT c ll m = true ∧ 0 ≤ q ∧ q < c then brdL c.toNat ll m q.toNat else []
def mkL (c : Int) (ll : List (List Int)) (m : Int) : List Int := minS (if fineT c ll m = true then brdTo (fun x => uniqB c ll m (x : Int)) (2 ^ c.toNat) else [])
noncomputable def mdL (c : Int) (ll : List (List Int)) (m : Int) : List (Int × Int) := if fineT c ll m = true then minD c.toNat ll m else []
noncomputable def apL (c : Int) (ll : List (List Int)) (m rows : Int) : List (Int × Int) := if fineT c ll m = true ∧ 0 ≤ rows then appD c.toNat ll m rows else []
theorem mdL_len (c : Int) (ll : List (List Int)) (m : Int) : (mdL c ll m).length ≤ 160 := by
  unfold mdL
  split
  · rename_i h
    have := isT_bd (fineT_isT h)
    exact minD_len (by omega)
  · simp
theorem ownD_new (w : World) (B : Nat) (hB : B ≤ w.heap.size) : OwnD (w.alloc (.cells #[] 38)) B (.slice (some ⟨w.heap.size, 0, none⟩) 0 0) [] := World.ownsRow_made w #[] 0 hB (by unfold maxLen; omega) rfl
theorem mdIn_succ (f : Int → Nat → Bool) (ps : List Int) (r : Nat) (l0 : List (Int × Int)) (i : Nat) : mdIn f ps r l0 (i + 1) = if f (ps.getD i 0) r = true then mdIn f ps r l0 i ++ [(ps.getD i 0, (r : Int))] else mdIn f ps r l0 i := rfl
section
set_option maxRecDepth 20000
set_option maxHeartbeats 3200000
theorem minimalDeps_any (c m : Int) (v : Value) (ll : List (List Int)) (w : World) (hr : ReadSS w v ll) (hl : ll.length ≤ 1048576) (ht : ∀ i, i < ll.length → (ll.getD i []).length ≤ 1048576) :
    Calls Try.prog 10 #[.agg #[.int .i64 c, v], .int .i64 m] w (RetD (mdL c ll m) w) := by
  obtain ⟨i0, hi, hz0, hz1, hz2⟩ := info_parts infoDp
  have HI : Hid (_ ∧ _ ∧ _ ∧ _) := Lib.hid ⟨hi, hz0, hz1, hz2⟩
  clear hi hz0 hz1 hz2
  have hb1 := (Below.refl w.heap.size w).alloc (Nat.le_refl _) (.cells #[.int .i64 c, v] 28)
  have hb2 := hb1.alloc hb1.size (.cells #[] 38)
  have hb12 := (Below.refl (w.alloc (.cells #[.int .i64 c, v] 28)).heap.size (w.alloc (.cells #[.int .i64 c, v] 28))).alloc (Nat.le_refl _) (.cells #[] 38)
  have HF := Lib.hid (fun w' (hb : Below w.heap.size w w') => l4Fine_any c m v ll w' (hr.kept hb) hl ht)
  have HM := Lib.hid (fun (C L R : Nat) w' (hb : Below w.heap.size w w') hT (hL : L < 32) (hR : R < 5) => l7Minimal_any C m L R v ll w' (hr.kept hb) hT hL hR)
  have HB2 := Lib.hid hb2
  have ho2 := ownD_new (w.alloc (.cells #[.int .i64 c, v] 28)) (w.heap.size + 1) (by simp)
  rw [World.size_alloc] at ho2
  obtain ⟨c0, c1⟩ := zero2 w 28 (.int .i64 c) v
  replace c0 := (hb12.cell (World.block_lt_of_cell? _ _ c0)).trans c0
  replace c1 := (hb12.cell (World.block_lt_of_cell? _ _ c1)).trans c1
  obtain ⟨a, cap, rfl, -⟩ := hr
  clear hb1 hb2 ht hb12
  cases hf : fineT c ll m with
  | false =>
    have HE : Hid (mdL c ll m = []) := Lib.hid (by unfold mdL; rw [hf]; rfl)
    rw [hf] at HF
    clear hf
    go_enter Try.func10, Try.ntmps10
    go_wp2_with fail
    refine (HF.out _ HB2.out).mono ?_
    rintro e w1 ⟨rfl, b1⟩
    have hb2 := HB2.out.trans (b1.mono HB2.out.size)
    have ho3 := ho2.below b1 (fun k hk => (ho2.lt k hk).2)
    clear b1 ho2
    go_wp2_with fail
    go_ret
    exact ⟨_, rfl, by rw [HE.out]; exact ho3.base (by omega), hb2⟩
  | true =>
    rw [hf] at HF
    have hT := fineT_isT hf
    obtain ⟨hc1, hc5, h40⟩ := isT_bd hT
    obtain ⟨C, rfl⟩ : ∃ C : Nat, c = (C : Int) := ⟨c.toNat, by omega⟩
    have HE : Hid (mdL (C : Int) ll m = mdOut (fun S r => minN C ll m S.toNat r) (parts (C : Int)) C) := Lib.hid (by unfold mdL; rw [if_pos hf]; rfl)
    have HQ := Lib.hid (fun (L R : Nat) w' hb hL (hR : R < 5) => HM.out C L R w' hb hT hL hR)
    have HP := Lib.hid (partsS_any (C : Int))
    have HSM := Lib.hid (fun S hS => parts_small (C : Int) S hS)
    have hpl := parts_len32 (C := C) (by omega)
    have HLEN := Lib.hid (fun r => mdOut_len (fun S r => minN C ll m S.toNat r) (parts (C : Int)) r)
    have HLEI := Lib.hid (fun r l0 n => mdIn_len (fun S r => minN C ll m S.toNat r) (parts (C : Int)) r l0 n)
    have HSI := Lib.hid (fun r l0 i => mdIn_succ (fun S r => minN C ll m S.toNat r) (parts (C : Int)) r l0 i)
    obtain ⟨ps, hps⟩ : ∃ ps, ps = parts (C : Int) := ⟨_, rfl⟩
    rw [← hps] at HE HP HSM hpl HLEN HLEI HSI
    clear hf hT HM hps
    go_enter Try.func10, Try.ntmps10
    go_wp2_with fail
    refine (HF.out _ HB2.out).mono ?_
    rintro e w1 ⟨rfl, b1⟩
    have hb2 := HB2.out.trans (b1.mono HB2.out.size)
    have ho3 := ho2.below b1 (fun k hk => (ho2.lt k hk).2)
    replace c0 := (b1.cell (World.block_lt_of_cell? _ _ c0)).trans c0
    replace c1 := (b1.cell (World.block_lt_of_cell? _ _ c1)).trans c1
    clear b1 ho2
    go_wp2_with fail
    refine (HP.out _).mono ?_
    rintro e w2 ⟨vp, rfl, op, b2⟩
    have hb3 := hb2.trans (b2.mono hb2.size)
    have ho4 := ho3.below b2 (fun k hk => (ho3.lt k hk).2)
    replace c0 := (b2.cell (World.block_lt_of_cell? _ _ c0)).trans c0
    replace c1 := (b2.cell (World.block_lt_of_cell? _ _ c1)).trans c1
    have op' := op.base (B' := w.heap.size) hb2.size
    obtain ⟨ap, capp, hvp, -⟩ := op.read
    subst hvp
    have HO := Lib.hid ho4
    have HB := Lib.hid hb3
    have HPS := Lib.hid op'
    have HBX := Lib.hid (And.intro c0 c1)
    clear b2 op ho3 ho4 hb2 hb3 op' c0 c1
    go_wp2_with fail
    go_loopw [5, 7] (fun ov rv wr => ∃ (r : Nat) (q : List (Int × Int)), r ≤ C ∧ rv = .int .i64 (r : Int) ∧ Hid (q = mdOut (fun S r => minN C ll m S.toNat r) ps r) ∧ Hid (OwnD wr (w.heap.size + 1) ov q) ∧ Hid (OwnI wr w.heap.size (.slice ap ps.length capp) ps) ∧ Hid (wr.cell? ⟨w.heap.size, 0, none⟩ = some (.int .i64 (C : Int)) ∧ wr.cell? ⟨w.heap.size, 1, none⟩ = some (.slice a ll.length cap)) ∧ Hid (Below w.heap.size w wr)) (fun _ rv _ => C - (intOf rv).toNat)
    case atStart => exact ⟨0, [], by omega, rfl, Lib.hid rfl, HO, HPS, HBX, HB⟩
    case round =>
      clear HO HPS HBX HB
      obtain ⟨r, q, hr, rfl, hq, HO, HPS, HBX, HB⟩ := hrel
      obtain ⟨w3, hw3⟩ : ∃ w', w' = wr := ⟨_, rfl⟩
      rw [← hw3] at HO HPS HBX HB ⊢
      clear hw3
      obtain ⟨c0, c1⟩ := HBX.out
      by_cases hlt : r < C
      · have HSR := Lib.hid (HSI.out r q)
        have HLR := Lib.hid (HLEI.out r q)
        have hql : q.length ≤ 160 := by
          have h := HLEN.out r
          rw [← hq.out] at h
          have : r * ps.length ≤ 5 * 32 := Nat.mul_le_mul (by omega) hpl
          omega
        have HNX : Hid (mdOut (fun S r => minN C ll m S.toNat r) ps (r + 1) = mdIn (fun S r => minN C ll m S.toNat r) ps r q ps.length) := Lib.hid (by rw [hq.out]; rfl)
        have HQR := Lib.hid (fun (L : Nat) w' hb hL => HQ.out L r w' hb hL (by omega))
        obtain ⟨ov0, hov⟩ : ∃ x, x = u5 := ⟨_, rfl⟩
        rw [← hov] at HO ⊢
        have z0 : (0 : Int) ≤ (r : Int) := by omega
        have z1 : (r : Int) < (C : Int) := by omega
        clear hov hq
        go_wp2_with fail
        go_loopw [5, 8, 9] (fun ov jv _ wr => ∃ (k : Nat) (q2 : List (Int × Int)), k ≤ ps.length ∧ jv = .int .i64 (k : Int) ∧ Hid (q2 = mdIn (fun S r => minN C ll m S.toNat r) ps r q k) ∧ Hid (OwnD wr (w.heap.size + 1) ov q2) ∧ Hid (OwnI wr w.heap.size (.slice ap ps.length capp) ps) ∧ Hid (wr.cell? ⟨w.heap.size, 0, none⟩ = some (.int .i64 (C : Int)) ∧ wr.cell? ⟨w.heap.size, 1, none⟩ = some (.slice a ll.length cap)) ∧ Hid (Below w.heap.size w wr)) (fun _ jv _ _ => ps.length - (intOf jv).toNat)
        case atStart => exact ⟨0, q, by omega, rfl, Lib.hid rfl, HO, HPS, HBX, HB⟩
        case round =>
          clear HO HPS HBX HB c0 c1
          obtain ⟨k, q2, hk, rfl, hq2, HO, HPS, HBX, HB⟩ := hrel
          obtain ⟨w4, hw4⟩ : ∃ w', w' = wr := ⟨_, rfl⟩
          rw [← hw4] at HO HPS HBX HB ⊢
          clear hw4
          by_cases hlt2 : k < ps.length
          · obtain ⟨x, rfl, hx⟩ : ∃ x, ap = some x ∧ w4.cell? (x.add k) = some (.int .i64 (ps.getD k 0)) := by
              obtain ⟨a', cap', hv, hc⟩ := HPS.out.read
              cases hv
              obtain ⟨x, e1, e2⟩ := hc k hlt2
              rw [get_getD ps k hlt2] at e2
              exact ⟨x, e1, e2⟩
            obtain ⟨X, hX, hX32⟩ := HSM.out (ps.getD k 0) (by rw [← get_getD ps k hlt2]; exact List.getElem_mem hlt2)
            have hql2 : q2.length ≤ 1000 := by rw [hq2.out]; have := HLR.out k; omega
            have hS := HSR.out k
            rw [← hq2.out] at hS
            rw [hX] at hx hS
            rw [show ((X : Int)).toNat = X from rfl] at hS
            have HC := Lib.hid (fun w' hb => HQR.out X w' hb hX32)
            obtain ⟨bb, hbb⟩ : ∃ bb, bb = minN C ll m X r := ⟨_, rfl⟩
            rw [← hbb] at HC hS
            have HS := Lib.hid hS
            obtain ⟨c0, c1⟩ := HBX.out
            have hwb := (Below.refl w4.heap.size w4).alloc (Nat.le_refl _) (.cells #[.int .i64 (X : Int), .int .i64 (r : Int)] 38)
            have HB5 := Lib.hid (HB.out.trans (hwb.mono HB.out.size))
            obtain ⟨e0, e1⟩ := zero2 w4 38 (.int .i64 (X : Int)) (.int .i64 (r : Int))
            have ho5 := HO.out.below hwb (fun k hk => (HO.out.lt k hk).2)
            have hp5 := HPS.out.kept hwb (fun k hk => (HPS.out.lt k hk).2)
            have c05 := (hwb.cell (World.block_lt_of_cell? _ _ c0)).trans c0
            have c15 := (hwb.cell (World.block_lt_of_cell? _ _ c1)).trans c1
            have z2 : (0 : Int) ≤ (k : Int) := by omega
            have z3 : (k : Int) < (ps.length : Int) := by omega
            clear hX hbb hS hwb
            cases bb with
            | true =>
              rw [if_pos rfl] at HS
              have HO5 := Lib.hid ho5
              have HP5 := Lib.hid hp5
              clear ho5 hp5
              go_wp2_with fail
              refine (HC.out _ HB5.out).mono ?_
              rintro e w6 ⟨rfl, b6⟩
              replace e0 := (b6.cell (World.block_lt_of_cell? _ _ e0)).trans e0
              replace e1 := (b6.cell (World.block_lt_of_cell? _ _ e1)).trans e1
              have c06 := (b6.cell (World.block_lt_of_cell? _ _ c05)).trans c05
              have c16 := (b6.cell (World.block_lt_of_cell? _ _ c15)).trans c15
              have ho6 := HO5.out.below b6 (fun k hk => (HO5.out.lt k hk).2)
              have hp6 := HP5.out.kept b6 (fun k hk => (HP5.out.lt k hk).2)
              have hb6 := HB5.out.trans (b6.mono HB5.out.size)
              have HO6 := Lib.hid ho6
              clear b6 c0 c1 c05 c15 hx
              go_wp2_with (at_builtin; refine wpList_append_own _ rfl _ _ 26 rfl (w.heap.size + 1) 38 i0 (.agg #[.int .i64 0, .int .i64 0]) 2 16 Try.underlying26 HI.out.1 HI.out.2.1 HI.out.2.2.1 HI.out.2.2.2 rfl (by decide) _ _ _ rfl (World.ownsRow.alloc ho6 _) ⟨w6.heap.size, 0, none⟩ 1 1 [.int .i64 (X : Int), .int .i64 (r : Int)] rfl rfl (cell_two_new _ _ _ _) (two_i64 _ _) (by unfold maxLen; omega) (by omega) (by have := hb6.size; simp; omega) ?_; intro v7 w7 hown7 hgrow7 _)
              have ho7 := Lib.hid (OwnD.snoc hown7)
              have ha6 := (Below.refl w6.heap.size w6).alloc (Nat.le_refl _) (.cells #[.int .i64 (X : Int), .int .i64 (r : Int)] 38)
              have hb7 := Lib.hid ((hb6.alloc hb6.size (.cells #[.int .i64 (X : Int), .int .i64 (r : Int)] 38)).grown hgrow7 (by simp; have := hb6.size; omega) (fun k hk => by have := (HO6.out.lt k hk).1; omega))
              have hi6 := hp6.kept ha6 (fun k hk => (hp6.lt k hk).2)
              have hi7 := Lib.hid (hi6.keptBy hgrow7 (fun g hg => dep_apart (World.ownsRow.alloc HO6.out _) hi6 g hg))
              have c7 := Lib.hid (And.intro ((kept_cell hgrow7 (fun g hg => (HO6.out.lt g hg).1) (World.block_lt_of_cell? _ _ ((ha6.cell (World.block_lt_of_cell? _ _ c06)).trans c06)) (Nat.le_refl _)).trans ((ha6.cell (World.block_lt_of_cell? _ _ c06)).trans c06)) ((kept_cell hgrow7 (fun g hg => (HO6.out.lt g hg).1) (World.block_lt_of_cell? _ _ ((ha6.cell (World.block_lt_of_cell? _ _ c16)).trans c16)) (Nat.le_refl _)).trans ((ha6.cell (World.block_lt_of_cell? _ _ c16)).trans c16)))
              clear hown7 hgrow7 hi6 ha6 c06 c16 e0 e1 ho6 hp6 hb6
              go_wp2_with fail
              go_roundw
              case rel => exact ⟨k + 1, _, by omega, by go_num, Lib.hid (by rw [HS.out]), ho7, hi7, c7, hb7⟩
              case measure => simp [intOf]; omega
            | false =>
              rw [if_neg (by decide)] at HS
              have HO5 := Lib.hid ho5
              have HP5 := Lib.hid hp5
              clear ho5 hp5
              go_wp2_with fail
              refine (HC.out _ HB5.out).mono ?_
              rintro e w6 ⟨rfl, b6⟩
              have c06 := (b6.cell (World.block_lt_of_cell? _ _ c05)).trans c05
              have c16 := (b6.cell (World.block_lt_of_cell? _ _ c15)).trans c15
              have ho6 := Lib.hid (HO5.out.below b6 (fun k hk => (HO5.out.lt k hk).2))
              have hp6 := Lib.hid (HP5.out.kept b6 (fun k hk => (HP5.out.lt k hk).2))
              have hb6 := Lib.hid (HB5.out.trans (b6.mono HB5.out.size))
              have c6 := Lib.hid (And.intro c06 c16)
              clear b6 c0 c1 c05 c15 hx c06 c16 e0 e1
              go_wp2_with fail
              go_roundw
              case rel => exact ⟨k + 1, _, by omega, by go_num, Lib.hid (by rw [HS.out]), ho6, hp6, c6, hb6⟩
              case measure => simp [intOf]; omega
          · obtain rfl : k = ps.length := by omega
            have HQ2 := Lib.hid (hq2.out.trans HNX.out.symm)
            go_wp2_with fail
            go_roundw
            case rel => exact ⟨r + 1, _, by omega, by go_num, HQ2, HO, HPS, HBX, HB⟩
            case measure => simp [intOf]; omega
      · obtain rfl : r = C := by omega
        go_wp2_with fail
        go_ret
        exact ⟨_, rfl, by rw [HE.out, ← hq.out]; exact HO.out.base (by omega), HB.out⟩
end
end Go.Proofs.Ytepokhdjglnlnaa
namespace Go.Proofs.Ytepokhdjglnlnaa
open Go.RowKit

theorem candL_len (C : Nat) (hC : C ≤ 5) : (candL C).length ≤ 160 := cand_len C C hC (Nat.le_refl _)
set_option maxHeartbeats 1600000 in
theorem leastMD_any (c1 c2 : Value) (p : Int × Int → Bool) (C : Nat) (hC : C ≤ 5) (w : World)
    (HP : ∀ x, x ∈ candL C → ∀ w', Below w.heap.size w w' → Calls Try.prog 39 #[.agg #[.int .i64 x.1, .int .i64 x.2], c1, c2] w' fun e w'' => e = .returned (.bool (p x)) ∧ Below w'.heap.size w' w'') :
    Calls Try.prog 38 #[.int .i64 (C : Int), .func (.func 39) #[] #[c1, c2]] w (RetD (uncL ((candL C).filter p)) w) := by
  have HC := Lib.hid (candOf_any C hC w)
  have hlen := candL_len C hC
  have hlf := List.length_filter_le p (candL C)
  have HF := Lib.hid (fun v w' (hb : Below w.heap.size w w') (hr : ReadD w' v (candL C)) => filtMD_any c1 c2 p v (candL C) w' hr (by omega) (fun x hx w'' hb' => HP x hx w'' (hb.trans (hb'.mono hb.size))))
  have HU := Lib.hid (fun v w' (hr : ReadD w' v ((candL C).filter p)) => uncovered_any v ((candL C).filter p) w' hr (by omega))
  clear HP hlen hlf
  go_enter Try.func38, Try.ntmps38
  go_wp2_with fail
  refine HC.out.mono ?_
  rintro e w1 ⟨v1, rfl, o1, b1⟩
  have HG := Lib.hid (HF.out v1 w1 b1 o1.read)
  clear o1
  go_wp2_with fail
  refine HG.out.mono ?_
  rintro e w2 ⟨v2, rfl, o2, b2⟩
  have hb2 := b1.trans (b2.mono b1.size)
  have HV := Lib.hid (HU.out v2 w2 o2.read)
  clear o2 b1 b2
  go_wp2_with fail
  refine HV.out.mono ?_
  rintro e w3 ⟨v3, rfl, o3, b3⟩
  have hb3 := hb2.trans (b3.mono hb2.size)
  have o4 := o3.base hb2.size
  clear o3 b3 hb2
  go_wp2_with fail
  go_ret
  exact ⟨_, rfl, o4, hb3⟩
set_option maxHeartbeats 1600000 in
theorem leastAD_any (c1 c2 c3 : Value) (p : Int × Int → Bool) (C : Nat) (hC : C ≤ 5) (w : World)
    (HP : ∀ x, x ∈ candL C → ∀ w', Below w.heap.size w w' → Calls Try.prog 66 #[.agg #[.int .i64 x.1, .int .i64 x.2], c1, c2, c3] w' fun e w'' => e = .returned (.bool (p x)) ∧ Below w'.heap.size w' w'') :
    Calls Try.prog 38 #[.int .i64 (C : Int), .func (.func 66) #[] #[c1, c2, c3]] w (RetD (uncL ((candL C).filter p)) w) := by
  have HC := Lib.hid (candOf_any C hC w)
  have hlen := candL_len C hC
  have hlf := List.length_filter_le p (candL C)
  have HF := Lib.hid (fun v w' (hb : Below w.heap.size w w') (hr : ReadD w' v (candL C)) => filtAD_any c1 c2 c3 p v (candL C) w' hr (by omega) (fun x hx w'' hb' => HP x hx w'' (hb.trans (hb'.mono hb.size))))
  have HU := Lib.hid (fun v w' (hr : ReadD w' v ((candL C).filter p)) => uncovered_any v ((candL C).filter p) w' hr (by omega))
  clear HP hlen hlf
  go_enter Try.func38, Try.ntmps38
  go_wp2_with fail
  refine HC.out.mono ?_
  rintro e w1 ⟨v1, rfl, o1, b1⟩
  have HG := Lib.hid (HF.out v1 w1 b1 o1.read)
  clear o1
  go_wp2_with fail
  refine HG.out.mono ?_
  rintro e w2 ⟨v2, rfl, o2, b2⟩
  have hb2 := b1.trans (b2.mono b1.size)
  have HV := Lib.hid (HU.out v2 w2 o2.read)
  clear o2 b1 b2
  go_wp2_with fail
  refine HV.out.mono ?_
  rintro e w3 ⟨v3, rfl, o3, b3⟩
  have hb3 := hb2.trans (b3.mono hb2.size)
  have o4 := o3.base hb2.size
  clear o3 b3 hb2
  go_wp2_with fail
  go_ret
  exact ⟨_, rfl, o4, hb3⟩
/-- A table in a block of its own, a number in the next one; a third behind it. -/
structure Env2 (w : World) (b : Nat) (c m : Int) (v : Value) (ll : List (List Int)) : Prop where
  t0 : w.cell? ⟨b, 0, none⟩ = some (.int .i64 c)
  t1 : w.cell? ⟨b, 1, none⟩ = some v
  m0 : w.cell? ⟨b + 1, 0, none⟩ = some (.int .i64 m)
  s : ReadSS w v ll
theorem Env2.kept {w w' : World} {b : Nat} {c m : Int} {v : Value} {ll : List (List Int)} (h : Env2 w b c m v ll) (hb : Below w.heap.size w w') : Env2 w' b c m v ll :=
  ⟨(hb.cell (World.block_lt_of_cell? _ _ h.t0)).trans h.t0, (hb.cell (World.block_lt_of_cell? _ _ h.t1)).trans h.t1, (hb.cell (World.block_lt_of_cell? _ _ h.m0)).trans h.m0, h.s.kept hb⟩
theorem Env2.mk' {w : World} {c m : Int} {v : Value} {ll : List (List Int)} (h : ReadSS w v ll) (T T' : TypeId) : Env2 ((w.alloc (.cells #[.int .i64 c, v] T)).alloc (.cells #[.int .i64 m] T')) w.heap.size c m v ll := by
  have hb1 := (Below.refl w.heap.size w).alloc (Nat.le_refl _) (.cells #[.int .i64 c, v] T)
  obtain ⟨c0, c1⟩ := zero2 w T (.int .i64 c) v
  have hb2 := (Below.refl (w.alloc (.cells #[.int .i64 c, v] T)).heap.size (w.alloc (.cells #[.int .i64 c, v] T))).alloc (Nat.le_refl _) (.cells #[.int .i64 m] T')
  have hm := one_at (w.alloc (.cells #[.int .i64 c, v] T)) T' (.int .i64 m)
  rw [World.size_alloc] at hm
  exact ⟨(hb2.cell (World.block_lt_of_cell? _ _ c0)).trans c0, (hb2.cell (World.block_lt_of_cell? _ _ c1)).trans c1, hm, (h.kept hb1).kept hb2⟩
set_option maxHeartbeats 1600000 in
theorem minFun7_any (c m : Int) (v : Value) (ll : List (List Int)) (_w1 : (Lit.int .i64 m).wf = true) (b : Nat) (d0 d1 : Int) (_w2 : (Lit.int .i64 d0).wf = true) (_w3 : (Lit.int .i64 d1).wf = true) (w : World) (he : Env2 w b c m v ll) (hl : ll.length ≤ 1048576) (ht : ∀ i, i < ll.length → (ll.getD i []).length ≤ 1048576) :
    Calls Try.prog 39 #[.agg #[.int .i64 d0, .int .i64 d1], .pointer (some ⟨b, 0, none⟩), .pointer (some ⟨b + 1, 0, none⟩)] w fun e w' => e = .returned (.bool (holdsD c ll m d0 d1)) ∧ Below w.heap.size w w' := by
  have hb1 := (Below.refl w.heap.size w).alloc (Nat.le_refl _) (.cells #[.int .i64 d0, .int .i64 d1] 38)
  have HB := Lib.hid hb1
  obtain ⟨c0, c1⟩ := zero2 w 38 (.int .i64 d0) (.int .i64 d1)
  have he' := he.kept hb1
  have HH := Lib.hid (implHoldsDep_any c m d0 d1 v ll _w1 _w2 _w3 (w.alloc (.cells #[.int .i64 d0, .int .i64 d1] 38)) he'.s hl ht)
  obtain ⟨t0, t1, m0, hs⟩ := he'
  obtain ⟨a, cap, rfl, -⟩ := hs
  clear hb1 he ht
  go_enter Try.func39, Try.ntmps39
  go_wp2_with fail
  refine HH.out.mono ?_
  rintro e w2 ⟨rfl, b2⟩
  have hb2 := HB.out.trans (b2.mono HB.out.size)
  go_wp2_with fail
  go_ret
  exact ⟨rfl, hb2⟩
set_option maxHeartbeats 1600000 in
theorem appFun7_any (c m rows : Int) (v : Value) (ll : List (List Int)) (_w1 : (Lit.int .i64 m).wf = true) (b : Nat) (d0 d1 : Int) (_w2 : (Lit.int .i64 d0).wf = true) (_w3 : (Lit.int .i64 d1).wf = true) (w : World) (he : Env2 w b c m v ll) (hr : w.cell? ⟨b + 2, 0, none⟩ = some (.int .i64 rows)) (hl : ll.length ≤ 1048576) (ht : ∀ i, i < ll.length → (ll.getD i []).length ≤ 1048576) :
    Calls Try.prog 66 #[.agg #[.int .i64 d0, .int .i64 d1], .pointer (some ⟨b, 0, none⟩), .pointer (some ⟨b + 1, 0, none⟩), .pointer (some ⟨b + 2, 0, none⟩)] w fun e w' => e = .returned (.bool (decide (remD c ll m d0 d1 ≤ rows))) ∧ Below w.heap.size w w' := by
  have hb1 := (Below.refl w.heap.size w).alloc (Nat.le_refl _) (.cells #[.int .i64 d0, .int .i64 d1] 38)
  have HB := Lib.hid hb1
  obtain ⟨c0, c1⟩ := zero2 w 38 (.int .i64 d0) (.int .i64 d1)
  have he' := he.kept hb1
  replace hr := (hb1.cell (World.block_lt_of_cell? _ _ hr)).trans hr
  have HH := Lib.hid (fun w' (hb : Below (w.alloc (.cells #[.int .i64 d0, .int .i64 d1] 38)).heap.size (w.alloc (.cells #[.int .i64 d0, .int .i64 d1] 38)) w') => implRowsToRemove_any c m d0 d1 v ll _w1 _w2 _w3 w' (he'.s.kept hb) hl ht)
  have HR := Lib.hid (fun w' (hb : Below (w.alloc (.cells #[.int .i64 d0, .int .i64 d1] 38)).heap.size (w.alloc (.cells #[.int .i64 d0, .int .i64 d1] 38)) w') => (hb.cell (World.block_lt_of_cell? _ _ hr)).trans hr)
  obtain ⟨t0, t1, m0, hs⟩ := he'
  obtain ⟨a, cap, rfl, -⟩ := hs
  obtain ⟨q, hq⟩ : ∃ q, q = remD c ll m d0 d1 := ⟨_, rfl⟩
  rw [← hq] at HH
  rw [← hq]
  clear hb1 he ht hq
  go_enter Try.func66, Try.ntmps66
  go_wp2_with fail
  go_region_law (go_simp; go_at_call 67; refine (HH.out _ (Below.refl _ _).drew).mono ?_; rintro e w2 ⟨rfl, b2⟩; have hr2 := HR.out w2 ((Below.refl _ _).drew.trans b2); have hb2 := HB.out.trans (((Below.refl _ _).drew.trans b2).mono HB.out.size))
  all_goals
    go_wp2_with fail
    go_ret
    exact ⟨rfl, hb2⟩
theorem cand_wf {C : Nat} (hC : C ≤ 5) {x : Int × Int} (h : x ∈ candL C) : (Lit.int .i64 x.1).wf = true ∧ (Lit.int .i64 x.2).wf = true := by
  obtain ⟨r, r1, S, r2, -, rfl⟩ := (mdOut_mem _ _ _ _).1 h
  obtain ⟨X, rfl, hX⟩ := parts_small _ S r2
  have k1 : ∀ X : Fin 32, (Lit.int .i64 ((X.val : Nat) : Int)).wf = true := by decide +kernel
  exact ⟨k1 ⟨X, hX⟩, k1 ⟨r, by omega⟩⟩
set_option maxHeartbeats 3200000 in
theorem implMinimalDeps_any (c m : Int) (v : Value) (ll : List (List Int)) (_w1 : (Lit.int .i64 m).wf = true) (w : World) (hr : ReadSS w v ll) (hl : ll.length ≤ 1048576) (ht : ∀ i, i < ll.length → (ll.getD i []).length ≤ 1048576) :
    Calls Try.prog 12 #[.agg #[.int .i64 c, v], .int .i64 m] w (RetD (mdL c ll m) w) := by
  have hb1 := (Below.refl w.heap.size w).alloc (Nat.le_refl _) (.cells #[.int .i64 c, v] 28)
  have hb2 := hb1.alloc hb1.size (.cells #[.int .i64 m] 3)
  have he := Env2.mk' (c := c) (m := m) hr 28 3
  have HM := Lib.hid (inMode_any c m v ll _ he.s hl ht)
  have HB := Lib.hid hb2
  have hs1 : (w.alloc (.cells #[.int .i64 c, v] 28)).heap.size = w.heap.size + 1 := by simp
  cases hf : fineT c ll m with
  | false =>
    have HE : Hid (mdL c ll m = []) := Lib.hid (by unfold mdL; rw [hf]; rfl)
    rw [hf] at HM
    obtain ⟨t0, t1, m0, hs⟩ := he
    obtain ⟨a, cap, rfl, -⟩ := hs
    clear hf hb1 hb2 ht
    go_enter Try.func12, Try.ntmps12
    go_wp2_with fail
    refine HM.out.mono ?_
    rintro e w1 ⟨rfl, b1⟩
    have hb3 := HB.out.trans (b1.mono HB.out.size)
    go_wp2_with fail
    go_ret
    exact ⟨_, rfl, by rw [HE.out]; exact OwnD.nil _ _, hb3⟩
  | true =>
    have hT := fineT_isT hf
    obtain ⟨hc1, hc5, h40⟩ := isT_bd hT
    obtain ⟨C, rfl⟩ : ∃ C : Nat, c = (C : Int) := ⟨c.toNat, by omega⟩
    have HE : Hid (mdL (C : Int) ll m = uncL ((candL C).filter (fun d => holdsD (C : Int) ll m d.1 d.2))) := Lib.hid (by
      unfold mdL
      rw [if_pos hf, unc_min hf (by omega) (by omega)]; rfl)
    have HL := Lib.hid (fun w' (h : Env2 w' w.heap.size (C : Int) m v ll) => leastMD_any (.pointer (some ⟨w.heap.size, 0, none⟩)) (.pointer (some ⟨w.heap.size + 1, 0, none⟩)) (fun d => holdsD (C : Int) ll m d.1 d.2) C (by omega) w'
      (fun x hx w'' hb => minFun7_any (C : Int) m v ll _w1 w.heap.size x.1 x.2 (cand_wf (by omega) hx).1 (cand_wf (by omega) hx).2 w'' (h.kept hb) hl ht))
    rw [hf] at HM
    have HEV := Lib.hid he
    obtain ⟨t0, t1, m0, hs⟩ := he
    obtain ⟨a, cap, rfl, -⟩ := hs
    clear hf hb1 hb2 ht hT
    go_enter Try.func12, Try.ntmps12
    go_wp2_with fail
    refine HM.out.mono ?_
    rintro e w1 ⟨rfl, b1⟩
    have hb3 := HB.out.trans (b1.mono HB.out.size)
    have he1 := HEV.out.kept b1
    have HG := Lib.hid (HL.out w1 he1)
    obtain ⟨t0, t1, m0, -⟩ := he1
    clear b1
    go_wp2_with fail
    refine HG.out.mono ?_
    rintro e w2 ⟨v2, rfl, o2, b2⟩
    have hb4 := hb3.trans (b2.mono hb3.size)
    have o3 := o2.base hb3.size
    clear o2 b2
    go_wp2_with fail
    go_ret
    exact ⟨_, rfl, by rw [HE.out]; exact o3, hb4⟩
set_option maxHeartbeats 3200000 in
theorem implApproximateDeps_any (c m rows : Int) (v : Value) (ll : List (List Int)) (_w1 : (Lit.int .i64 m).wf = true) (w : World) (hr : ReadSS w v ll) (hl : ll.length ≤ 1048576) (ht : ∀ i, i < ll.length → (ll.getD i []).length ≤ 1048576) :
    Calls Try.prog 31 #[.agg #[.int .i64 c, v], .int .i64 m, .int .i64 rows] w (RetD (apL c ll m rows) w) := by
  have hb1 := (Below.refl w.heap.size w).alloc (Nat.le_refl _) (.cells #[.int .i64 c, v] 28)
  have hb2 := hb1.alloc hb1.size (.cells #[.int .i64 m] 3)
  have hb2' := hb2.alloc hb2.size (.cells #[.int .i64 rows] 3)
  have he0 := Env2.mk' (c := c) (m := m) hr 28 3
  have he := he0.kept ((Below.refl _ _).alloc (Nat.le_refl _) (.cells #[.int .i64 rows] 3))
  have hr0 := one_at ((w.alloc (.cells #[.int .i64 c, v] 28)).alloc (.cells #[.int .i64 m] 3)) 3 (.int .i64 rows)
  rw [World.size_alloc, World.size_alloc] at hr0
  have HM := Lib.hid (inMode_any c m v ll _ he.s hl ht)
  have HB := Lib.hid hb2'
  have hs1 : (w.alloc (.cells #[.int .i64 c, v] 28)).heap.size = w.heap.size + 1 := by simp
  cases hf : fineT c ll m with
  | false =>
    have HE : Hid (apL c ll m rows = []) := Lib.hid (by unfold apL; rw [hf, if_neg (fun h => by cases h.1)])
    rw [hf] at HM
    obtain ⟨t0, t1, m0, hs⟩ := he
    obtain ⟨a, cap, rfl, -⟩ := hs
    clear hf hb1 hb2 hb2' ht he0
    go_enter Try.func31, Try.ntmps31
    go_wp2_with fail
    refine HM.out.mono ?_
    rintro e w1 ⟨rfl, b1⟩
    have hb3 := HB.out.trans (b1.mono HB.out.size)
    go_wp2_with fail
    go_ret
    exact ⟨_, rfl, by rw [HE.out]; exact OwnD.nil _ _, hb3⟩
  | true =>
    by_cases hneg : rows < 0
    · have HE : Hid (apL c ll m rows = []) := Lib.hid (by unfold apL; rw [if_neg (fun h => absurd h.2 (by omega))])
      rw [hf] at HM
      have HEV := Lib.hid he
      have HR0 := Lib.hid hr0
      obtain ⟨t0, t1, m0, hs⟩ := he
      obtain ⟨a, cap, rfl, -⟩ := hs
      clear hf hb1 hb2 hb2' ht he0
      go_enter Try.func31, Try.ntmps31
      go_wp2_with fail
      refine HM.out.mono ?_
      rintro e w1 ⟨rfl, b1⟩
      have hb3 := HB.out.trans (b1.mono HB.out.size)
      replace hr0 := (b1.cell (World.block_lt_of_cell? _ _ hr0)).trans hr0
      go_wp2_with fail
      go_ret
      exact ⟨_, rfl, by rw [HE.out]; exact OwnD.nil _ _, hb3⟩
    · have hT := fineT_isT hf
      obtain ⟨hc1, hc5, h40⟩ := isT_bd hT
      obtain ⟨C, rfl⟩ : ∃ C : Nat, c = (C : Int) := ⟨c.toNat, by omega⟩
      have HE : Hid (apL (C : Int) ll m rows = uncL ((candL C).filter (fun d => decide (remD (C : Int) ll m d.1 d.2 ≤ rows)))) := Lib.hid (by
        unfold apL
        rw [if_pos ⟨hf, by omega⟩, unc_app (by omega)]; rfl)
      have HL := Lib.hid (fun w' (h : Env2 w' w.heap.size (C : Int) m v ll) (h2 : w'.cell? ⟨w.heap.size + 2, 0, none⟩ = some (.int .i64 rows)) => leastAD_any (.pointer (some ⟨w.heap.size, 0, none⟩)) (.pointer (some ⟨w.heap.size + 1, 0, none⟩)) (.pointer (some ⟨w.heap.size + 2, 0, none⟩)) (fun d => decide (remD (C : Int) ll m d.1 d.2 ≤ rows)) C (by omega) w'
        (fun x hx w'' hb => appFun7_any (C : Int) m rows v ll _w1 w.heap.size x.1 x.2 (cand_wf (by omega) hx).1 (cand_wf (by omega) hx).2 w'' (h.kept hb) ((hb.cell (World.block_lt_of_cell? _ _ h2)).trans h2) hl ht))
      rw [hf] at HM
      have HEV := Lib.hid he
      obtain ⟨t0, t1, m0, hs⟩ := he
      obtain ⟨a, cap, rfl, -⟩ := hs
      clear hf hb1 hb2 hb2' ht hT he0
      go_enter Try.func31, Try.ntmps31
      go_wp2_with fail
      refine HM.out.mono ?_
      rintro e w1 ⟨rfl, b1⟩
      have hb3 := HB.out.trans (b1.mono HB.out.size)
      have he1 := HEV.out.kept b1
      replace hr0 := (b1.cell (World.block_lt_of_cell? _ _ hr0)).trans hr0
      have HG := Lib.hid (HL.out w1 he1 hr0)
      obtain ⟨t0, t1, m0, -⟩ := he1
      clear b1
      go_wp2_with fail
      refine HG.out.mono ?_
      rintro e w2 ⟨v2, rfl, o2, b2⟩
      have hb4 := hb3.trans (b2.mono hb3.size)
      have o3 := o2.base hb3.size
      clear o2 b2
      go_wp2_with fail
      go_ret
      exact ⟨_, rfl, by rw [HE.out]; exact o3, hb4⟩
end Go.Proofs.Ytepokhdjglnlnaa
