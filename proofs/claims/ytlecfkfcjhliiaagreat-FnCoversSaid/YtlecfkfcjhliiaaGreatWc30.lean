/- Texts of this claim, merged: MvB, CovDraw2. Conditions: as stated. -/
import Derived.Test.YtlecfkfcjhliiaaGreatMvAm
import Derived.Test.YtlecfkfcjhliiaaGreatWc29
import Derived.Test.YtlecfkfcjhliiaaGreatWc23
import Derived.Test.YtlecfkfcjhliiaaGreatParDm
import Derived.Maps.AppendAt
import Derived.Test.YtlecfkfcjhliiaaGreatWc18
import Derived.Test.YtlecfkfcjhliiaaGreatWc2
namespace Go.Proofs.YtlecfkfcjhliiaaGreat
open Go.RowKit

noncomputable def imB (c : Int) (ll : List (List Int)) (m l r : Int) : Bool := okD c ll m l r && minN c.toNat ll m l.toNat r.toNat
theorem depB_small {c l r : Int} (h : depB c l r = true) : ∃ C L R : Nat, c = (C : Int) ∧ l = (L : Int) ∧ r = (R : Int) ∧ 1 ≤ C ∧ C ≤ 5 ∧ L < 2 ^ C ∧ L < 32 ∧ R < C := by
  obtain ⟨⟨h1, h5⟩, ha, h0, hr⟩ := depB_iff.1 h
  unfold isA at ha
  rw [decide_eq_true_iff] at ha
  obtain ⟨-, l0, l1⟩ := ha
  have e : ((2 ^ c.toNat : Nat) : Int) = (2 : Int) ^ c.toNat := by rw [Int.natCast_pow]; rfl
  have h32 := two5 (C := c.toNat) (by omega)
  exact ⟨c.toNat, l.toNat, r.toNat, by omega, by omega, by omega, by omega, by omega, by omega, by omega, by omega⟩
section
set_option maxRecDepth 20000
set_option maxHeartbeats 1600000
theorem isMinimalDep_any (c m l r : Int) (v : Value) (ll : List (List Int)) (w : World) (hr : ReadSS w v ll) (hl : ll.length ≤ 1048576) (ht : ∀ i, i < ll.length → (ll.getD i []).length ≤ 1048576) :
    Calls Tryz.prog 19 #[.agg #[.int .i64 c, v], .int .i64 m, .agg #[.int .i64 l, .int .i64 r]] w fun e w' => e = .returned (.bool (imB c ll m l r)) ∧ Below w.heap.size w w' := by
  have HF := Lib.hid (fun w' (hb : Below w.heap.size w w') => l4Fine_any c m v ll w' (hr.kept hb) hl ht)
  have HD := Lib.hid (isDep_any c l r)
  have HP := Lib.hid (fun (C L R : Nat) w' (hb : Below w.heap.size w w') hT (hL : L < 32) (hR : R < 5) => l7Minimal_any C m L R v ll w' (hr.kept hb) hT hL hR)
  obtain ⟨a, cap, rfl, -⟩ := hr
  have hb1 := (Below.refl w.heap.size w).alloc (Nat.le_refl _) (.cells #[.int .i64 c, .slice a ll.length cap] 26)
  have hb2 := hb1.alloc hb1.size (.cells #[.int .i64 l, .int .i64 r] 37)
  have HB2 := Lib.hid hb2
  have HTD := Lib.hid (TDc.mk' w 26 37 c (.slice a ll.length cap) l r)
  obtain ⟨⟨c0, c1⟩, d0, d1⟩ := HTD.out
  clear hb1 hb2 ht
  cases hf : fineT c ll m with
  | false =>
    have HE : Hid (imB c ll m l r = false) := Lib.hid (by unfold imB okD; rw [hf]; rfl)
    rw [hf] at HF
    clear hf
    go_enter Tryz.func19, Tryz.ntmps19
    go_wp2_with fail
    refine (HF.out _ HB2.out).mono ?_
    rintro e w1 ⟨rfl, b1⟩
    have hb2 := HB2.out.trans (b1.mono HB2.out.size)
    go_wp2_with fail
    go_ret
    exact ⟨by rw [HE.out]; rfl, hb2⟩
  | true =>
    rw [hf] at HF
    cases hd : depB c l r with
    | false =>
      have HE : Hid (imB c ll m l r = false) := Lib.hid (by unfold imB okD; rw [hd]; simp)
      rw [hd] at HD
      clear hf hd
      go_enter Tryz.func19, Tryz.ntmps19
      go_wp2_with fail
      refine (HF.out _ HB2.out).mono ?_
      rintro e w1 ⟨rfl, b1⟩
      have hb2 := HB2.out.trans (b1.mono HB2.out.size)
      have HT1 := Lib.hid (HTD.out.kept b1)
      clear b1 c0 c1 d0 d1
      obtain ⟨⟨c0, c1⟩, d0, d1⟩ := HT1.out
      go_wp2_with fail
      refine (HD.out _).mono ?_
      rintro e w2 ⟨rfl, b2⟩
      have hb4 := hb2.trans (b2.mono hb2.size)
      go_wp2_with fail
      go_ret
      exact ⟨by rw [HE.out]; rfl, hb4⟩
    | true =>
      rw [hd] at HD
      have hT := fineT_isT hf
      have hok : okD c ll m l r = true := by unfold okD; rw [hf, hd]; rfl
      obtain ⟨C, L, R, rfl, rfl, rfl, hC1, hC5, -, hL, hR⟩ := depB_small hd
      have HQ := Lib.hid (fun w' hb => HP.out C L R w' hb hT hL (by omega))
      have HE : Hid (imB (C : Int) ll m (L : Int) (R : Int) = minN C ll m L R) := Lib.hid (by unfold imB; rw [hok, Bool.true_and]; rfl)
      obtain ⟨x, hx⟩ : ∃ x, x = minN C ll m L R := ⟨_, rfl⟩
      rw [← hx] at HQ HE
      clear hf hd hT hok hx HP
      go_enter Tryz.func19, Tryz.ntmps19
      go_wp2_with fail
      refine (HF.out _ HB2.out).mono ?_
      rintro e w1 ⟨rfl, b1⟩
      have hb2 := HB2.out.trans (b1.mono HB2.out.size)
      have HT1 := Lib.hid (HTD.out.kept b1)
      clear b1 c0 c1 d0 d1
      obtain ⟨⟨c0, c1⟩, d0, d1⟩ := HT1.out
      go_wp2_with fail
      refine (HD.out _).mono ?_
      rintro e w2 ⟨rfl, b2⟩
      have hb4 := hb2.trans (b2.mono hb2.size)
      have HT2 := Lib.hid (HT1.out.kept b2)
      clear b2 c0 c1 d0 d1
      obtain ⟨⟨c0, c1⟩, d0, d1⟩ := HT2.out
      go_wp2_with fail
      refine (HQ.out _ hb4).mono ?_
      rintro e w3 ⟨rfl, b3⟩
      have hb5 := hb4.trans (b3.mono hb4.size)
      go_wp2_with fail
      go_ret
      exact ⟨ret_b HE.out, hb5⟩
/-- No two rows agree in all of the set's columns. -/
def uniqB (c : Int) (ll : List (List Int)) (m s : Int) : Bool := fineT c ll m && isA c s && decide ((clSt c.toNat ll m s ll.length).1.length = 0)
end
/-- The border; the keys. -/
noncomputable def vbL (c : Int) (ll : List (List Int)) (m q : Int) : List Int := if fineT c ll m = true ∧ 0 ≤ q ∧ q < c then brdL c.toNat ll m q.toNat else []
def mkL (c : Int) (ll : List (List Int)) (m : Int) : List Int := minS (if fineT c ll m = true then brdTo (fun x => uniqB c ll m (x : Int)) (2 ^ c.toNat) else [])
noncomputable def mdL (c : Int) (ll : List (List Int)) (m : Int) : List (Int × Int) := if fineT c ll m = true then minD c.toNat ll m else []
noncomputable def apL (c : Int) (ll : List (List Int)) (m rows : Int) : List (Int × Int) := if fineT c ll m = true ∧ 0 ≤ rows then appD c.toNat ll m rows else []
theorem mdL_len (c : Int) (ll : List (List Int)) (m : Int) : (mdL c ll m).length ≤ 160 := by
  unfold mdL
  split
  · rename_i h
    have := isT_bd (fineT_isT h)
    exact minD_len (by omega)
  · simp
theorem ownD_new (w : World) (B : Nat) (hB : B ≤ w.heap.size) : OwnD (w.alloc (.cells #[] 37)) B (.slice (some ⟨w.heap.size, 0, none⟩) 0 0) [] := World.ownsRow_made w #[] 0 hB (by unfold maxLen; omega) rfl
theorem mdIn_succ (f : Int → Nat → Bool) (ps : List Int) (r : Nat) (l0 : List (Int × Int)) (i : Nat) : mdIn f ps r l0 (i + 1) = if f (ps.getD i 0) r = true then mdIn f ps r l0 i ++ [(ps.getD i 0, (r : Int))] else mdIn f ps r l0 i := rfl
section
set_option maxRecDepth 20000
set_option maxHeartbeats 3200000
theorem minimalDeps_any (c m : Int) (v : Value) (ll : List (List Int)) (w : World) (hr : ReadSS w v ll) (hl : ll.length ≤ 1048576) (ht : ∀ i, i < ll.length → (ll.getD i []).length ≤ 1048576) :
    Calls Tryz.prog 11 #[.agg #[.int .i64 c, v], .int .i64 m] w (RetD (mdL c ll m) w) := by
  obtain ⟨i0, hi, hz0, hz1, hz2⟩ := info_parts infoDp
  have HI : Hid (_ ∧ _ ∧ _ ∧ _) := Lib.hid ⟨hi, hz0, hz1, hz2⟩
  clear hi hz0 hz1 hz2
  have hb1 := (Below.refl w.heap.size w).alloc (Nat.le_refl _) (.cells #[.int .i64 c, v] 26)
  have hb2 := hb1.alloc hb1.size (.cells #[] 37)
  have hb12 := (Below.refl (w.alloc (.cells #[.int .i64 c, v] 26)).heap.size (w.alloc (.cells #[.int .i64 c, v] 26))).alloc (Nat.le_refl _) (.cells #[] 37)
  have HF := Lib.hid (fun w' (hb : Below w.heap.size w w') => l4Fine_any c m v ll w' (hr.kept hb) hl ht)
  have HM := Lib.hid (fun (C L R : Nat) w' (hb : Below w.heap.size w w') hT (hL : L < 32) (hR : R < 5) => l7Minimal_any C m L R v ll w' (hr.kept hb) hT hL hR)
  have HB2 := Lib.hid hb2
  have ho2 := ownD_new (w.alloc (.cells #[.int .i64 c, v] 26)) (w.heap.size + 1) (by simp)
  rw [World.size_alloc] at ho2
  obtain ⟨c0, c1⟩ := zero2 w 26 (.int .i64 c) v
  replace c0 := (hb12.cell (World.block_lt_of_cell? _ _ c0)).trans c0
  replace c1 := (hb12.cell (World.block_lt_of_cell? _ _ c1)).trans c1
  obtain ⟨a, cap, rfl, -⟩ := hr
  clear hb1 hb2 ht hb12
  cases hf : fineT c ll m with
  | false =>
    have HE : Hid (mdL c ll m = []) := Lib.hid (by unfold mdL; rw [hf]; rfl)
    rw [hf] at HF
    clear hf
    go_enter Tryz.func11, Tryz.ntmps11
    go_wp2_with fail
    refine (HF.out _ HB2.out).mono ?_
    rintro e w1 ⟨rfl, b1⟩
    have hb2 := HB2.out.trans (b1.mono HB2.out.size)
    have ho3 := ho2.below b1 (fun k hk => (ho2.lt k hk).2)
    clear b1 ho2
    go_wp2_with fail
    go_ret
    exact ⟨_, rfl, by rw [HE.out]; exact ho3.base (by omega), hb2⟩
  | true =>
    rw [hf] at HF
    have hT := fineT_isT hf
    obtain ⟨hc1, hc5, h40⟩ := isT_bd hT
    obtain ⟨C, rfl⟩ : ∃ C : Nat, c = (C : Int) := ⟨c.toNat, by omega⟩
    have HE : Hid (mdL (C : Int) ll m = mdOut (fun S r => minN C ll m S.toNat r) (parts (C : Int)) C) := Lib.hid (by unfold mdL; rw [if_pos hf]; rfl)
    have HQ := Lib.hid (fun (L R : Nat) w' hb hL (hR : R < 5) => HM.out C L R w' hb hT hL hR)
    have HP := Lib.hid (partsS_any (C : Int))
    have HSM := Lib.hid (fun S hS => parts_small (C : Int) S hS)
    have hpl := parts_len32 (C := C) (by omega)
    have HLEN := Lib.hid (fun r => mdOut_len (fun S r => minN C ll m S.toNat r) (parts (C : Int)) r)
    have HLEI := Lib.hid (fun r l0 n => mdIn_len (fun S r => minN C ll m S.toNat r) (parts (C : Int)) r l0 n)
    have HSI := Lib.hid (fun r l0 i => mdIn_succ (fun S r => minN C ll m S.toNat r) (parts (C : Int)) r l0 i)
    obtain ⟨ps, hps⟩ : ∃ ps, ps = parts (C : Int) := ⟨_, rfl⟩
    rw [← hps] at HE HP HSM hpl HLEN HLEI HSI
    clear hf hT HM hps
    go_enter Tryz.func11, Tryz.ntmps11
    go_wp2_with fail
    refine (HF.out _ HB2.out).mono ?_
    rintro e w1 ⟨rfl, b1⟩
    have hb2 := HB2.out.trans (b1.mono HB2.out.size)
    have ho3 := ho2.below b1 (fun k hk => (ho2.lt k hk).2)
    replace c0 := (b1.cell (World.block_lt_of_cell? _ _ c0)).trans c0
    replace c1 := (b1.cell (World.block_lt_of_cell? _ _ c1)).trans c1
    clear b1 ho2
    go_wp2_with fail
    refine (HP.out _).mono ?_
    rintro e w2 ⟨vp, rfl, op, b2⟩
    have hb3 := hb2.trans (b2.mono hb2.size)
    have ho4 := ho3.below b2 (fun k hk => (ho3.lt k hk).2)
    replace c0 := (b2.cell (World.block_lt_of_cell? _ _ c0)).trans c0
    replace c1 := (b2.cell (World.block_lt_of_cell? _ _ c1)).trans c1
    have op' := op.base (B' := w.heap.size) hb2.size
    obtain ⟨ap, capp, hvp, -⟩ := op.read
    subst hvp
    have HO := Lib.hid ho4
    have HB := Lib.hid hb3
    have HPS := Lib.hid op'
    have HBX := Lib.hid (And.intro c0 c1)
    clear b2 op ho3 ho4 hb2 hb3 op' c0 c1
    go_wp2_with fail
    go_loopw [5, 7] (fun ov rv wr => ∃ (r : Nat) (q : List (Int × Int)), r ≤ C ∧ rv = .int .i64 (r : Int) ∧ Hid (q = mdOut (fun S r => minN C ll m S.toNat r) ps r) ∧ Hid (OwnD wr (w.heap.size + 1) ov q) ∧ Hid (OwnI wr w.heap.size (.slice ap ps.length capp) ps) ∧ Hid (wr.cell? ⟨w.heap.size, 0, none⟩ = some (.int .i64 (C : Int)) ∧ wr.cell? ⟨w.heap.size, 1, none⟩ = some (.slice a ll.length cap)) ∧ Hid (Below w.heap.size w wr)) (fun _ rv _ => C - (intOf rv).toNat)
    case atStart => exact ⟨0, [], by omega, rfl, Lib.hid rfl, HO, HPS, HBX, HB⟩
    case round =>
      clear HO HPS HBX HB
      obtain ⟨r, q, hr, rfl, hq, HO, HPS, HBX, HB⟩ := hrel
      obtain ⟨w3, hw3⟩ : ∃ w', w' = wr := ⟨_, rfl⟩
      rw [← hw3] at HO HPS HBX HB ⊢
      clear hw3
      obtain ⟨c0, c1⟩ := HBX.out
      by_cases hlt : r < C
      · have HSR := Lib.hid (HSI.out r q)
        have HLR := Lib.hid (HLEI.out r q)
        have hql : q.length ≤ 160 := by
          have h := HLEN.out r
          rw [← hq.out] at h
          have : r * ps.length ≤ 5 * 32 := Nat.mul_le_mul (by omega) hpl
          omega
        have HNX : Hid (mdOut (fun S r => minN C ll m S.toNat r) ps (r + 1) = mdIn (fun S r => minN C ll m S.toNat r) ps r q ps.length) := Lib.hid (by rw [hq.out]; rfl)
        have HQR := Lib.hid (fun (L : Nat) w' hb hL => HQ.out L r w' hb hL (by omega))
        obtain ⟨ov0, hov⟩ : ∃ x, x = u5 := ⟨_, rfl⟩
        rw [← hov] at HO ⊢
        have z0 : (0 : Int) ≤ (r : Int) := by omega
        have z1 : (r : Int) < (C : Int) := by omega
        clear hov hq
        go_wp2_with fail
        go_loopw [5, 8, 9] (fun ov jv _ wr => ∃ (k : Nat) (q2 : List (Int × Int)), k ≤ ps.length ∧ jv = .int .i64 (k : Int) ∧ Hid (q2 = mdIn (fun S r => minN C ll m S.toNat r) ps r q k) ∧ Hid (OwnD wr (w.heap.size + 1) ov q2) ∧ Hid (OwnI wr w.heap.size (.slice ap ps.length capp) ps) ∧ Hid (wr.cell? ⟨w.heap.size, 0, none⟩ = some (.int .i64 (C : Int)) ∧ wr.cell? ⟨w.heap.size, 1, none⟩ = some (.slice a ll.length cap)) ∧ Hid (Below w.heap.size w wr)) (fun _ jv _ _ => ps.length - (intOf jv).toNat)
        case atStart => exact ⟨0, q, by omega, rfl, Lib.hid rfl, HO, HPS, HBX, HB⟩
        case round =>
          clear HO HPS HBX HB c0 c1
          obtain ⟨k, q2, hk, rfl, hq2, HO, HPS, HBX, HB⟩ := hrel
          obtain ⟨w4, hw4⟩ : ∃ w', w' = wr := ⟨_, rfl⟩
          rw [← hw4] at HO HPS HBX HB ⊢
          clear hw4
          by_cases hlt2 : k < ps.length
          · obtain ⟨x, rfl, hx⟩ : ∃ x, ap = some x ∧ w4.cell? (x.add k) = some (.int .i64 (ps.getD k 0)) := by
              obtain ⟨a', cap', hv, hc⟩ := HPS.out.read
              cases hv
              obtain ⟨x, e1, e2⟩ := hc k hlt2
              rw [get_getD ps k hlt2] at e2
              exact ⟨x, e1, e2⟩
            obtain ⟨X, hX, hX32⟩ := HSM.out (ps.getD k 0) (by rw [← get_getD ps k hlt2]; exact List.getElem_mem hlt2)
            have hql2 : q2.length ≤ 1000 := by rw [hq2.out]; have := HLR.out k; omega
            have hS := HSR.out k
            rw [← hq2.out] at hS
            rw [hX] at hx hS
            rw [show ((X : Int)).toNat = X from rfl] at hS
            have HC := Lib.hid (fun w' hb => HQR.out X w' hb hX32)
            obtain ⟨bb, hbb⟩ : ∃ bb, bb = minN C ll m X r := ⟨_, rfl⟩
            rw [← hbb] at HC hS
            have HS := Lib.hid hS
            obtain ⟨c0, c1⟩ := HBX.out
            have hwb := (Below.refl w4.heap.size w4).alloc (Nat.le_refl _) (.cells #[.int .i64 (X : Int), .int .i64 (r : Int)] 37)
            have HB5 := Lib.hid (HB.out.trans (hwb.mono HB.out.size))
            obtain ⟨e0, e1⟩ := zero2 w4 37 (.int .i64 (X : Int)) (.int .i64 (r : Int))
            have ho5 := HO.out.below hwb (fun k hk => (HO.out.lt k hk).2)
            have hp5 := HPS.out.kept hwb (fun k hk => (HPS.out.lt k hk).2)
            have c05 := (hwb.cell (World.block_lt_of_cell? _ _ c0)).trans c0
            have c15 := (hwb.cell (World.block_lt_of_cell? _ _ c1)).trans c1
            have z2 : (0 : Int) ≤ (k : Int) := by omega
            have z3 : (k : Int) < (ps.length : Int) := by omega
            clear hX hbb hS hwb
            cases bb with
            | true =>
              rw [if_pos rfl] at HS
              have HO5 := Lib.hid ho5
              have HP5 := Lib.hid hp5
              clear ho5 hp5
              go_wp2_with fail
              refine (HC.out _ HB5.out).mono ?_
              rintro e w6 ⟨rfl, b6⟩
              replace e0 := (b6.cell (World.block_lt_of_cell? _ _ e0)).trans e0
              replace e1 := (b6.cell (World.block_lt_of_cell? _ _ e1)).trans e1
              have c06 := (b6.cell (World.block_lt_of_cell? _ _ c05)).trans c05
              have c16 := (b6.cell (World.block_lt_of_cell? _ _ c15)).trans c15
              have ho6 := HO5.out.below b6 (fun k hk => (HO5.out.lt k hk).2)
              have hp6 := HP5.out.kept b6 (fun k hk => (HP5.out.lt k hk).2)
              have hb6 := HB5.out.trans (b6.mono HB5.out.size)
              have HO6 := Lib.hid ho6
              clear b6 c0 c1 c05 c15 hx
              go_wp2_with (at_builtin; refine wpList_append_own _ rfl _ _ 31 rfl (w.heap.size + 1) 37 i0 (.agg #[.int .i64 0, .int .i64 0]) 2 16 Tryz.underlying31 HI.out.1 HI.out.2.1 HI.out.2.2.1 HI.out.2.2.2 rfl (by decide) _ _ _ rfl (World.ownsRow.alloc ho6 _) ⟨w6.heap.size, 0, none⟩ 1 1 [.int .i64 (X : Int), .int .i64 (r : Int)] rfl rfl (cell_two_new _ _ _ _) (two_i64 _ _) (by unfold maxLen; omega) (by omega) (by have := hb6.size; simp; omega) ?_; intro v7 w7 hown7 hgrow7 _)
              have ho7 := Lib.hid (OwnD.snoc hown7)
              have ha6 := (Below.refl w6.heap.size w6).alloc (Nat.le_refl _) (.cells #[.int .i64 (X : Int), .int .i64 (r : Int)] 37)
              have hb7 := Lib.hid ((hb6.alloc hb6.size (.cells #[.int .i64 (X : Int), .int .i64 (r : Int)] 37)).grown hgrow7 (by simp; have := hb6.size; omega) (fun k hk => by have := (HO6.out.lt k hk).1; omega))
              have hi6 := hp6.kept ha6 (fun k hk => (hp6.lt k hk).2)
              have hi7 := Lib.hid (hi6.keptBy hgrow7 (fun g hg => dep_apart (World.ownsRow.alloc HO6.out _) hi6 g hg))
              have c7 := Lib.hid (And.intro ((kept_cell hgrow7 (fun g hg => (HO6.out.lt g hg).1) (World.block_lt_of_cell? _ _ ((ha6.cell (World.block_lt_of_cell? _ _ c06)).trans c06)) (Nat.le_refl _)).trans ((ha6.cell (World.block_lt_of_cell? _ _ c06)).trans c06)) ((kept_cell hgrow7 (fun g hg => (HO6.out.lt g hg).1) (World.block_lt_of_cell? _ _ ((ha6.cell (World.block_lt_of_cell? _ _ c16)).trans c16)) (Nat.le_refl _)).trans ((ha6.cell (World.block_lt_of_cell? _ _ c16)).trans c16)))
              clear hown7 hgrow7 hi6 ha6 c06 c16 e0 e1 ho6 hp6 hb6
              go_wp2_with fail
              go_roundw
              case rel => exact ⟨k + 1, _, by omega, by go_num, Lib.hid (by rw [HS.out]), ho7, hi7, c7, hb7⟩
              case measure => simp [intOf]; omega
            | false =>
              rw [if_neg (by decide)] at HS
              have HO5 := Lib.hid ho5
              have HP5 := Lib.hid hp5
              clear ho5 hp5
              go_wp2_with fail
              refine (HC.out _ HB5.out).mono ?_
              rintro e w6 ⟨rfl, b6⟩
              have c06 := (b6.cell (World.block_lt_of_cell? _ _ c05)).trans c05
              have c16 := (b6.cell (World.block_lt_of_cell? _ _ c15)).trans c15
              have ho6 := Lib.hid (HO5.out.below b6 (fun k hk => (HO5.out.lt k hk).2))
              have hp6 := Lib.hid (HP5.out.kept b6 (fun k hk => (HP5.out.lt k hk).2))
              have hb6 := Lib.hid (HB5.out.trans (b6.mono HB5.out.size))
              have c6 := Lib.hid (And.intro c06 c16)
              clear b6 c0 c1 c05 c15 hx c06 c16 e0 e1
              go_wp2_with fail
              go_roundw
              case rel => exact ⟨k + 1, _, by omega, by go_num, Lib.hid (by rw [HS.out]), ho6, hp6, c6, hb6⟩
              case measure => simp [intOf]; omega
          · obtain rfl : k = ps.length := by omega
            have HQ2 := Lib.hid (hq2.out.trans HNX.out.symm)
            go_wp2_with fail
            go_roundw
            case rel => exact ⟨r + 1, _, by omega, by go_num, HQ2, HO, HPS, HBX, HB⟩
            case measure => simp [intOf]; omega
      · obtain rfl : r = C := by omega
        go_wp2_with fail
        go_ret
        exact ⟨_, rfl, by rw [HE.out, ← hq.out]; exact HO.out.base (by omega), HB.out⟩
end
end Go.Proofs.YtlecfkfcjhliiaaGreat
namespace Go.Proofs.YtlecfkfcjhliiaaGreat
open Go.RowKit

theorem TdSt.below {W w x y : World} {v u uz : Value} {n c T B : Nat} {cc cz lz rz : Int} {ll : List (List Int)} (h : TdSt W v n c w T B cc u ll cz uz lz rz x) (hb : Below x.heap.size x y) : TdSt W v n c w T B cc u ll cz uz lz rz y :=
  h.still ⟨hb.os, hb.tape, hb.output, hb.size, fun j hj _ => hb.block j hj⟩
theorem ReadD.grown {w w' : World} {row : Option Nat} {v : Value} {ds : List (Int × Int)} (h : ReadD w v ds) (hg : w.grownBy w' row) (hr : ∀ b o, (∃ n k, v = .slice (some ⟨b, o, none⟩) n k) → row ≠ some b) : ReadD w' v ds := by
  obtain ⟨a, cap, hv, hc⟩ := h
  refine ⟨a, cap, hv, fun i hi => ?_⟩
  obtain ⟨b, o, ha, h0, h1⟩ := hc i hi
  have hb : w'.heap[b]? = w.heap[b]? := hg.block b (World.block_lt_of_cell? w _ h0) (fun e => hr b o ⟨ds.length, cap, by rw [hv, ha]⟩ e.symm)
  exact ⟨b, o, ha, (World.cell?_of_block (a := ⟨b, o + i * 2, none⟩) hb).trans h0, (World.cell?_of_block (a := ⟨b, o + i * 2 + 1, none⟩) hb).trans h1⟩
/-- A readable list of dependencies that lies above B. -/
def ReadDA (w : World) (B : Nat) (v : Value) (ds : List (Int × Int)) : Prop := ReadD w v ds ∧ ∀ b o n k, v = .slice (some ⟨b, o, none⟩) n k → B ≤ b
theorem ReadDA.grown {w w' : World} {B c : Nat} {v : Value} {ds : List (Int × Int)} (h : ReadDA w B v ds) (hg : w.grownBy w' (some c)) (hc : c < B) : ReadDA w' B v ds :=
  ⟨h.1.grown hg (fun b o ⟨n, k, e⟩ e' => by have := h.2 b o n k e; cases e'; omega), h.2⟩
theorem ReadDA.set {w : World} {B : Nat} {v : Value} {ds : List (Int × Int)} (h : ReadDA w B v ds) {p : Addr} (hp : p.block < B) (x : Value) : ReadDA (w.setCell p x) B v ds := by
  refine ⟨?_, h.2⟩
  refine h.1.grown (row := some p.block) (grown_cell w p x) (fun b o ⟨n, k, e⟩ e' => ?_)
  have := h.2 b o n k e
  cases e'
  omega
theorem ReadDA.at {w : World} {B : Nat} {a : Option Addr} {n cap : Nat} {ds : List (Int × Int)} (h : ReadDA w B (.slice a n cap) ds) {i : Nat} (hi : i < ds.length) : ∃ b o, a = some ⟨b, o, none⟩ ∧ w.cell? ⟨b, o + i * 2, none⟩ = some (.int .i64 (ds.getD i (0, 0)).1) ∧ w.cell? ⟨b, o + i * 2 + 1, none⟩ = some (.int .i64 (ds.getD i (0, 0)).2) := by
  obtain ⟨a', cap', hv, hc⟩ := h.1
  cases hv
  exact hc i hi
theorem OwnD.above {w : World} {B : Nat} {v : Value} {ds : List (Int × Int)} (h : OwnD w B v ds) : ReadDA w B v ds :=
  ⟨h.read, fun b o n k e => by
    rcases h.2 with ⟨rfl, h0⟩ | ⟨g, cap, cur, rfl, hB, rest⟩
    · cases e
    · cases e; exact hB⟩
theorem mdL_small {c m : Int} {ll : List (List Int)} {d : Int × Int} (h : d ∈ mdL c ll m) : 0 ≤ d.1 ∧ d.1 ≤ 31 ∧ 0 ≤ d.2 ∧ d.2 ≤ 4 := by
  unfold mdL at h
  split at h
  · rename_i hf
    have hb := isT_bd (fineT_isT hf)
    obtain ⟨r, r1, S, r2, -, rfl⟩ := (mdOut_mem _ _ _ _).1 h
    obtain ⟨X, rfl, hX⟩ := parts_small _ S r2
    simp only
    omega
  · cases h
section
set_option maxHeartbeats 6400000
set_option maxRecDepth 20000
theorem drawIsMinimalDep_any (W : World) (v : Value) (n : Nat) (hn : n ≤ 1048576) (hcode : CodeAt W v n) (w : World) (hb : Below W.heap.size W w) :
    Calls Tryz.prog 15 #[v] w (DrawTD w) := by
  have hg0 : Hid (w.grownBy ((w.alloc (.cells #[.int .i64 0, .slice none 0 0] 26)).alloc (.cells #[.int .i64 0, .int .i64 0] 37)) none) := Lib.hid (grown_trans (World.grownBy_alloc w _ _) (World.grownBy_alloc _ _ _))
  have hz0 : Hid (BoxIs ((w.alloc (.cells #[.int .i64 0, .slice none 0 0] 26)).alloc (.cells #[.int .i64 0, .int .i64 0] 37)) w.heap.size 0 (.slice none 0 0)) := Lib.hid (BoxIs.grown (heap_alloc_new w _) (World.grownBy_alloc _ _ none) (by simp))
  have hd0 : Hid (DBox ((w.alloc (.cells #[.int .i64 0, .slice none 0 0] 26)).alloc (.cells #[.int .i64 0, .int .i64 0] 37)) (w.heap.size + 1) 0 0) := Lib.hid (by have := heap_alloc_new (w.alloc (.cells #[.int .i64 0, .slice none 0 0] 26)) (.cells #[.int .i64 0, .int .i64 0] 37); rwa [World.size_alloc] at this)
  have hbs := hb.size
  have H1 := Lib.hid (new_any W v n hn hcode _ ((hb.alloc hb.size (.cells #[.int .i64 0, .slice none 0 0] 26)).alloc (by simp; omega) (.cells #[.int .i64 0, .int .i64 0] 37)))
  have H2 := Lib.hid (draw4_any W v n hn hcode)
  have H3 := Lib.hid (anyDep_any W v n hn hcode)
  have H4 := Lib.hid (once_any W v n hn hcode)
  have H5 := Lib.hid (below_any W v n hn hcode)
  obtain ⟨a, cap, rfl⟩ := code_slice hcode
  go_enter Tryz.func15, Tryz.ntmps15
  go_wp2_with fail
  refine H1.out.mono ?_
  rintro e w1 ⟨c, hc, rfl, g1, hc1⟩
  go_wp2_with fail
  refine (H2.out c w1 hc1).mono ?_
  rintro e w2 ⟨cc, u, ll, md, md0, md1, rfl, hll, hlr, hss, g2, hc2⟩
  have s2 := g2.size
  have hcw := hc1.lt
  have hc' : w.heap.size + 1 < c := by simp at hc; omega
  obtain ⟨au, cu, rfl, -⟩ := hss.read
  have HS : Hid (TdSt W (.slice a n cap) n c w w2.heap.size w1.heap.size cc (.slice au ll.length cu) ll 0 (.slice none 0 0) 0 0 (w2.alloc (.cells #[.int .i64 cc, .slice au ll.length cu] 26))) := Lib.hid
    ⟨((hz0.out.grown g1 (by simp)).grown g2 (by simp; omega)).grown (World.grownBy_alloc w2 _ none) (by simp),
     ((hd0.out.grown g1 (by simp)).grown g2 (by simp; omega)).grown (World.grownBy_alloc w2 _ none) (by simp),
     heap_alloc_new w2 _, hss.same (fun g _ hg => Below.heap_alloc _ _ _ hg),
     grown_trans (grown_above (grown_trans hg0.out g1) g2 (fun g e => by simp at e; omega)) (World.grownBy_alloc w2 _ none), hc', hcw, s2, hbs, hc2.kept (World.grownBy_alloc w2 _ none) (by simp) (by simp)⟩
  clear hz0 hd0 hg0 g1 g2 hc2 hss hc1 hc
  have HM := Lib.hid (minimalDeps_any cc md (.slice au ll.length cu) ll _ HS.out.s.read (by omega) (fun i hi => Nat.le_trans (hlr _ (by rw [List.getD_eq_getElem?_getD, List.getElem?_eq_getElem hi]; exact List.getElem_mem hi)) (by omega)))
  have hml := mdL_len cc ll md
  have HSM := Lib.hid (fun d (h : d ∈ mdL cc ll md) => mdL_small h)
  obtain ⟨M, hM⟩ : ∃ M, M = mdL cc ll md := ⟨_, rfl⟩
  rw [← hM] at HM hml HSM
  clear hM
  obtain ⟨⟨z0, z1⟩, -, -⟩ := HS.out.b.cells
  go_wp2_with fail
  obtain ⟨T, hT⟩ : ∃ T, T = w2.heap.size := ⟨_, rfl⟩
  obtain ⟨w3, hw3⟩ : ∃ w3, w3 = w2.alloc (.cells #[.int .i64 cc, .slice au ll.length cu] 26) := ⟨_, rfl⟩
  rw [← hw3] at HS HM ⊢
  rw [← hT] at HS s2 ⊢
  clear hw3 hT z0 z1
  refine HM.out.mono ?_
  rintro e w4 ⟨vm, rfl, om, b4⟩
  have HS4 := Lib.hid (HS.out.below b4)
  have hc4 : c < w3.heap.size := by have := HS.out.b.lt; omega
  have HRD := Lib.hid om.above
  obtain ⟨am, capm, rfl, -⟩ := om.read
  clear om b4 HS HM
  by_cases hmz : M.length = 0
  · have hgt : ¬ (0 < M.length) := by omega
    have HD : Hid (TdSt W (.slice a n cap) n c w T w1.heap.size cc (.slice au ll.length cu) ll 0 (.slice none 0 0) 0 0 w4.drew) := Lib.hid (HS4.out.still ⟨rfl, rfl, rfl, Nat.le_refl _, fun _ _ _ => rfl⟩)
    have HP := Lib.hid (HD.out.put0 (c' := cc) (u' := .slice au ll.length cu))
    obtain ⟨⟨c0, c1⟩, f0, f1⟩ := HD.out.b.cells
    obtain ⟨⟨d0, d1⟩, e0, e1⟩ := HD.out.z.cells
    obtain ⟨⟨k0, k1⟩, i0, i1⟩ := HP.out.b.cells
    obtain ⟨⟨m0, m1⟩, q0, q1⟩ := HS4.out.b.cells
    clear HS4
    go_wp2_with fail
    go_region_law (go_simp; go_at_call 46; first
      | (refine (H3.out c _ HD.out.cur cc).mono ?_; rintro e w5 ⟨x, y, x0, x1, y0, y1, rfl, g5, hc5⟩; have S5 := Lib.hid (HD.out.grown g5 hc5); have S6 := Lib.hid (S5.out.put0 (c' := cc) (u' := .slice au ll.length cu)); have HF := Lib.hid (S6.out.putd (l := x) (r := y)); obtain ⟨⟨a0, a1⟩, b0, b1⟩ := S5.out.z.cells; obtain ⟨⟨h0, h1⟩, j0, j1⟩ := S6.out.d.cells; obtain ⟨⟨n0, n1⟩, -, -⟩ := S5.out.b.cells)
      | (refine (H3.out c _ HP.out.cur cc).mono ?_; rintro e w5 ⟨x, y, x0, x1, y0, y1, rfl, g5, hc5⟩; have S5 := Lib.hid (HP.out.grown g5 hc5); have HF := Lib.hid (S5.out.putd (l := x) (r := y)); obtain ⟨⟨h0, h1⟩, j0, j1⟩ := S5.out.d.cells))
    all_goals
      obtain ⟨⟨r0, r1⟩, -, -⟩ := HF.out.z.cells
      obtain ⟨⟨r2, r3⟩, -, -⟩ := HF.out.d.cells
      have HR := Lib.hid (And.intro (And.intro r0 r1) (And.intro r2 r3))
      clear r0 r1 r2 r3
      go_wp2_with fail
      exact bodyPost_ret (v := .tuple #[.agg #[.int .i64 cc, .slice au ll.length cu], .int .i64 md, .agg #[.int .i64 x, .int .i64 y]]) (by simp [results, Tryz.results15, go_sem, HR.out.1.1, HR.out.1.2, HR.out.2.1, HR.out.2.2]) rfl ⟨_, _, ll, md, x, y, md0, md1, by omega, by omega, by omega, by omega, rfl, hll, hlr, HF.out.s.base (by have := HF.out.e1; have := HF.out.e2; omega) (Nat.le_of_lt HF.out.b.lt), (Below.refl _ w).grown HF.out.g (Nat.le_refl _) (by simp)⟩
  · have hgt : 0 < M.length := by omega
    go_wp2_with fail
    refine (H4.out c w4 HS4.out.cur 2 (by omega) (by omega)).mono ?_
    rintro e w5 ⟨bb, rfl, g5, hc5⟩
    have HS5 := Lib.hid (HS4.out.grown g5 hc5)
    have HRD5 := Lib.hid (HRD.out.grown g5 hc4)
    clear HS4 HRD g5 hc5
    have HD : Hid (TdSt W (.slice a n cap) n c w T w1.heap.size cc (.slice au ll.length cu) ll 0 (.slice none 0 0) 0 0 w5.drew) := Lib.hid (HS5.out.still ⟨rfl, rfl, rfl, Nat.le_refl _, fun _ _ _ => rfl⟩)
    have HP := Lib.hid (HD.out.put0 (c' := cc) (u' := .slice au ll.length cu))
    have HDR : Hid (ReadDA w5.drew w3.heap.size (.slice am M.length capm) M) := Lib.hid (HRD5.out.grown (c := c) ⟨rfl, rfl, rfl, Nat.le_refl _, fun _ _ _ => rfl⟩ hc4)
    obtain ⟨⟨c0, c1⟩, f0, f1⟩ := HD.out.b.cells
    obtain ⟨⟨d0, d1⟩, e0, e1⟩ := HD.out.z.cells
    obtain ⟨⟨k0, k1⟩, i0, i1⟩ := HP.out.b.cells
    obtain ⟨⟨m0, m1⟩, q0, q1⟩ := HS5.out.b.cells
    cases bb with
    | false =>
      clear HS5 HRD5 HDR
      go_wp2_with fail
      go_region_law (go_simp; go_at_call 46; first
        | (refine (H3.out c _ HD.out.cur cc).mono ?_; rintro e w6 ⟨x, y, x0, x1, y0, y1, rfl, g6, hc6⟩; have S5 := Lib.hid (HD.out.grown g6 hc6); have S6 := Lib.hid (S5.out.put0 (c' := cc) (u' := .slice au ll.length cu)); have HF := Lib.hid (S6.out.putd (l := x) (r := y)); obtain ⟨⟨a0, a1⟩, b0, b1⟩ := S5.out.z.cells; obtain ⟨⟨h0, h1⟩, j0, j1⟩ := S6.out.d.cells; obtain ⟨⟨n0, n1⟩, -, -⟩ := S5.out.b.cells)
        | (refine (H3.out c _ HP.out.cur cc).mono ?_; rintro e w6 ⟨x, y, x0, x1, y0, y1, rfl, g6, hc6⟩; have S5 := Lib.hid (HP.out.grown g6 hc6); have HF := Lib.hid (S5.out.putd (l := x) (r := y)); obtain ⟨⟨h0, h1⟩, j0, j1⟩ := S5.out.d.cells))
      all_goals
        obtain ⟨⟨r0, r1⟩, -, -⟩ := HF.out.z.cells
        obtain ⟨⟨r2, r3⟩, -, -⟩ := HF.out.d.cells
        have HR := Lib.hid (And.intro (And.intro r0 r1) (And.intro r2 r3))
        clear r0 r1 r2 r3
        go_wp2_with fail
        exact bodyPost_ret (v := .tuple #[.agg #[.int .i64 cc, .slice au ll.length cu], .int .i64 md, .agg #[.int .i64 x, .int .i64 y]]) (by simp [results, Tryz.results15, go_sem, HR.out.1.1, HR.out.1.2, HR.out.2.1, HR.out.2.2]) rfl ⟨_, _, ll, md, x, y, md0, md1, by omega, by omega, by omega, by omega, rfl, hll, hlr, HF.out.s.base (by have := HF.out.e1; have := HF.out.e2; omega) (Nat.le_of_lt HF.out.b.lt), (Below.refl _ w).grown HF.out.g (Nat.le_refl _) (by simp)⟩
    | true =>
      have HPR := Lib.hid ((HDR.out.set (p := ⟨w.heap.size, 0, none⟩) (by show w.heap.size < _; omega) (.int .i64 cc)).set (p := ⟨w.heap.size, 1, none⟩) (by show w.heap.size < _; omega) (.slice au ll.length cu))
      have hm1 : (1 : Int) ≤ (M.length : Int) := by omega
      have hm2 : (M.length : Int) ≤ 4294967296 := by omega
      clear HS5 HRD5
      go_wp2_with fail
      go_region_law (go_simp; go_at_call 23; first
        | (refine (H5.out c _ HD.out.cur (M.length : Int) hm1 hm2).mono ?_; rintro e w6 ⟨xi, x0, x1, rfl, g6, hc6⟩; obtain ⟨X, rfl⟩ : ∃ X : Nat, xi = (X : Int) := ⟨xi.toNat, by omega⟩; have hX : X < M.length := (by omega); have S5 := Lib.hid (HD.out.grown g6 hc6); have R5 := Lib.hid (HDR.out.grown g6 hc4); have R6 := Lib.hid ((R5.out.set (p := ⟨w.heap.size, 0, none⟩) (by show w.heap.size < _; omega) (.int .i64 cc)).set (p := ⟨w.heap.size, 1, none⟩) (by show w.heap.size < _; omega) (.slice au ll.length cu)); have S6 := Lib.hid (S5.out.put0 (c' := cc) (u' := .slice au ll.length cu)); obtain ⟨bm, om, rfl, r0, r1⟩ := R5.out.at hX; obtain ⟨bm2, om2, hbm, s0, s1⟩ := R6.out.at hX; cases hbm; have hXB := HSM.out (M.getD X (0, 0)) (by rw [List.getD_eq_getElem?_getD, List.getElem?_eq_getElem hX]; exact List.getElem_mem hX); obtain ⟨⟨x, y⟩, hxy⟩ : ∃ z, z = M.getD X (0, 0) := ⟨_, rfl⟩; rw [← hxy] at r0 r1 s0 s1 hXB; simp only at r0 r1 s0 s1 hXB; have HXB := Lib.hid hXB; have HF := Lib.hid (S6.out.putd (l := x) (r := y)); obtain ⟨⟨a0, a1⟩, b0, b1⟩ := S5.out.z.cells; obtain ⟨⟨h0, h1⟩, j0, j1⟩ := S6.out.d.cells; obtain ⟨⟨n0, n1⟩, -, -⟩ := S5.out.b.cells; clear hxy hXB)
        | (refine (H5.out c _ HP.out.cur (M.length : Int) hm1 hm2).mono ?_; rintro e w6 ⟨xi, x0, x1, rfl, g6, hc6⟩; obtain ⟨X, rfl⟩ : ∃ X : Nat, xi = (X : Int) := ⟨xi.toNat, by omega⟩; have hX : X < M.length := (by omega); have S5 := Lib.hid (HP.out.grown g6 hc6); have R5 := Lib.hid (HPR.out.grown g6 hc4); obtain ⟨bm, om, rfl, r0, r1⟩ := R5.out.at hX; have hXB := HSM.out (M.getD X (0, 0)) (by rw [List.getD_eq_getElem?_getD, List.getElem?_eq_getElem hX]; exact List.getElem_mem hX); obtain ⟨⟨x, y⟩, hxy⟩ : ∃ z, z = M.getD X (0, 0) := ⟨_, rfl⟩; rw [← hxy] at r0 r1 hXB; simp only at r0 r1 hXB; have HXB := Lib.hid hXB; have HF := Lib.hid (S5.out.putd (l := x) (r := y)); obtain ⟨⟨h0, h1⟩, j0, j1⟩ := S5.out.d.cells; clear hxy hXB))
      all_goals
        obtain ⟨⟨r0, r1⟩, -, -⟩ := HF.out.z.cells
        obtain ⟨⟨r2, r3⟩, -, -⟩ := HF.out.d.cells
        have HR := Lib.hid (And.intro (And.intro r0 r1) (And.intro r2 r3))
        clear r0 r1 r2 r3
        go_wp2_with fail
        exact bodyPost_ret (v := .tuple #[.agg #[.int .i64 cc, .slice au ll.length cu], .int .i64 md, .agg #[.int .i64 x, .int .i64 y]]) (by simp [results, Tryz.results15, go_sem, HR.out.1.1, HR.out.1.2, HR.out.2.1, HR.out.2.2]) rfl ⟨_, _, ll, md, x, y, md0, md1, by have := HXB.out; omega, by have := HXB.out; omega, by have := HXB.out; omega, by have := HXB.out; omega, rfl, hll, hlr, HF.out.s.base (by have := HF.out.e1; have := HF.out.e2; omega) (Nat.le_of_lt HF.out.b.lt), (Below.refl _ w).grown HF.out.g (Nat.le_refl _) (by simp)⟩
end
end Go.Proofs.YtlecfkfcjhliiaaGreat
