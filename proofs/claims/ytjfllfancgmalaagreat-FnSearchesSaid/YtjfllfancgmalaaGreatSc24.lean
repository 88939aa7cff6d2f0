/- Texts of this claim, merged: MvB, FnSeaA. Conditions: as stated. -/
import Derived.Test.YtjfllfancgmalaaGreatSc11
import Derived.Test.YtjfllfancgmalaaGreatSc10
import Derived.Test.YtjfllfancgmalaaGreatSc6
import Derived.Test.YtjfllfancgmalaaGreatSc4
import Derived.Maps.AppendAt
import Derived.Test.YtjfllfancgmalaaGreatSc23
namespace Go.Proofs.YtjfllfancgmalaaGreat
open Go.RowKit

noncomputable def imB (c : Int) (ll : List (List Int)) (m l r : Int) : Bool := okD c ll m l r && minN c.toNat ll m l.toNat r.toNat
theorem depB_small {c l r : Int} (h : depB c l r = true) : ∃ C L R : Nat, c = (C : Int) ∧ l = (L : Int) ∧ r = (R : Int) ∧ 1 ≤ C ∧ C ≤ 5 ∧ L < 2 ^ C ∧ L < 32 ∧ R < C := by
  obtain ⟨⟨h1, h5⟩, ha, h0, hr⟩ := depB_iff.1 h
  unfold isA at ha
  rw [decide_eq_true_iff] at ha
  obtain ⟨-, l0, l1⟩ := ha
  have e : ((2 ^ c.toNat : Nat) : Int) = (2 : Int) ^ c.toNat := by rw [Int.natCast_pow]; rfl
  have h32 := two5 (C := c.toNat) (by omega)
  exact ⟨c.toNat, l.toNat, r.toNat, by omega, by omega, by omega, by omega, by omega, by omega, by omega, by omega⟩
section
set_option maxRecDepth 20000
set_option maxHeartbeats 1600000
/-- No two rows agree in all of the set's columns. -/
def uniqB (c : Int) (ll : List (List Int)) (m s : Int) : Bool := fineT c ll m && isA c s && decide ((clSt c.toNat ll m s ll.length).1.length = 0)
end
/-- The border; the keys. -/
noncomputable def vbL (c : Int) (ll : List (List Int)) (m q : Int) : List Int := if fineT c ll m = true ∧ 0 ≤ q ∧ q < c then brdL c.toNat ll m q.toNat else []
def mkL (c : Int) (ll : List (List Int)) (m : Int) : List Int := minS (if fineT c ll m = true then brdTo (fun x => uniqB c ll m (x : Int)) (2 ^ c.toNat) else [])
noncomputable def mdL (c : Int) (ll : List (List Int)) (m : Int) : List (Int × Int) := if fineT c ll m = true then minD c.toNat ll m else []
noncomputable def apL (c : Int) (ll : List (List Int)) (m rows : Int) : List (Int × Int) := if fineT c ll m = true ∧ 0 ≤ rows then appD c.toNat ll m rows else []
theorem mdL_len (c : Int) (ll : List (List Int)) (m : Int) : (mdL c ll m).length ≤ 160 := by
  unfold mdL
  split
  · rename_i h
    have := isT_bd (fineT_isT h)
    exact minD_len (by omega)
  · simp
theorem ownD_new (w : World) (B : Nat) (hB : B ≤ w.heap.size) : OwnD (w.alloc (.cells #[] 38)) B (.slice (some ⟨w.heap.size, 0, none⟩) 0 0) [] := World.ownsRow_made w #[] 0 hB (by unfold maxLen; omega) rfl
theorem mdIn_succ (f : Int → Nat → Bool) (ps : List Int) (r : Nat) (l0 : List (Int × Int)) (i : Nat) : mdIn f ps r l0 (i + 1) = if f (ps.getD i 0) r = true then mdIn f ps r l0 i ++ [(ps.getD i 0, (r : Int))] else mdIn f ps r l0 i := rfl
section
set_option maxRecDepth 20000
set_option maxHeartbeats 3200000
theorem minimalDeps_any (c m : Int) (v : Value) (ll : List (List Int)) (w : World) (hr : ReadSS w v ll) (hl : ll.length ≤ 1048576) (ht : ∀ i, i < ll.length → (ll.getD i []).length ≤ 1048576) :
    Calls Tryz.prog 15 #[.agg #[.int .i64 c, v], .int .i64 m] w (RetD (mdL c ll m) w) := by
  obtain ⟨i0, hi, hz0, hz1, hz2⟩ := info_parts infoDp
  have HI : Hid (_ ∧ _ ∧ _ ∧ _) := Lib.hid ⟨hi, hz0, hz1, hz2⟩
  clear hi hz0 hz1 hz2
  have hb1 := (Below.refl w.heap.size w).alloc (Nat.le_refl _) (.cells #[.int .i64 c, v] 26)
  have hb2 := hb1.alloc hb1.size (.cells #[] 38)
  have hb12 := (Below.refl (w.alloc (.cells #[.int .i64 c, v] 26)).heap.size (w.alloc (.cells #[.int .i64 c, v] 26))).alloc (Nat.le_refl _) (.cells #[] 38)
  have HF := Lib.hid (fun w' (hb : Below w.heap.size w w') => l4Fine_any c m v ll w' (hr.kept hb) hl ht)
  have HM := Lib.hid (fun (C L R : Nat) w' (hb : Below w.heap.size w w') hT (hL : L < 32) (hR : R < 5) => l7Minimal_any C m L R v ll w' (hr.kept hb) hT hL hR)
  have HB2 := Lib.hid hb2
  have ho2 := ownD_new (w.alloc (.cells #[.int .i64 c, v] 26)) (w.heap.size + 1) (by simp)
  rw [World.size_alloc] at ho2
  obtain ⟨c0, c1⟩ := zero2 w 26 (.int .i64 c) v
  replace c0 := (hb12.cell (World.block_lt_of_cell? _ _ c0)).trans c0
  replace c1 := (hb12.cell (World.block_lt_of_cell? _ _ c1)).trans c1
  obtain ⟨a, cap, rfl, -⟩ := hr
  clear hb1 hb2 ht hb12
  cases hf : fineT c ll m with
  | false =>
    have HE : Hid (mdL c ll m = []) := Lib.hid (by unfold mdL; rw [hf]; rfl)
    rw [hf] at HF
    clear hf
    go_enter Tryz.func15, Tryz.ntmps15
    go_wp2_with fail
    refine (HF.out _ HB2.out).mono ?_
    rintro e w1 ⟨rfl, b1⟩
    have hb2 := HB2.out.trans (b1.mono HB2.out.size)
    have ho3 := ho2.below b1 (fun k hk => (ho2.lt k hk).2)
    clear b1 ho2
    go_wp2_with fail
    go_ret
    exact ⟨_, rfl, by rw [HE.out]; exact ho3.base (by omega), hb2⟩
  | true =>
    rw [hf] at HF
    have hT := fineT_isT hf
    obtain ⟨hc1, hc5, h40⟩ := isT_bd hT
    obtain ⟨C, rfl⟩ : ∃ C : Nat, c = (C : Int) := ⟨c.toNat, by omega⟩
    have HE : Hid (mdL (C : Int) ll m = mdOut (fun S r => minN C ll m S.toNat r) (parts (C : Int)) C) := Lib.hid (by unfold mdL; rw [if_pos hf]; rfl)
    have HQ := Lib.hid (fun (L R : Nat) w' hb hL (hR : R < 5) => HM.out C L R w' hb hT hL hR)
    have HP := Lib.hid (partsS_any (C : Int))
    have HSM := Lib.hid (fun S hS => parts_small (C : Int) S hS)
    have hpl := parts_len32 (C := C) (by omega)
    have HLEN := Lib.hid (fun r => mdOut_len (fun S r => minN C ll m S.toNat r) (parts (C : Int)) r)
    have HLEI := Lib.hid (fun r l0 n => mdIn_len (fun S r => minN C ll m S.toNat r) (parts (C : Int)) r l0 n)
    have HSI := Lib.hid (fun r l0 i => mdIn_succ (fun S r => minN C ll m S.toNat r) (parts (C : Int)) r l0 i)
    obtain ⟨ps, hps⟩ : ∃ ps, ps = parts (C : Int) := ⟨_, rfl⟩
    rw [← hps] at HE HP HSM hpl HLEN HLEI HSI
    clear hf hT HM hps
    go_enter Tryz.func15, Tryz.ntmps15
    go_wp2_with fail
    refine (HF.out _ HB2.out).mono ?_
    rintro e w1 ⟨rfl, b1⟩
    have hb2 := HB2.out.trans (b1.mono HB2.out.size)
    have ho3 := ho2.below b1 (fun k hk => (ho2.lt k hk).2)
    replace c0 := (b1.cell (World.block_lt_of_cell? _ _ c0)).trans c0
    replace c1 := (b1.cell (World.block_lt_of_cell? _ _ c1)).trans c1
    clear b1 ho2
    go_wp2_with fail
    refine (HP.out _).mono ?_
    rintro e w2 ⟨vp, rfl, op, b2⟩
    have hb3 := hb2.trans (b2.mono hb2.size)
    have ho4 := ho3.below b2 (fun k hk => (ho3.lt k hk).2)
    replace c0 := (b2.cell (World.block_lt_of_cell? _ _ c0)).trans c0
    replace c1 := (b2.cell (World.block_lt_of_cell? _ _ c1)).trans c1
    have op' := op.base (B' := w.heap.size) hb2.size
    obtain ⟨ap, capp, hvp, -⟩ := op.read
    subst hvp
    have HO := Lib.hid ho4
    have HB := Lib.hid hb3
    have HPS := Lib.hid op'
    have HBX := Lib.hid (And.intro c0 c1)
    clear b2 op ho3 ho4 hb2 hb3 op' c0 c1
    go_wp2_with fail
    go_loopw [5, 7] (fun ov rv wr => ∃ (r : Nat) (q : List (Int × Int)), r ≤ C ∧ rv = .int .i64 (r : Int) ∧ Hid (q = mdOut (fun S r => minN C ll m S.toNat r) ps r) ∧ Hid (OwnD wr (w.heap.size + 1) ov q) ∧ Hid (OwnI wr w.heap.size (.slice ap ps.length capp) ps) ∧ Hid (wr.cell? ⟨w.heap.size, 0, none⟩ = some (.int .i64 (C : Int)) ∧ wr.cell? ⟨w.heap.size, 1, none⟩ = some (.slice a ll.length cap)) ∧ Hid (Below w.heap.size w wr)) (fun _ rv _ => C - (intOf rv).toNat)
    case atStart => exact ⟨0, [], by omega, rfl, Lib.hid rfl, HO, HPS, HBX, HB⟩
    case round =>
      clear HO HPS HBX HB
      obtain ⟨r, q, hr, rfl, hq, HO, HPS, HBX, HB⟩ := hrel
      obtain ⟨w3, hw3⟩ : ∃ w', w' = wr := ⟨_, rfl⟩
      rw [← hw3] at HO HPS HBX HB ⊢
      clear hw3
      obtain ⟨c0, c1⟩ := HBX.out
      by_cases hlt : r < C
      · have HSR := Lib.hid (HSI.out r q)
        have HLR := Lib.hid (HLEI.out r q)
        have hql : q.length ≤ 160 := by
          have h := HLEN.out r
          rw [← hq.out] at h
          have : r * ps.length ≤ 5 * 32 := Nat.mul_le_mul (by omega) hpl
          omega
        have HNX : Hid (mdOut (fun S r => minN C ll m S.toNat r) ps (r + 1) = mdIn (fun S r => minN C ll m S.toNat r) ps r q ps.length) := Lib.hid (by rw [hq.out]; rfl)
        have HQR := Lib.hid (fun (L : Nat) w' hb hL => HQ.out L r w' hb hL (by omega))
        obtain ⟨ov0, hov⟩ : ∃ x, x = u5 := ⟨_, rfl⟩
        rw [← hov] at HO ⊢
        have z0 : (0 : Int) ≤ (r : Int) := by omega
        have z1 : (r : Int) < (C : Int) := by omega
        clear hov hq
        go_wp2_with fail
        go_loopw [5, 8, 9] (fun ov jv _ wr => ∃ (k : Nat) (q2 : List (Int × Int)), k ≤ ps.length ∧ jv = .int .i64 (k : Int) ∧ Hid (q2 = mdIn (fun S r => minN C ll m S.toNat r) ps r q k) ∧ Hid (OwnD wr (w.heap.size + 1) ov q2) ∧ Hid (OwnI wr w.heap.size (.slice ap ps.length capp) ps) ∧ Hid (wr.cell? ⟨w.heap.size, 0, none⟩ = some (.int .i64 (C : Int)) ∧ wr.cell? ⟨w.heap.size, 1, none⟩ = some (.slice a ll.length cap)) ∧ Hid (Below w.heap.size w wr)) (fun _ jv _ _ => ps.length - (intOf jv).toNat)
        case atStart => exact ⟨0, q, by omega, rfl, Lib.hid rfl, HO, HPS, HBX, HB⟩
        case round =>
          clear HO HPS HBX HB c0 c1
          obtain ⟨k, q2, hk, rfl, hq2, HO, HPS, HBX, HB⟩ := hrel
          obtain ⟨w4, hw4⟩ : ∃ w', w' = wr := ⟨_, rfl⟩
          rw [← hw4] at HO HPS HBX HB ⊢
          clear hw4
          by_cases hlt2 : k < ps.length
          · obtain ⟨x, rfl, hx⟩ : ∃ x, ap = some x ∧ w4.cell? (x.add k) = some (.int .i64 (ps.getD k 0)) := by
              obtain ⟨a', cap', hv, hc⟩ := HPS.out.read
              cases hv
              obtain ⟨x, e1, e2⟩ := hc k hlt2
              rw [get_getD ps k hlt2] at e2
              exact ⟨x, e1, e2⟩
            obtain ⟨X, hX, hX32⟩ := HSM.out (ps.getD k 0) (by rw [← get_getD ps k hlt2]; exact List.getElem_mem hlt2)
            have hql2 : q2.length ≤ 1000 := by rw [hq2.out]; have := HLR.out k; omega
            have hS := HSR.out k
            rw [← hq2.out] at hS
            rw [hX] at hx hS
            rw [show ((X : Int)).toNat = X from rfl] at hS
            have HC := Lib.hid (fun w' hb => HQR.out X w' hb hX32)
            obtain ⟨bb, hbb⟩ : ∃ bb, bb = minN C ll m X r := ⟨_, rfl⟩
            rw [← hbb] at HC hS
            have HS := Lib.hid hS
            obtain ⟨c0, c1⟩ := HBX.out
            have hwb := (Below.refl w4.heap.size w4).alloc (Nat.le_refl _) (.cells #[.int .i64 (X : Int), .int .i64 (r : Int)] 38)
            have HB5 := Lib.hid (HB.out.trans (hwb.mono HB.out.size))
            obtain ⟨e0, e1⟩ := zero2 w4 38 (.int .i64 (X : Int)) (.int .i64 (r : Int))
            have ho5 := HO.out.below hwb (fun k hk => (HO.out.lt k hk).2)
            have hp5 := HPS.out.kept hwb (fun k hk => (HPS.out.lt k hk).2)
            have c05 := (hwb.cell (World.block_lt_of_cell? _ _ c0)).trans c0
            have c15 := (hwb.cell (World.block_lt_of_cell? _ _ c1)).trans c1
            have z2 : (0 : Int) ≤ (k : Int) := by omega
            have z3 : (k : Int) < (ps.length : Int) := by omega
            clear hX hbb hS hwb
            cases bb with
            | true =>
              rw [if_pos rfl] at HS
              have HO5 := Lib.hid ho5
              have HP5 := Lib.hid hp5
              clear ho5 hp5
              go_wp2_with fail
              refine (HC.out _ HB5.out).mono ?_
              rintro e w6 ⟨rfl, b6⟩
              replace e0 := (b6.cell (World.block_lt_of_cell? _ _ e0)).trans e0
              replace e1 := (b6.cell (World.block_lt_of_cell? _ _ e1)).trans e1
              have c06 := (b6.cell (World.block_lt_of_cell? _ _ c05)).trans c05
              have c16 := (b6.cell (World.block_lt_of_cell? _ _ c15)).trans c15
              have ho6 := HO5.out.below b6 (fun k hk => (HO5.out.lt k hk).2)
              have hp6 := HP5.out.kept b6 (fun k hk => (HP5.out.lt k hk).2)
              have hb6 := HB5.out.trans (b6.mono HB5.out.size)
              have HO6 := Lib.hid ho6
              clear b6 c0 c1 c05 c15 hx
              go_wp2_with (at_builtin; refine wpList_append_own _ rfl _ _ 27 rfl (w.heap.size + 1) 38 i0 (.agg #[.int .i64 0, .int .i64 0]) 2 16 Tryz.underlying27 HI.out.1 HI.out.2.1 HI.out.2.2.1 HI.out.2.2.2 rfl (by decide) _ _ _ rfl (World.ownsRow.alloc ho6 _) ⟨w6.heap.size, 0, none⟩ 1 1 [.int .i64 (X : Int), .int .i64 (r : Int)] rfl rfl (cell_two_new _ _ _ _) (two_i64 _ _) (by unfold maxLen; omega) (by omega) (by have := hb6.size; simp; omega) ?_; intro v7 w7 hown7 hgrow7 _)
              have ho7 := Lib.hid (OwnD.snoc hown7)
              have ha6 := (Below.refl w6.heap.size w6).alloc (Nat.le_refl _) (.cells #[.int .i64 (X : Int), .int .i64 (r : Int)] 38)
              have hb7 := Lib.hid ((hb6.alloc hb6.size (.cells #[.int .i64 (X : Int), .int .i64 (r : Int)] 38)).grown hgrow7 (by simp; have := hb6.size; omega) (fun k hk => by have := (HO6.out.lt k hk).1; omega))
              have hi6 := hp6.kept ha6 (fun k hk => (hp6.lt k hk).2)
              have hi7 := Lib.hid (hi6.keptBy hgrow7 (fun g hg => dep_apart (World.ownsRow.alloc HO6.out _) hi6 g hg))
              have c7 := Lib.hid (And.intro ((kept_cell hgrow7 (fun g hg => (HO6.out.lt g hg).1) (World.block_lt_of_cell? _ _ ((ha6.cell (World.block_lt_of_cell? _ _ c06)).trans c06)) (Nat.le_refl _)).trans ((ha6.cell (World.block_lt_of_cell? _ _ c06)).trans c06)) ((kept_cell hgrow7 (fun g hg => (HO6.out.lt g hg).1) (World.block_lt_of_cell? _ _ ((ha6.cell (World.block_lt_of_cell? _ _ c16)).trans c16)) (Nat.le_refl _)).trans ((ha6.cell (World.block_lt_of_cell? _ _ c16)).trans c16)))
              clear hown7 hgrow7 hi6 ha6 c06 c16 e0 e1 ho6 hp6 hb6
              go_wp2_with fail
              go_roundw
              case rel => exact ⟨k + 1, _, by omega, by go_num, Lib.hid (by rw [HS.out]), ho7, hi7, c7, hb7⟩
              case measure => simp [intOf]; omega
            | false =>
              rw [if_neg (by decide)] at HS
              have HO5 := Lib.hid ho5
              have HP5 := Lib.hid hp5
              clear ho5 hp5
              go_wp2_with fail
              refine (HC.out _ HB5.out).mono ?_
              rintro e w6 ⟨rfl, b6⟩
              have c06 := (b6.cell (World.block_lt_of_cell? _ _ c05)).trans c05
              have c16 := (b6.cell (World.block_lt_of_cell? _ _ c15)).trans c15
              have ho6 := Lib.hid (HO5.out.below b6 (fun k hk => (HO5.out.lt k hk).2))
              have hp6 := Lib.hid (HP5.out.kept b6 (fun k hk => (HP5.out.lt k hk).2))
              have hb6 := Lib.hid (HB5.out.trans (b6.mono HB5.out.size))
              have c6 := Lib.hid (And.intro c06 c16)
              clear b6 c0 c1 c05 c15 hx c06 c16 e0 e1
              go_wp2_with fail
              go_roundw
              case rel => exact ⟨k + 1, _, by omega, by go_num, Lib.hid (by rw [HS.out]), ho6, hp6, c6, hb6⟩
              case measure => simp [intOf]; omega
          · obtain rfl : k = ps.length := by omega
            have HQ2 := Lib.hid (hq2.out.trans HNX.out.symm)
            go_wp2_with fail
            go_roundw
            case rel => exact ⟨r + 1, _, by omega, by go_num, HQ2, HO, HPS, HBX, HB⟩
            case measure => simp [intOf]; omega
      · obtain rfl : r = C := by omega
        go_wp2_with fail
        go_ret
        exact ⟨_, rfl, by rw [HE.out, ← hq.out]; exact HO.out.base (by omega), HB.out⟩
end
end Go.Proofs.YtjfllfancgmalaaGreat
namespace Go.Proofs.YtjfllfancgmalaaGreat
open Go.RowKit

theorem len_sub {α : Type} [DecidableEq α] : ∀ (l1 l2 : List α), l1.Nodup → (∀ x ∈ l1, x ∈ l2) → l1.length ≤ l2.length
  | [], _, _, _ => Nat.zero_le _
  | a :: l, l2, hn, hs => by
    have ha := hs a List.mem_cons_self
    have hc := List.nodup_cons.1 hn
    have ih := len_sub l (l2.erase a) hc.2 (fun x hx => (List.mem_erase_of_ne (fun e => hc.1 (by rw [← e]; exact hx))).2 (hs x (List.mem_cons_of_mem _ hx)))
    rw [List.length_erase_of_mem ha] at ih
    have := List.length_pos_of_mem ha
    simp only [List.length_cons]
    omega
theorem cdt_inj {C j k : Nat} (hC : C ≤ 5) (hj : j < C * 2 ^ C) (hk : k < C * 2 ^ C) (e1 : cdt C j = cdt C k) : j = k := by
  unfold cdt at e1
  obtain ⟨a1, a2⟩ := Prod.mk.inj e1
  have hpc := parts_cnt ⟨C, by omega⟩
  have h32 := two5 hC
  simp only at hpc
  have q1 : j / C < 2 ^ C := Nat.div_lt_of_lt_mul (by omega)
  have q2 : k / C < 2 ^ C := Nat.div_lt_of_lt_mul (by omega)
  have o1 := parts_order ⟨C, by omega⟩ ⟨j / C, by omega⟩ ⟨k / C, by omega⟩ (by rw [hpc]; exact q1) (by rw [hpc]; exact q2)
  have o2 := parts_order ⟨C, by omega⟩ ⟨k / C, by omega⟩ ⟨j / C, by omega⟩ (by rw [hpc]; exact q2) (by rw [hpc]; exact q1)
  simp only at o1 o2
  rw [a1] at o1 o2
  have o3 := o1 (subN_refl _)
  have o4 := o2 (subN_refl _)
  have e3 := Nat.div_add_mod j C
  have e4 := Nat.div_add_mod k C
  have e5 : j / C = k / C := by omega
  rw [e5] at e3
  omega
theorem parts_nd : ∀ C : Fin 6, (parts ((C.val : Nat) : Int)).Nodup := by decide +kernel
theorem mdOut_nd (f : Int → Nat → Bool) (ps : List Int) (hp : ps.Nodup) : ∀ C, (mdOut f ps C).Nodup
  | 0 => List.nodup_nil
  | C + 1 => by
    rw [mdOut_succ, List.nodup_append]
    refine ⟨mdOut_nd f ps hp C, ?_, fun a ha b hb e => ?_⟩
    · unfold List.Nodup
      rw [List.pairwise_map]
      exact (List.Pairwise.filter _ hp).imp (fun h e => h (by simpa using e))
    · obtain ⟨r, hr, S, -, -, rfl⟩ := (mdOut_mem f ps a C).1 ha
      obtain ⟨S', -, rfl⟩ := List.mem_map.1 hb
      simp at e
      omega
/-- What is found is among the minimal ones. -/
theorem repN_md {C : Nat} {ll : List (List Int)} {m : Int} (hf : fineT (C : Int) ll m = true) (hC1 : 1 ≤ C) (hC : C ≤ 5) {k : Nat} (hk : k ≤ C * 2 ^ C) : ∀ d ∈ (repN C ll m k).1, d ∈ mdL (C : Int) ll m := by
  intro d hd
  rw [repN_found hC1 hC k hk, List.mem_filter, List.mem_map] at hd
  obtain ⟨⟨j, hj, rfl⟩, hmin⟩ := hd
  obtain ⟨x, r, e, hx, hr⟩ := cdt_ok hC1 hC (k := j) (by have := List.mem_range.1 hj; omega)
  rw [e] at hmin ⊢
  unfold mdL minD
  rw [if_pos hf, mdOut_mem]
  exact ⟨r, hr, (x : Int), (parts_mem hC _).2 ⟨x, hx, rfl⟩, hmin, rfl⟩
/-- A search that has ended has found as many as are minimal. -/
theorem repN_all {C : Nat} {ll : List (List Int)} {m : Int} (hf : fineT (C : Int) ll m = true) (hC1 : 1 ≤ C) (hC : C ≤ 5) : (repN C ll m (C * 2 ^ C)).1.length = (mdL (C : Int) ll m).length := by
  refine Nat.le_antisymm (len_sub _ _ ?_ (repN_md hf hC1 hC (Nat.le_refl _))) (len_sub _ _ ?_ fun d hd => ?_)
  · rw [repN_found hC1 hC _ (Nat.le_refl _)]
    refine List.Pairwise.filter _ ?_
    rw [List.pairwise_map]
    exact List.pairwise_lt_range.imp_of_mem (fun {a b} ha hb hab e => by
      have := cdt_inj hC (List.mem_range.1 ha) (List.mem_range.1 hb) e
      omega)
  · unfold mdL minD
    rw [if_pos hf]
    exact mdOut_nd _ _ (by have := parts_nd ⟨C, by omega⟩; exact this) _
  · unfold mdL minD at hd
    rw [if_pos hf, mdOut_mem] at hd
    obtain ⟨r, hr, S, hS, hmin, rfl⟩ := hd
    rw [show ((C : Int)).toNat = C from rfl] at hr hS
    obtain ⟨x, hx, rfl⟩ := (parts_mem hC S).1 hS
    obtain ⟨k, hk, e⟩ := cdt_ex hC1 hC hx hr
    rw [repN_found hC1 hC _ (Nat.le_refl _), List.mem_filter, List.mem_map]
    exact ⟨⟨k, List.mem_range.2 hk, e⟩, hmin⟩
theorem repN_grow (C : Nat) (ll : List (List Int)) (m : Int) (k : Nat) : (repN C ll m (k + 1)).2 ≤ (repN C ll m k).2 + 1 := by
  rw [repN_succ]
  split
  · omega
  · split
    · exact Nat.le_refl _
    · exact Nat.le_refl _
/-- A budget that is not negative is kept. -/
theorem goN_budget {C : Nat} {ll : List (List Int)} {m t0 E b : Int} : ∀ (f k : Nat), ((repN C ll m k).2 : Int) - t0 ≤ b → ((repN C ll m (goN C ll m t0 E b f k)).2 : Int) - t0 ≤ b
  | 0, _, h => h
  | f + 1, k, h => by
    show ((repN C ll m (if _ then _ else _)).2 : Int) - t0 ≤ b
    split
    · next hc =>
      have := repN_grow C ll m k
      exact goN_budget f (k + 1) (by omega)
    · exact h
theorem isSB_rep {C k : Nat} {ll : List (List Int)} {m : Int} (hf : fineT (C : Int) ll m = true) (hk : k ≤ C * 2 ^ C) : isSB (C : Int) ll m (k : Int) (repN C ll m k).1 ((repN C ll m k).2 : Int) = true := by
  unfold isSB
  rw [hf, show ((C : Int)).toNat = C from rfl, show ((k : Int)).toNat = k from rfl, decide_eq_true (show 0 ≤ (k : Int) ∧ (k : Int) ≤ ((C * 2 ^ C : Nat) : Int) by omega), decide_eq_true rfl, decide_eq_true rfl]
  rfl
theorem edB_rep {C : Nat} {ll : List (List Int)} {m : Int} (hf : fineT (C : Int) ll m = true) : edB (C : Int) ll m ((C * 2 ^ C : Nat) : Int) (repN C ll m (C * 2 ^ C)).1 ((repN C ll m (C * 2 ^ C)).2 : Int) = true := by
  unfold edB
  rw [isSB_rep hf (Nat.le_refl _), show ((C : Int)).toNat = C from rfl, decide_eq_true rfl]
  rfl
theorem eqSea_self (c : Int) (ll : List (List Int)) (m at_ t : Int) (F : List (Int × Int)) : eqSea c c ll ll m m at_ at_ F F t t = true := by
  unfold eqSea
  rw [eqTb_self, beq_self_eq_true, beq_self_eq_true, beq_self_eq_true, decide_eq_true rfl]
  rfl
/-- What a run with a budget leaves of a valid search, and what running on to the end leaves of either. -/
theorem rs_facts {C K n : Nat} {ll : List (List Int)} {m : Int} {F : List (Int × Int)} (_hf : fineT (C : Int) ll m = true) (hK : K ≤ C * 2 ^ C) (hN : C * 2 ^ C ≤ 160) (hrep : repN C ll m K = (F, n)) (hs : isSB (C : Int) ll m (K : Int) F (n : Int) = true) (b : Int) :
    ∃ k9 : Nat, k9 ≤ C * 2 ^ C ∧ rsA (C : Int) ll m (K : Int) F (n : Int) b = (k9 : Int) ∧ rsF (C : Int) ll m (K : Int) F (n : Int) b = (repN C ll m k9).1 ∧ rsT (C : Int) ll m (K : Int) F (n : Int) b = ((repN C ll m k9).2 : Int) ∧ (160 < b → k9 = C * 2 ^ C) ∧ (0 ≤ b → ((repN C ll m k9).2 : Int) - (n : Int) ≤ b) := by
  have hg := goN_le (C := C) (ll := ll) (m := m) (t0 := (n : Int)) (E := ((C * 2 ^ C : Nat) : Int)) (b := b) (C * 2 ^ C - K) K
  have hr : rnK (C : Int) ll m (K : Int) (n : Int) b = goN C ll m (n : Int) ((C * 2 ^ C : Nat) : Int) b (C * 2 ^ C - K) K := rfl
  refine ⟨rnK (C : Int) ll m (K : Int) (n : Int) b, ?_, ?_, ?_, ?_, fun hb => ?_, fun hb => ?_⟩
  · omega
  · unfold rsA; rw [if_pos hs]
  · unfold rsF; rw [if_pos hs]; rfl
  · unfold rsT; rw [if_pos hs]; rfl
  · rw [hr]; exact goN_all hN (Nat.le_refl _) (by omega) hb (C * 2 ^ C - K) K (by omega)
  · rw [hr]; exact goN_budget _ K (by rw [hrep]; show (n : Int) - (n : Int) ≤ b; omega)
end Go.Proofs.YtjfllfancgmalaaGreat
