/- The model's l8Step, by contract. Conditions: as stated. -/
import Derived.Test.YtjfllfancgmalaaGreatSc27
import Derived.Deep.CutBlock
import Derived.Deep.DeepCutAuto
namespace Go.Proofs.YtjfllfancgmalaaGreat
open Go.RowKit

theorem set_two {w : World} {b : Nat} {a0 a1 : Value} (h0 : w.cell? ⟨b, 0, none⟩ = some a0) (h1 : w.cell? ⟨b, 1, none⟩ = some a1) (x y : Value) : ((w.setCell ⟨b, 0, none⟩ x).setCell ⟨b, 1, none⟩ y).cell? ⟨b, 0, none⟩ = some x ∧ ((w.setCell ⟨b, 0, none⟩ x).setCell ⟨b, 1, none⟩ y).cell? ⟨b, 1, none⟩ = some y := by
  constructor <;> simp [go_sem, h0, h1]
section
set_option maxRecDepth 20000
set_option maxHeartbeats 3200000
theorem l8Step_any (C k t : Nat) (m : Int) (q : List (Int × Int)) (w0 : World) (x1 x4 : Value) (K n0 : Int) (u g : Value) (ll : List (List Int)) (p : Nat) (wr : World) (hT : isT (C : Int) ll = true) (hk : k < C * 2 ^ C) (hq : repN C ll m k = (q, t)) (hcm : Cm w0 C m x1 x4 K n0 u ll p k g q (t : Int) wr)
    (q' : List (Int × Int)) (t' : Nat) (hq' : repN C ll m (k + 1) = (q', t')) :
    Calls Tryz.prog 33 #[.pointer (some ⟨p, 0, none⟩)] wr fun e w' => e = .returned (.tuple #[]) ∧ ∃ g', Cm w0 C m x1 x4 K n0 u ll p (k + 1) g' q' (t' : Int) w' := by
  obtain ⟨i0, hi, hz0, hz1, hz2⟩ := info_parts infoDp
  have HI : Hid (_ ∧ _ ∧ _ ∧ _) := Lib.hid ⟨hi, hz0, hz1, hz2⟩
  clear hi hz0 hz1 hz2
  obtain ⟨hc1, hc5, h40⟩ := isT_bd hT
  have hC1 : 1 ≤ C := by omega
  have hC5 : C ≤ 5 := by omega
  have hN160 : C * 2 ^ C ≤ 160 := by
    have h32 := two5 hC5
    have : C * 2 ^ C ≤ 5 * 32 := Nat.mul_le_mul hC5 h32
    omega
  have hlk := repN_len C ll m k
  rw [hq] at hlk
  obtain ⟨hl1, hl2⟩ := hlk
  simp only at hl1 hl2
  obtain ⟨x, r, e, hx, hr5⟩ := cdt_ok hC1 hC5 hk
  have HDK := Lib.hid (fun w' => dep8_any C k x r hC1 hC5 hk e w')
  have hS := repN_succ C ll m k
  rw [hq, e, hq'] at hS
  simp only [Int.toNat_natCast] at hS
  have HS := Lib.hid hS
  have HH := Lib.hid (fun (v : Value) w' (hv : ReadSS w' v ll) => l7Holds_any (C : Int) m x r v ll w' hv hT (by omega))
  rw [show ((C : Int)).toNat = C from rfl] at HH
  have HCV := Lib.hid (fun v w' (hv : ReadD w' v q) => covered8_any v q (x : Int) (r : Int) w' hv (by omega))
  have hk1 : IntKind.i64.wrap ((k : Int) + 1) = (k : Int) + 1 := IntWalk.i64_in _ (by omega)
  have ht1 : IntKind.i64.wrap ((t : Int) + 1) = (t : Int) + 1 := IntWalk.i64_in _ (by omega)
  obtain ⟨ag, capg, rfl⟩ := hcm.fnd.shape
  have hxb := hcm.tab.read
  obtain ⟨au, capu, rfl, -⟩ := hxb
  have hk160 : k ≤ 160 := by omega
  have HCM := Lib.hid hcm
  obtain ⟨⟨c0, c1, c2, c3, c4, c5⟩, f0, f1, f2, f3, f4, f5⟩ := hcm.nx.cells
  clear hS hcm e hc1 hc5 h40 hT hq hq' hk
  go_enter Tryz.func33, Tryz.ntmps33
  go_upto_region 0 with fail
  go_cut [2] (fun s2 wx => ∃ bd, s2 = .pointer (some ⟨bd, 0, none⟩) ∧ Hid (Cm w0 C m x1 x4 K n0 (.slice au ll.length capu) ll p k (.slice ag q.length capg) q (t : Int) wx) ∧ Hid (wx.cell? ⟨bd, 0, none⟩ = some (.int .i64 (x : Int)) ∧ wx.cell? ⟨bd, 1, none⟩ = some (.int .i64 (r : Int))) ∧ Hid (bd ≠ p) ∧ Hid ((Value.slice ag q.length capg).ownBlock ≠ some bd))
  case first =>
    refine wp_region_noPanic ?_
    refine wp_region_held_drew (S := (fun w' => (w'.cell? ⟨p, 0, none⟩ = some (.int .i64 (C : Int)) ∧ w'.cell? ⟨p, 3, none⟩ = some (.int .i64 (k : Int))) ∧ Below wr.heap.size wr w')) (by kernel_rfl) ?_ (fun hHeld => ?_)
    · ((try dsimp only); exact ⟨⟨c0, c3⟩, (Below.refl _ _).drew⟩)
    refine wpAnyH_take (i := 0) (v := ?_) rfl (by kernel_rfl) (by kernel_rfl) (by kernel_rfl) (fun _ _ _ h => h) (Or.inl ⟨by rfl, ?_⟩) (by assumption) ?_
    rotate_left
    · (intro w hSw; (try dsimp only at hSw); go_simp; (try with_reducible rfl))
    (try simp only [Act.put, List.getElem_toArray, List.getElem_cons_zero, List.setIfInBounds_toArray, List.set_cons_zero, List.set_cons_succ])
    refine wpAnyH_take (i := 1) (v := ?_) rfl (by kernel_rfl) (by kernel_rfl) (by kernel_rfl) (fun _ _ _ h => h) (Or.inl ⟨by rfl, ?_⟩) (by assumption) ?_
    rotate_left
    · (intro w hSw; (try dsimp only at hSw); go_simp; (try with_reducible rfl))
    (try simp only [Act.put, List.getElem_toArray, List.getElem_cons_succ, List.getElem_cons_zero, List.setIfInBounds_toArray, List.set_cons_zero, List.set_cons_succ])
    refine wpAnyH_take (i := 2) (v := ?_) rfl (by kernel_rfl) (by kernel_rfl) (by kernel_rfl) (fun _ _ _ h => h) (Or.inl ⟨by rfl, ?_⟩) (by assumption) ?_
    rotate_left
    · (intro w hSw; (try dsimp only at hSw); go_simp; (try with_reducible rfl))
    (try simp only [Act.put, List.getElem_toArray, List.getElem_cons_succ, List.getElem_cons_zero, List.setIfInBounds_toArray, List.set_cons_zero, List.set_cons_succ])
    refine wpAnyH_take (i := 3) (v := ?_) rfl (by kernel_rfl) (by kernel_rfl) (by kernel_rfl) (fun _ _ _ h => h) (Or.inl ⟨by rfl, ?_⟩) (by assumption) ?_
    rotate_left
    · (intro w hSw; (try dsimp only at hSw); go_simp; (try with_reducible rfl))
    (try simp only [Act.put, List.getElem_toArray, List.getElem_cons_succ, List.getElem_cons_zero, List.setIfInBounds_toArray, List.set_cons_zero, List.set_cons_succ])
    refine wpAnyH_take (i := 4) (v := ?_) rfl (by kernel_rfl) (by kernel_rfl) (by kernel_rfl) (fun _ _ _ h => h) (Or.inl ⟨by rfl, ?_⟩) (by assumption) ?_
    rotate_left
    · (intro w hSw; (try dsimp only at hSw); go_simp; (try with_reducible rfl))
    (try simp only [Act.put, List.getElem_toArray, List.getElem_cons_succ, List.getElem_cons_zero, List.setIfInBounds_toArray, List.set_cons_zero, List.set_cons_succ])
    refine wpAnyH_take (i := 5) (v := ?_) rfl (by kernel_rfl) (by kernel_rfl) (by kernel_rfl) (fun _ _ _ h => h) (Or.inl ⟨by rfl, ?_⟩) (by assumption) ?_
    rotate_left
    · (intro w hSw; (try dsimp only at hSw); go_simp; (try with_reducible rfl))
    (try simp only [Act.put, List.getElem_toArray, List.getElem_cons_succ, List.getElem_cons_zero, List.setIfInBounds_toArray, List.set_cons_zero, List.set_cons_succ])
    refine wpAnyH_take (i := 6) (v := ?_) rfl (by kernel_rfl) (by kernel_rfl) (by kernel_rfl) (fun _ _ _ h => h) (Or.inl ⟨by rfl, ?_⟩) (by assumption) ?_
    rotate_left
    · (intro w hSw; (try dsimp only at hSw); go_simp; (try with_reducible rfl))
    (try simp only [Act.put, List.getElem_toArray, List.getElem_cons_succ, List.getElem_cons_zero, List.setIfInBounds_toArray, List.set_cons_zero, List.set_cons_succ])
    refine wpAnyH_take (i := 7) (v := ?_) rfl (by kernel_rfl) (by kernel_rfl) (by kernel_rfl) (fun _ _ _ h => h) (Or.inl ⟨by rfl, ?_⟩) (by assumption) ?_
    rotate_left
    · (intro w hSw; (try dsimp only at hSw); go_simp; (try with_reducible rfl))
    (try simp only [Act.put, List.getElem_toArray, List.getElem_cons_succ, List.getElem_cons_zero, List.setIfInBounds_toArray, List.set_cons_zero, List.set_cons_succ])
    refine wpAnyH_take (i := 8) (v := ?_) rfl (by kernel_rfl) (by kernel_rfl) (by kernel_rfl) (fun _ _ _ h => h) (Or.inl ⟨by rfl, ?_⟩) (by assumption) ?_
    rotate_left
    · (intro w hSw; (try dsimp only at hSw); go_simp; (try with_reducible rfl))
    (try simp only [Act.put, List.getElem_toArray, List.getElem_cons_succ, List.getElem_cons_zero, List.setIfInBounds_toArray, List.set_cons_zero, List.set_cons_succ])
    refine wpAnyH_ready (rs := [9, 10]) (by kernel_rfl) (by simp) (AllReadyH.cons rfl (fun K hK => ?_) (AllReadyH.cons rfl (fun K hK => ?_) AllReadyH.nil))
    · (first | (go_at_call 40; refine (HDK.out _).mono ?_; rintro e w91 ⟨rfl, b91⟩) | (go_simp; go_at_call 40; refine (HDK.out _).mono ?_; rintro e w91 ⟨rfl, b91⟩))
      (try (go_wp2_with fail))
      refine hK.out _ _ ?_ (fun hHeld => ?_)
      · ((try dsimp only); exact ⟨⟨cell_inB hHeld.1.1 b91, cell_inB hHeld.1.2 b91⟩, hHeld.2.trans (b91.mono hHeld.2.size)⟩)
      clear hK K
      (try simp only [Act.put, List.getElem_toArray, List.getElem_cons_succ, List.getElem_cons_zero, List.setIfInBounds_toArray, List.set_cons_zero, List.set_cons_succ])
      have HBD : Hid (wr.heap.size ≤ w91.heap.size) := Lib.hid hHeld.2.size
      have H91 := Lib.hid hHeld
      refine wpAnyH_ready (rs := [10]) (by kernel_rfl) (by simp) (AllReadyH.cons rfl (fun K hK => ?_) AllReadyH.nil)
      go_simp
      refine hK.out _ _ ?_ (fun hHeld => ?_)
      · ((try dsimp only); exact ⟨⟨cell_inB hHeld.1.1 ((Below.refl _ _).alloc (Nat.le_refl _) _), cell_inB hHeld.1.2 ((Below.refl _ _).alloc (Nat.le_refl _) _)⟩, hHeld.2.alloc hHeld.2.size _⟩)
      clear hK K
      (try simp only [Act.put, List.getElem_toArray, List.getElem_cons_succ, List.getElem_cons_zero, List.setIfInBounds_toArray, List.set_cons_zero, List.set_cons_succ])
      obtain ⟨d0, d1⟩ := zero2 w91 38 (.int .i64 0) (.int .i64 0)
      refine wpAnyH_ready (rs := [11]) (by kernel_rfl) (by simp) (AllReadyH.cons rfl (fun K hK => ?_) AllReadyH.nil)
      go_simp
      refine hK.out _ _ ?_ (fun hHeld => ?_)
      · ((try dsimp only); exact ⟨⟨cell_inB H91.out.1.1 ((Below.refl _ _).alloc (Nat.le_refl _) _), cell_inB H91.out.1.2 ((Below.refl _ _).alloc (Nat.le_refl _) _)⟩, H91.out.2.alloc H91.out.2.size _⟩)
      clear hK K
      (try simp only [Act.put, List.getElem_toArray, List.getElem_cons_succ, List.getElem_cons_zero, List.setIfInBounds_toArray, List.set_cons_zero, List.set_cons_succ])
      refine wpAnyH_done (by kernel_rfl) ?_ _
      refine NoPanic.normal ?_
      have HCX := Lib.hid (HCM.out.below hHeld.2)
      obtain ⟨y0, y1⟩ := zero2 w91 38 (.int .i64 (x : Int)) (.int .i64 (r : Int))
      have HYY := Lib.hid (And.intro y0 y1)
      have HNE : Hid (w91.heap.size ≠ p) := Lib.hid (by have := HCM.out.sz.2; have := HBD.out; omega)
      clear hHeld d0 d1 y0 y1
      go_wp2_with fail
      go_meet
      case rel => exact ⟨_, rfl, HCX, HYY, HNE, Lib.hid (fun e => by have h1 := (HCM.out.fnd.lt _ e).2; have h2 := HBD.out; omega)⟩
    · go_simp
      refine hK.out _ _ ?_ (fun hHeld => ?_)
      · ((try dsimp only); exact ⟨⟨cell_inB hHeld.1.1 ((Below.refl _ _).alloc (Nat.le_refl _) _), cell_inB hHeld.1.2 ((Below.refl _ _).alloc (Nat.le_refl _) _)⟩, hHeld.2.alloc hHeld.2.size _⟩)
      clear hK K
      (try simp only [Act.put, List.getElem_toArray, List.getElem_cons_succ, List.getElem_cons_zero, List.setIfInBounds_toArray, List.set_cons_zero, List.set_cons_succ])
      have HBD : Hid (wr.heap.size ≤ wr.heap.size) := Lib.hid (Nat.le_refl _)
      have HBN : Hid (p ≠ wr.heap.size) := Lib.hid (Nat.ne_of_lt HCM.out.sz.2)
      have HZB := Lib.hid (heap_alloc_new (World.drew wr) (.cells #[.int .i64 0, .int .i64 0] 38))
      refine wpAnyH_ready (rs := [9]) (by kernel_rfl) (by simp) (AllReadyH.cons rfl (fun K hK => ?_) AllReadyH.nil)
      (first | (go_at_call 40; refine (HDK.out _).mono ?_; rintro e w91 ⟨rfl, b91⟩; have hz : w91.heap[wr.heap.size]? = _ := (b91.block wr.heap.size (by simp)).trans HZB.out; have d0 : w91.cell? ⟨wr.heap.size, 0, none⟩ = some (.int .i64 0) := (by rw [cell_of_row w91 wr.heap.size 0 _ _ _ hz]; rfl); have d1 : w91.cell? ⟨wr.heap.size, 1, none⟩ = some (.int .i64 0) := (by rw [cell_of_row w91 wr.heap.size 1 _ _ _ hz]; rfl); have g0 := frozen_of_row w91 wr.heap.size 0 _ _ hz; have g1 := frozen_of_row w91 wr.heap.size 1 _ _ hz; clear hz) | (go_simp; go_at_call 40; refine (HDK.out _).mono ?_; rintro e w91 ⟨rfl, b91⟩; have hz : w91.heap[wr.heap.size]? = _ := (b91.block wr.heap.size (by simp)).trans HZB.out; have d0 : w91.cell? ⟨wr.heap.size, 0, none⟩ = some (.int .i64 0) := (by rw [cell_of_row w91 wr.heap.size 0 _ _ _ hz]; rfl); have d1 : w91.cell? ⟨wr.heap.size, 1, none⟩ = some (.int .i64 0) := (by rw [cell_of_row w91 wr.heap.size 1 _ _ _ hz]; rfl); have g0 := frozen_of_row w91 wr.heap.size 0 _ _ hz; have g1 := frozen_of_row w91 wr.heap.size 1 _ _ hz; clear hz))
      (try (go_wp2_with fail))
      refine hK.out _ _ ?_ (fun hHeld => ?_)
      · ((try dsimp only); exact ⟨⟨cell_inB hHeld.1.1 b91, cell_inB hHeld.1.2 b91⟩, hHeld.2.trans (b91.mono hHeld.2.size)⟩)
      clear hK K
      (try simp only [Act.put, List.getElem_toArray, List.getElem_cons_succ, List.getElem_cons_zero, List.setIfInBounds_toArray, List.set_cons_zero, List.set_cons_succ])
      refine wpAnyH_ready (rs := [11]) (by kernel_rfl) (by simp) (AllReadyH.cons rfl (fun K hK => ?_) AllReadyH.nil)
      go_simp
      refine hK.out _ _ ?_ (fun hHeld => ?_)
      · ((try dsimp only); exact ⟨⟨cell_eqb hHeld.1.1 ((Below.heap_setCell _ _ _ _ HBN.out).trans (Below.heap_setCell _ _ _ _ HBN.out)), cell_eqb hHeld.1.2 ((Below.heap_setCell _ _ _ _ HBN.out).trans (Below.heap_setCell _ _ _ _ HBN.out))⟩, (hHeld.2.setCell (p := ⟨_, 0, none⟩) HBD.out _).setCell (p := ⟨_, 1, none⟩) HBD.out _⟩)
      clear hK K
      (try simp only [Act.put, List.getElem_toArray, List.getElem_cons_succ, List.getElem_cons_zero, List.setIfInBounds_toArray, List.set_cons_zero, List.set_cons_succ])
      refine wpAnyH_done (by kernel_rfl) ?_ _
      refine NoPanic.normal ?_
      have HCX := Lib.hid (HCM.out.below hHeld.2)
      have HYY : Hid (_ ∧ _) := Lib.hid (set_two d0 d1 (.int .i64 (x : Int)) (.int .i64 (r : Int)))
      clear hHeld d0 d1
      go_wp2_with fail
      go_meet
      case rel => exact ⟨_, rfl, HCX, HYY, Lib.hid HBN.out.symm, Lib.hid (fun e => Nat.lt_irrefl _ (HCM.out.fnd.lt _ e).2)⟩
  case rest =>
    clear HCM c0 c1 c2 c3 c4 c5 f0 f1 f2 f3 f4 f5 HDK
    obtain ⟨bd, rfl, HCM, HYY, HNE, HBQ⟩ := hcut
    obtain ⟨⟨c0, c1, c2, c3, c4, c5⟩, f0, f1, f2, f3, f4, f5⟩ := HCM.out.nx.cells
    have HC1 := Lib.hid HCM.out.at_
    have HY1 : Hid (_ ∧ _) := Lib.hid (And.intro (cell_eqb HYY.out.1 (Below.heap_setCell wc ⟨p, 3, none⟩ (.int .i64 ((k : Int) + 1)) bd HNE.out)) (cell_eqb HYY.out.2 (Below.heap_setCell wc ⟨p, 3, none⟩ (.int .i64 ((k : Int) + 1)) bd HNE.out)))
    have hbit : (bits BinOp.and IntKind.i64 ((x : Int) / 2 ^ r) 1 == 1) = bitB x r := bit_test x r
    cases hbb : bitB x r with
    | true =>
      rw [hbb] at hbit
      have HQ : Hid (q' = q ∧ t' = t) := Lib.hid (by have h := HS.out; rw [hbb] at h; simpa using h)
      clear hbb
      go_upto_region 2 with fail
      clear c0 c1 c2 c3 c5 f0 f1 f2 f3 f4 f5 c4
      obtain ⟨⟨-, -, -, -, c4, -⟩, -⟩ := HC1.out.nx.cells
      refine wp_region_noPanic ?_
      refine wp_region_held_drew (S := (fun w' => ((w'.cell? ⟨bd, 0, none⟩ = some (.int .i64 (x : Int)) ∧ w'.cell? ⟨bd, 1, none⟩ = some (.int .i64 (r : Int))) ∧ w'.cell? ⟨p, 4, none⟩ = some (.slice ag q.length capg)) ∧ Below (wc.setCell ⟨p, 3, none⟩ (.int .i64 ((k : Int) + 1))).heap.size (wc.setCell ⟨p, 3, none⟩ (.int .i64 ((k : Int) + 1))) w')) (by kernel_rfl) ?_ (fun hHeld => ?_)
      · ((try dsimp only); exact ⟨⟨HY1.out, c4⟩, (Below.refl _ _).drew⟩)
      refine wpAnyH_take (i := 0) (v := ?_) rfl (by kernel_rfl) (by kernel_rfl) (by kernel_rfl) (fun _ _ _ h => h) (Or.inl ⟨by rfl, ?_⟩) (by assumption) ?_
      rotate_left
      · (intro w hSw; (try dsimp only at hSw); go_simp; (try with_reducible rfl))
      (try simp only [Act.put, List.getElem_toArray, List.getElem_cons_zero, List.setIfInBounds_toArray, List.set_cons_zero, List.set_cons_succ])
      refine wpAnyH_take (i := 1) (v := ?_) rfl (by kernel_rfl) (by kernel_rfl) (by kernel_rfl) (fun _ _ _ h => h) (Or.inl ⟨by rfl, ?_⟩) (by assumption) ?_
      rotate_left
      · (intro w hSw; (try dsimp only at hSw); go_simp; (try with_reducible rfl))
      (try simp only [Act.put, List.getElem_toArray, List.getElem_cons_succ, List.getElem_cons_zero, List.setIfInBounds_toArray, List.set_cons_zero, List.set_cons_succ])
      refine wpAnyH_take (i := 2) (v := ?_) rfl (by kernel_rfl) (by kernel_rfl) (by kernel_rfl) (fun _ _ _ h => h) (Or.inl ⟨by rfl, ?_⟩) (by assumption) ?_
      rotate_left
      · (intro w hSw; (try dsimp only at hSw); go_simp; (try with_reducible rfl))
      (try simp only [Act.put, List.getElem_toArray, List.getElem_cons_succ, List.getElem_cons_zero, List.setIfInBounds_toArray, List.set_cons_zero, List.set_cons_succ])
      refine wpAnyH_take (i := 3) (v := ?_) rfl (by kernel_rfl) (by kernel_rfl) (by kernel_rfl) (fun _ _ _ h => h) (Or.inl ⟨by rfl, ?_⟩) (by assumption) ?_
      rotate_left
      · (intro w hSw; (try dsimp only at hSw); go_simp; (try with_reducible rfl))
      (try simp only [Act.put, List.getElem_toArray, List.getElem_cons_succ, List.getElem_cons_zero, List.setIfInBounds_toArray, List.set_cons_zero, List.set_cons_succ])
      refine wpAnyH_take (i := 4) (v := ?_) rfl (by kernel_rfl) (by kernel_rfl) (by kernel_rfl) (fun _ _ _ h => h) (Or.inl ⟨by rfl, ?_⟩) (by assumption) ?_
      rotate_left
      · (intro w hSw; (try dsimp only at hSw); go_simp; (try with_reducible rfl))
      (try simp only [Act.put, List.getElem_toArray, List.getElem_cons_succ, List.getElem_cons_zero, List.setIfInBounds_toArray, List.set_cons_zero, List.set_cons_succ])
      refine wpAnyH_take (i := 5) (v := ?_) rfl (by kernel_rfl) (by kernel_rfl) (by kernel_rfl) (fun _ _ _ h => h) (Or.inl ⟨by rfl, ?_⟩) (by assumption) ?_
      rotate_left
      · (intro w hSw; (try dsimp only at hSw); go_simp; (try with_reducible rfl))
      (try simp only [Act.put, List.getElem_toArray, List.getElem_cons_succ, List.getElem_cons_zero, List.setIfInBounds_toArray, List.set_cons_zero, List.set_cons_succ])
      refine wpAnyH_take (i := 6) (v := ?_) rfl (by kernel_rfl) (by kernel_rfl) (by kernel_rfl) (fun _ _ _ h => h) (Or.inl ⟨by rfl, ?_⟩) (by assumption) ?_
      rotate_left
      · (intro w hSw; (try dsimp only at hSw); go_simp; (try with_reducible rfl))
      (try simp only [Act.put, List.getElem_toArray, List.getElem_cons_succ, List.getElem_cons_zero, List.setIfInBounds_toArray, List.set_cons_zero, List.set_cons_succ])
      refine wpAnyH_take (i := 7) (v := ?_) rfl (by kernel_rfl) (by kernel_rfl) (by kernel_rfl) (fun _ _ _ h => h) (Or.inl ⟨by rfl, ?_⟩) (by assumption) ?_
      rotate_left
      · (intro w hSw; (try dsimp only at hSw); go_simp; (try with_reducible rfl))
      (try simp only [Act.put, List.getElem_toArray, List.getElem_cons_succ, List.getElem_cons_zero, List.setIfInBounds_toArray, List.set_cons_zero, List.set_cons_succ])
      refine wpAnyH_take (i := 8) (v := undef) rfl (by kernel_rfl) (by kernel_rfl) (by kernel_rfl) (fun _ _ _ h => h) (Or.inr ⟨by rfl, rfl⟩) (by assumption) ?_
      (try simp only [Act.put, List.getElem_toArray, List.getElem_cons_succ, List.getElem_cons_zero, List.setIfInBounds_toArray, List.set_cons_zero, List.set_cons_succ])
      refine wpAnyH_take (i := 9) (v := undef) rfl (by kernel_rfl) (by kernel_rfl) (by kernel_rfl) (fun _ _ _ h => h) (Or.inr ⟨by rfl, rfl⟩) (by assumption) ?_
      (try simp only [Act.put, List.getElem_toArray, List.getElem_cons_succ, List.getElem_cons_zero, List.setIfInBounds_toArray, List.set_cons_zero, List.set_cons_succ])
      refine wpAnyH_take (i := 10) (v := undef) rfl (by kernel_rfl) (by kernel_rfl) (by kernel_rfl) (fun _ _ _ h => h) (Or.inr ⟨by rfl, rfl⟩) (by assumption) ?_
      (try simp only [Act.put, List.getElem_toArray, List.getElem_cons_succ, List.getElem_cons_zero, List.setIfInBounds_toArray, List.set_cons_zero, List.set_cons_succ])
      refine wpAnyH_take (i := 11) (v := undef) rfl (by kernel_rfl) (by kernel_rfl) (by kernel_rfl) (fun _ _ _ h => h) (Or.inr ⟨by rfl, rfl⟩) (by assumption) ?_
      (try simp only [Act.put, List.getElem_toArray, List.getElem_cons_succ, List.getElem_cons_zero, List.setIfInBounds_toArray, List.set_cons_zero, List.set_cons_succ])
      refine wpAnyH_take (i := 12) (v := undef) rfl (by kernel_rfl) (by kernel_rfl) (by kernel_rfl) (fun _ _ _ h => h) (Or.inr ⟨by rfl, rfl⟩) (by assumption) ?_
      (try simp only [Act.put, List.getElem_toArray, List.getElem_cons_succ, List.getElem_cons_zero, List.setIfInBounds_toArray, List.set_cons_zero, List.set_cons_succ])
      refine wpAnyH_take (i := 13) (v := undef) rfl (by kernel_rfl) (by kernel_rfl) (by kernel_rfl) (fun _ _ _ h => h) (Or.inr ⟨by rfl, rfl⟩) (by assumption) ?_
      (try simp only [Act.put, List.getElem_toArray, List.getElem_cons_succ, List.getElem_cons_zero, List.setIfInBounds_toArray, List.set_cons_zero, List.set_cons_succ])
      refine wpAnyH_take (i := 14) (v := ?_) rfl (by kernel_rfl) (by kernel_rfl) (by kernel_rfl) (fun _ _ _ h => h) (Or.inl ⟨by rfl, ?_⟩) (by assumption) ?_
      rotate_left
      · (intro w hSw; (try dsimp only at hSw); go_simp; (try with_reducible rfl))
      (try simp only [Act.put, List.getElem_toArray, List.getElem_cons_succ, List.getElem_cons_zero, List.setIfInBounds_toArray, List.set_cons_zero, List.set_cons_succ])
      refine wpAnyH_done (by kernel_rfl) ?_ _
      refine NoPanic.normal ?_
      clear c4
      go_wp2_with fail
      exact bodyPost_ret (v := .tuple #[]) (by simp [results, Tryz.results33, go_sem]) rfl ⟨rfl, _, by rw [HQ.out.1, HQ.out.2]; exact HC1.out.below hHeld.2⟩
    | false =>
      rw [hbb] at hbit
      obtain ⟨cv, hcv⟩ : ∃ cv, cv = cvd q ((x : Int), (r : Int)) := ⟨_, rfl⟩
      rw [← hcv] at HCV
      have HS2 : Hid ((q', t') = if cv = true then (q, t) else if h7 C ll m x r = true then (q ++ [((x : Int), (r : Int))], t + 1) else (q, t + 1)) := Lib.hid (by have h := HS.out; rw [hbb, Bool.false_or, ← hcv] at h; exact h)
      clear hbb hcv HS
      go_upto_region 2 with fail
      clear c0 c1 c2 c3 c5 f0 f1 f2 f3 f4 f5 c4
      obtain ⟨⟨-, -, -, -, c4, -⟩, -⟩ := HC1.out.nx.cells
      refine wp_region_noPanic ?_
      refine wp_region_held_drew (S := (fun w' => ((w'.cell? ⟨bd, 0, none⟩ = some (.int .i64 (x : Int)) ∧ w'.cell? ⟨bd, 1, none⟩ = some (.int .i64 (r : Int))) ∧ w'.cell? ⟨p, 4, none⟩ = some (.slice ag q.length capg)) ∧ Below (wc.setCell ⟨p, 3, none⟩ (.int .i64 ((k : Int) + 1))).heap.size (wc.setCell ⟨p, 3, none⟩ (.int .i64 ((k : Int) + 1))) w')) (by kernel_rfl) ?_ (fun hHeld => ?_)
      · ((try dsimp only); exact ⟨⟨HY1.out, c4⟩, (Below.refl _ _).drew⟩)
      refine wpAnyH_take (i := 0) (v := ?_) rfl (by kernel_rfl) (by kernel_rfl) (by kernel_rfl) (fun _ _ _ h => h) (Or.inl ⟨by rfl, ?_⟩) (by assumption) ?_
      rotate_left
      · (intro w hSw; (try dsimp only at hSw); go_simp; (try with_reducible rfl))
      (try simp only [Act.put, List.getElem_toArray, List.getElem_cons_zero, List.setIfInBounds_toArray, List.set_cons_zero, List.set_cons_succ])
      refine wpAnyH_take (i := 1) (v := ?_) rfl (by kernel_rfl) (by kernel_rfl) (by kernel_rfl) (fun _ _ _ h => h) (Or.inl ⟨by rfl, ?_⟩) (by assumption) ?_
      rotate_left
      · (intro w hSw; (try dsimp only at hSw); go_simp; (try with_reducible rfl))
      (try simp only [Act.put, List.getElem_toArray, List.getElem_cons_succ, List.getElem_cons_zero, List.setIfInBounds_toArray, List.set_cons_zero, List.set_cons_succ])
      refine wpAnyH_take (i := 2) (v := ?_) rfl (by kernel_rfl) (by kernel_rfl) (by kernel_rfl) (fun _ _ _ h => h) (Or.inl ⟨by rfl, ?_⟩) (by assumption) ?_
      rotate_left
      · (intro w hSw; (try dsimp only at hSw); go_simp; (try with_reducible rfl))
      (try simp only [Act.put, List.getElem_toArray, List.getElem_cons_succ, List.getElem_cons_zero, List.setIfInBounds_toArray, List.set_cons_zero, List.set_cons_succ])
      refine wpAnyH_take (i := 3) (v := ?_) rfl (by kernel_rfl) (by kernel_rfl) (by kernel_rfl) (fun _ _ _ h => h) (Or.inl ⟨by rfl, ?_⟩) (by assumption) ?_
      rotate_left
      · (intro w hSw; (try dsimp only at hSw); go_simp; (try with_reducible rfl))
      (try simp only [Act.put, List.getElem_toArray, List.getElem_cons_succ, List.getElem_cons_zero, List.setIfInBounds_toArray, List.set_cons_zero, List.set_cons_succ])
      refine wpAnyH_take (i := 4) (v := ?_) rfl (by kernel_rfl) (by kernel_rfl) (by kernel_rfl) (fun _ _ _ h => h) (Or.inl ⟨by rfl, ?_⟩) (by assumption) ?_
      rotate_left
      · (intro w hSw; (try dsimp only at hSw); go_simp; (try with_reducible rfl))
      (try simp only [Act.put, List.getElem_toArray, List.getElem_cons_succ, List.getElem_cons_zero, List.setIfInBounds_toArray, List.set_cons_zero, List.set_cons_succ])
      refine wpAnyH_take (i := 5) (v := ?_) rfl (by kernel_rfl) (by kernel_rfl) (by kernel_rfl) (fun _ _ _ h => h) (Or.inl ⟨by rfl, ?_⟩) (by assumption) ?_
      rotate_left
      · (intro w hSw; (try dsimp only at hSw); go_simp; (try with_reducible rfl))
      (try simp only [Act.put, List.getElem_toArray, List.getElem_cons_succ, List.getElem_cons_zero, List.setIfInBounds_toArray, List.set_cons_zero, List.set_cons_succ])
      refine wpAnyH_take (i := 6) (v := ?_) rfl (by kernel_rfl) (by kernel_rfl) (by kernel_rfl) (fun _ _ _ h => h) (Or.inl ⟨by rfl, ?_⟩) (by assumption) ?_
      rotate_left
      · (intro w hSw; (try dsimp only at hSw); go_simp; (try with_reducible rfl))
      (try simp only [Act.put, List.getElem_toArray, List.getElem_cons_succ, List.getElem_cons_zero, List.setIfInBounds_toArray, List.set_cons_zero, List.set_cons_succ])
      refine wpAnyH_take (i := 7) (v := ?_) rfl (by kernel_rfl) (by kernel_rfl) (by kernel_rfl) (fun _ _ _ h => h) (Or.inl ⟨by rfl, ?_⟩) (by assumption) ?_
      rotate_left
      · (intro w hSw; (try dsimp only at hSw); go_simp; (try with_reducible rfl))
      (try simp only [Act.put, List.getElem_toArray, List.getElem_cons_succ, List.getElem_cons_zero, List.setIfInBounds_toArray, List.set_cons_zero, List.set_cons_succ])
      refine wpAnyH_take (i := 8) (v := ?_) rfl (by kernel_rfl) (by kernel_rfl) (by kernel_rfl) (fun _ _ _ h => h) (Or.inl ⟨by rfl, ?_⟩) (by assumption) ?_
      rotate_left
      · (intro w hSw; (try dsimp only at hSw); go_simp; (try with_reducible rfl))
      (try simp only [Act.put, List.getElem_toArray, List.getElem_cons_succ, List.getElem_cons_zero, List.setIfInBounds_toArray, List.set_cons_zero, List.set_cons_succ])
      refine wpAnyH_take (i := 9) (v := ?_) rfl (by kernel_rfl) (by kernel_rfl) (by kernel_rfl) (fun _ _ _ h => h) (Or.inl ⟨by rfl, ?_⟩) (by assumption) ?_
      rotate_left
      · (intro w hSw; (try dsimp only at hSw); go_simp; (try with_reducible rfl))
      (try simp only [Act.put, List.getElem_toArray, List.getElem_cons_succ, List.getElem_cons_zero, List.setIfInBounds_toArray, List.set_cons_zero, List.set_cons_succ])
      refine wpAnyH_take (i := 10) (v := ?_) rfl (by kernel_rfl) (by kernel_rfl) (by kernel_rfl) (fun _ _ _ h => h) (Or.inl ⟨by rfl, ?_⟩) (by assumption) ?_
      rotate_left
      · (intro w hSw; (try dsimp only at hSw); go_simp; (try with_reducible rfl))
      (try simp only [Act.put, List.getElem_toArray, List.getElem_cons_succ, List.getElem_cons_zero, List.setIfInBounds_toArray, List.set_cons_zero, List.set_cons_succ])
      refine wpAnyH_take (i := 11) (v := ?_) rfl (by kernel_rfl) (by kernel_rfl) (by kernel_rfl) (fun _ _ _ h => h) (Or.inl ⟨by rfl, ?_⟩) (by assumption) ?_
      rotate_left
      · (intro w hSw; (try dsimp only at hSw); go_simp; (try with_reducible rfl))
      (try simp only [Act.put, List.getElem_toArray, List.getElem_cons_succ, List.getElem_cons_zero, List.setIfInBounds_toArray, List.set_cons_zero, List.set_cons_succ])
      refine wpAnyH_take (i := 12) (v := ?_) rfl (by kernel_rfl) (by kernel_rfl) (by kernel_rfl) (fun _ _ _ h => h) (Or.inl ⟨by rfl, ?_⟩) (by assumption) ?_
      rotate_left
      · (intro w hSw; (try dsimp only at hSw); go_simp; (try with_reducible rfl))
      (try simp only [Act.put, List.getElem_toArray, List.getElem_cons_succ, List.getElem_cons_zero, List.setIfInBounds_toArray, List.set_cons_zero, List.set_cons_succ])
      refine wpAnyH_ready (rs := [13]) (by kernel_rfl) (by simp) (AllReadyH.cons rfl (fun K hK => ?_) AllReadyH.nil)
      (first | (go_at_call 56; refine (HCV.out _ _ (HC1.out.fnd.read.kept hHeld.2)).mono ?_; rintro e w91 ⟨rfl, b91⟩) | (go_simp; go_at_call 56; refine (HCV.out _ _ (HC1.out.fnd.read.kept hHeld.2)).mono ?_; rintro e w91 ⟨rfl, b91⟩))
      (try (go_wp2_with fail))
      refine hK.out _ _ ?_ (fun hHeld => ?_)
      · ((try dsimp only); exact ⟨⟨⟨cell_inB hHeld.1.1.1 b91, cell_inB hHeld.1.1.2 b91⟩, cell_inB hHeld.1.2 b91⟩, hHeld.2.trans (b91.mono hHeld.2.size)⟩)
      clear hK K
      (try simp only [Act.put, List.getElem_toArray, List.getElem_cons_succ, List.getElem_cons_zero, List.setIfInBounds_toArray, List.set_cons_zero, List.set_cons_succ])
      refine wpAnyH_take (i := 14) (v := ?_) rfl (by kernel_rfl) (by kernel_rfl) (by kernel_rfl) (fun _ _ _ h => h) (Or.inl ⟨by rfl, ?_⟩) (by assumption) ?_
      rotate_left
      · (intro w hSw; (try dsimp only at hSw); go_simp; (try with_reducible rfl))
      (try simp only [Act.put, List.getElem_toArray, List.getElem_cons_succ, List.getElem_cons_zero, List.setIfInBounds_toArray, List.set_cons_zero, List.set_cons_succ])
      refine wpAnyH_done (by kernel_rfl) ?_ _
      refine NoPanic.normal ?_
      have HC3 := Lib.hid (HC1.out.below hHeld.2)
      have HY3 := Lib.hid hHeld.1.1
      obtain ⟨w3, hw3⟩ : ∃ w3, w3 = w91 := ⟨_, rfl⟩
      rw [← hw3] at HC3 HY3 ⊢
      clear c4 hHeld b91 hw3 w91
      cases cv with
      | true =>
        have HQ : Hid (q' = q ∧ t' = t) := Lib.hid (by simpa using HS2.out)
        go_wp2_with fail
        exact bodyPost_ret (v := .tuple #[]) (by simp [results, Tryz.results33, go_sem]) rfl ⟨rfl, _, by rw [HQ.out.1, HQ.out.2]; exact HC3.out⟩
      | false =>
        obtain ⟨hh, hhh⟩ : ∃ hh, hh = h7 C ll m x r := ⟨_, rfl⟩
        have HS3 : Hid ((q', t') = if hh = true then (q ++ [((x : Int), (r : Int))], t + 1) else (q, t + 1)) := Lib.hid (by rw [hhh]; simpa using HS2.out)
        have HHX : Hid (∀ (v : Value) w', ReadSS w' v ll → Calls Tryz.prog 57 #[.agg #[.int .i64 (C : Int), v], .int .i64 m, .agg #[.int .i64 (x : Int), .int .i64 (r : Int)]] w' fun e w'' => e = .returned (.bool hh) ∧ Below w'.heap.size w' w'') := Lib.hid (by rw [hhh]; exact HH.out)
        clear hhh HH
        obtain ⟨⟨c0, c1, c2, c3, c4, c5⟩, f0, f1, f2, f3, f4, f5⟩ := HC3.out.nx.cells
        have HC4 := Lib.hid (HC3.out.tests ((t : Int) + 1))
        have HY4 : Hid (_ ∧ _) := Lib.hid (And.intro (cell_eqb HY3.out.1 (Below.heap_setCell w3 ⟨p, 5, none⟩ (.int .i64 ((t : Int) + 1)) bd HNE.out)) (cell_eqb HY3.out.2 (Below.heap_setCell w3 ⟨p, 5, none⟩ (.int .i64 ((t : Int) + 1)) bd HNE.out)))
        go_upto_region 4 with fail
        clear c0 c1 c2 c3 c4 c5 f0 f1 f2 f3 f4 f5
        obtain ⟨⟨c0, c1, c2, -, -, -⟩, -⟩ := HC4.out.nx.cells
        refine wp_region_noPanic ?_
        refine wp_region_held_drew (S := (fun w' => (((w'.cell? ⟨bd, 0, none⟩ = some (.int .i64 (x : Int)) ∧ w'.cell? ⟨bd, 1, none⟩ = some (.int .i64 (r : Int))) ∧ w'.cell? ⟨p, 0, none⟩ = some (.int .i64 (C : Int))) ∧ w'.cell? ⟨p, 1, none⟩ = some (.slice au ll.length capu) ∧ w'.cell? ⟨p, 2, none⟩ = some (.int .i64 m)) ∧ Below (w3.setCell ⟨p, 5, none⟩ (.int .i64 ((t : Int) + 1))).heap.size (w3.setCell ⟨p, 5, none⟩ (.int .i64 ((t : Int) + 1))) w')) (by kernel_rfl) ?_ (fun hHeld => ?_)
        · ((try dsimp only); exact ⟨⟨⟨HY4.out, c0⟩, c1, c2⟩, (Below.refl _ _).drew⟩)
        refine wpAnyH_take (i := 0) (v := ?_) rfl (by kernel_rfl) (by kernel_rfl) (by kernel_rfl) (fun _ _ _ h => h) (Or.inl ⟨by rfl, ?_⟩) (by assumption) ?_
        rotate_left
        · (intro w hSw; (try dsimp only at hSw); go_simp; (try with_reducible rfl))
        (try simp only [Act.put, List.getElem_toArray, List.getElem_cons_zero, List.setIfInBounds_toArray, List.set_cons_zero, List.set_cons_succ])
        refine wpAnyH_take (i := 1) (v := ?_) rfl (by kernel_rfl) (by kernel_rfl) (by kernel_rfl) (fun _ _ _ h => h) (Or.inl ⟨by rfl, ?_⟩) (by assumption) ?_
        rotate_left
        · (intro w hSw; (try dsimp only at hSw); go_simp; (try with_reducible rfl))
        (try simp only [Act.put, List.getElem_toArray, List.getElem_cons_succ, List.getElem_cons_zero, List.setIfInBounds_toArray, List.set_cons_zero, List.set_cons_succ])
        refine wpAnyH_take (i := 2) (v := ?_) rfl (by kernel_rfl) (by kernel_rfl) (by kernel_rfl) (fun _ _ _ h => h) (Or.inl ⟨by rfl, ?_⟩) (by assumption) ?_
        rotate_left
        · (intro w hSw; (try dsimp only at hSw); go_simp; (try with_reducible rfl))
        (try simp only [Act.put, List.getElem_toArray, List.getElem_cons_succ, List.getElem_cons_zero, List.setIfInBounds_toArray, List.set_cons_zero, List.set_cons_succ])
        refine wpAnyH_take (i := 3) (v := ?_) rfl (by kernel_rfl) (by kernel_rfl) (by kernel_rfl) (fun _ _ _ h => h) (Or.inl ⟨by rfl, ?_⟩) (by assumption) ?_
        rotate_left
        · (intro w hSw; (try dsimp only at hSw); go_simp; (try with_reducible rfl))
        (try simp only [Act.put, List.getElem_toArray, List.getElem_cons_succ, List.getElem_cons_zero, List.setIfInBounds_toArray, List.set_cons_zero, List.set_cons_succ])
        refine wpAnyH_take (i := 4) (v := ?_) rfl (by kernel_rfl) (by kernel_rfl) (by kernel_rfl) (fun _ _ _ h => h) (Or.inl ⟨by rfl, ?_⟩) (by assumption) ?_
        rotate_left
        · (intro w hSw; (try dsimp only at hSw); go_simp; (try with_reducible rfl))
        (try simp only [Act.put, List.getElem_toArray, List.getElem_cons_succ, List.getElem_cons_zero, List.setIfInBounds_toArray, List.set_cons_zero, List.set_cons_succ])
        refine wpAnyH_take (i := 5) (v := ?_) rfl (by kernel_rfl) (by kernel_rfl) (by kernel_rfl) (fun _ _ _ h => h) (Or.inl ⟨by rfl, ?_⟩) (by assumption) ?_
        rotate_left
        · (intro w hSw; (try dsimp only at hSw); go_simp; (try with_reducible rfl))
        (try simp only [Act.put, List.getElem_toArray, List.getElem_cons_succ, List.getElem_cons_zero, List.setIfInBounds_toArray, List.set_cons_zero, List.set_cons_succ])
        refine wpAnyH_take (i := 6) (v := ?_) rfl (by kernel_rfl) (by kernel_rfl) (by kernel_rfl) (fun _ _ _ h => h) (Or.inl ⟨by rfl, ?_⟩) (by assumption) ?_
        rotate_left
        · (intro w hSw; (try dsimp only at hSw); go_simp; (try with_reducible rfl))
        (try simp only [Act.put, List.getElem_toArray, List.getElem_cons_succ, List.getElem_cons_zero, List.setIfInBounds_toArray, List.set_cons_zero, List.set_cons_succ])
        refine wpAnyH_take (i := 7) (v := ?_) rfl (by kernel_rfl) (by kernel_rfl) (by kernel_rfl) (fun _ _ _ h => h) (Or.inl ⟨by rfl, ?_⟩) (by assumption) ?_
        rotate_left
        · (intro w hSw; (try dsimp only at hSw); go_simp; (try with_reducible rfl))
        (try simp only [Act.put, List.getElem_toArray, List.getElem_cons_succ, List.getElem_cons_zero, List.setIfInBounds_toArray, List.set_cons_zero, List.set_cons_succ])
        refine wpAnyH_take (i := 8) (v := ?_) rfl (by kernel_rfl) (by kernel_rfl) (by kernel_rfl) (fun _ _ _ h => h) (Or.inl ⟨by rfl, ?_⟩) (by assumption) ?_
        rotate_left
        · (intro w hSw; (try dsimp only at hSw); go_simp; (try with_reducible rfl))
        (try simp only [Act.put, List.getElem_toArray, List.getElem_cons_succ, List.getElem_cons_zero, List.setIfInBounds_toArray, List.set_cons_zero, List.set_cons_succ])
        refine wpAnyH_ready (rs := [9]) (by kernel_rfl) (by simp) (AllReadyH.cons rfl (fun K hK => ?_) AllReadyH.nil)
        (first | (go_at_call 57; refine (HHX.out _ _ (HC4.out.tab.read.kept hHeld.2)).mono ?_; rintro e w92 ⟨rfl, b92⟩) | (go_simp; go_at_call 57; refine (HHX.out _ _ (HC4.out.tab.read.kept hHeld.2)).mono ?_; rintro e w92 ⟨rfl, b92⟩))
        (try (go_wp2_with fail))
        refine hK.out _ _ ?_ (fun hHeld => ?_)
        · ((try dsimp only); exact ⟨⟨⟨⟨cell_inB hHeld.1.1.1.1 b92, cell_inB hHeld.1.1.1.2 b92⟩, cell_inB hHeld.1.1.2 b92⟩, cell_inB hHeld.1.2.1 b92, cell_inB hHeld.1.2.2 b92⟩, hHeld.2.trans (b92.mono hHeld.2.size)⟩)
        clear hK K
        (try simp only [Act.put, List.getElem_toArray, List.getElem_cons_succ, List.getElem_cons_zero, List.setIfInBounds_toArray, List.set_cons_zero, List.set_cons_succ])
        refine wpAnyH_done (by kernel_rfl) ?_ _
        refine NoPanic.normal ?_
        have HC5 := Lib.hid (HC4.out.below hHeld.2)
        have HY5 := Lib.hid hHeld.1.1.1
        clear c0 c1 c2
        cases hh with
        | false =>
          have HQ : Hid (q' = q ∧ t' = t + 1) := Lib.hid (by simpa using HS3.out)
          go_wp2_with fail
          exact bodyPost_end (v := .tuple #[]) (by simp [results, Tryz.results33, go_sem]) rfl ⟨rfl, _, by rw [HQ.out.1, HQ.out.2]; exact HC5.out⟩
        | true =>
          have HQ : Hid (q' = q ++ [((x : Int), (r : Int))] ∧ t' = t + 1) := Lib.hid (by simpa using HS3.out)
          go_upto_region 5 with fail
          obtain ⟨⟨-, -, -, -, c4, -⟩, f0, f1, f2, f3, f4, f5⟩ := HC5.out.nx.cells
          obtain ⟨w5, hw5⟩ : ∃ w5, w5 = w92 := ⟨_, rfl⟩
          rw [← hw5] at HC5 HY5 c4 f4 ⊢
          have c4d : w5.drew.cell? ⟨p, 4, none⟩ = some (.slice ag q.length capg) := c4
          have c4a := cell_inB c4d ((Below.refl _ _).alloc (Nat.le_refl _) (.cells #[.int .i64 (x : Int), .int .i64 (r : Int)] 38))
          have c4b := cell_inB c4 ((Below.refl _ _).alloc (Nat.le_refl _) (.cells #[.int .i64 (x : Int), .int .i64 (r : Int)] 38))
          have HC6 := Lib.hid (HC5.out.below ((Below.refl w5.heap.size w5).drew.alloc (Nat.le_refl _) (.cells #[.int .i64 (x : Int), .int .i64 (r : Int)] 38)))
          clear hHeld b92 hw5 w92 f0 f1 f2 f3 f4 f5
          refine wp_region_noPanic ?_
          refine wp_region_held_drew (S := (fun w' => (w'.cell? ⟨bd, 0, none⟩ = some (.int .i64 (x : Int)) ∧ w'.cell? ⟨bd, 1, none⟩ = some (.int .i64 (r : Int))))) (by kernel_rfl) ?_ (fun hHeld => ?_)
          · ((try dsimp only); exact HY5.out)
          refine wpAnyH_take (i := 0) (v := ?_) rfl (by kernel_rfl) (by kernel_rfl) (by kernel_rfl) (fun _ _ _ h => h) (Or.inl ⟨by rfl, ?_⟩) (by assumption) ?_
          rotate_left
          · (intro w hSw; (try dsimp only at hSw); go_simp; (try with_reducible rfl))
          (try simp only [Act.put, List.getElem_toArray, List.getElem_cons_zero, List.setIfInBounds_toArray, List.set_cons_zero, List.set_cons_succ])
          refine wpAnyH_take (i := 1) (v := ?_) rfl (by kernel_rfl) (by kernel_rfl) (by kernel_rfl) (fun _ _ _ h => h) (Or.inl ⟨by rfl, ?_⟩) (by assumption) ?_
          rotate_left
          · (intro w hSw; (try dsimp only at hSw); go_simp; (try with_reducible rfl))
          (try simp only [Act.put, List.getElem_toArray, List.getElem_cons_succ, List.getElem_cons_zero, List.setIfInBounds_toArray, List.set_cons_zero, List.set_cons_succ])
          refine wpAnyH_take (i := 2) (v := ?_) rfl (by kernel_rfl) (by kernel_rfl) (by kernel_rfl) (fun _ _ _ h => h) (Or.inl ⟨by rfl, ?_⟩) (by assumption) ?_
          rotate_left
          · (intro w hSw; (try dsimp only at hSw); go_simp; (try with_reducible rfl))
          (try simp only [Act.put, List.getElem_toArray, List.getElem_cons_succ, List.getElem_cons_zero, List.setIfInBounds_toArray, List.set_cons_zero, List.set_cons_succ])
          refine wpAnyH_take (i := 3) (v := ?_) rfl (by kernel_rfl) (by kernel_rfl) (by kernel_rfl) (fun _ _ _ h => h) (Or.inl ⟨by rfl, ?_⟩) (by assumption) ?_
          rotate_left
          · (intro w hSw; (try dsimp only at hSw); go_simp; (try with_reducible rfl))
          (try simp only [Act.put, List.getElem_toArray, List.getElem_cons_succ, List.getElem_cons_zero, List.setIfInBounds_toArray, List.set_cons_zero, List.set_cons_succ])
          refine wpAnyH_take (i := 5) (v := ?_) rfl (by kernel_rfl) (by kernel_rfl) (by kernel_rfl) (fun _ _ _ h => h) (Or.inl ⟨by rfl, ?_⟩) (by assumption) ?_
          rotate_left
          · (intro w hSw; (try dsimp only at hSw); go_simp; (try with_reducible rfl))
          (try simp only [Act.put, List.getElem_toArray, List.getElem_cons_succ, List.getElem_cons_zero, List.setIfInBounds_toArray, List.set_cons_zero, List.set_cons_succ])
          refine wpAnyH_ready (rs := [4, 6]) (by kernel_rfl) (by simp) (AllReadyH.cons rfl (fun K hK => ?_) (AllReadyH.cons rfl (fun K hK => ?_) AllReadyH.nil))
          · go_simp
            refine hK.out _ _ ?_ (fun hHeld => ?_)
            · ((try dsimp only); exact hHeld)
            clear hK K
            (try simp only [Act.put, List.getElem_toArray, List.getElem_cons_succ, List.getElem_cons_zero, List.setIfInBounds_toArray, List.set_cons_zero, List.set_cons_succ])
            refine wpAnyH_ready (rs := [6]) (by kernel_rfl) (by simp) (AllReadyH.cons rfl (fun K hK => ?_) AllReadyH.nil)
            go_simp
            refine hK.out _ _ ?_ (fun hHeld => ?_)
            · ((try dsimp only); exact ⟨cell_inB hHeld.1 ((Below.refl _ _).alloc (Nat.le_refl _) _), cell_inB hHeld.2 ((Below.refl _ _).alloc (Nat.le_refl _) _)⟩)
            clear hK K
            (try simp only [Act.put, List.getElem_toArray, List.getElem_cons_succ, List.getElem_cons_zero, List.setIfInBounds_toArray, List.set_cons_zero, List.set_cons_succ])
            refine wpAnyH_ready (rs := [7]) (by kernel_rfl) (by simp) (AllReadyH.cons rfl (fun K hK => ?_) AllReadyH.nil)
            (refine step_append_all (by rfl) _ _ _ (by rfl) (w0.heap.size + 2) 38 i0 (.agg #[.int .i64 0, .int .i64 0]) 2 16 Tryz.underlying27 HI.out.1 HI.out.2.1 HI.out.2.2.1 HI.out.2.2.2 rfl (by decide) _ _ _ (by rfl) HC6.out.fnd (some ⟨w5.heap.size, 0, none⟩) 1 1 [.int .i64 (x : Int), .int .i64 (r : Int)] (by rfl) (by rfl) (fun j u hu => ⟨_, rfl, cell_two_new _ _ _ _ j u hu⟩) (two_i64 _ _) (by unfold maxLen; omega) (by omega) (Nat.le_trans HC6.out.sz.1 (Nat.le_of_lt HC6.out.sz.2)) ?_; intro v93 w93 hown93 hgrow93; obtain ⟨a93, c93, h93⟩ := (OwnD.snoc hown93).shape; rw [List.length_append, List.length_singleton] at h93; subst h93; have HNX := Lib.hid (HC6.out.nxg hgrow93); have HFD := Lib.hid (HC6.out.found (OwnD.snoc hown93) hgrow93); have HYZ := Lib.hid (And.intro ((hgrow93.cell_far ⟨bd, 0, none⟩ (World.block_lt_of_cell? _ _ hHeld.1) (fun e => HBQ.out e.symm)).trans hHeld.1) ((hgrow93.cell_far ⟨bd, 1, none⟩ (World.block_lt_of_cell? _ _ hHeld.2) (fun e => HBQ.out e.symm)).trans hHeld.2)); clear hown93 hgrow93; obtain ⟨⟨y0, y1, y2, y3, y4, y5⟩, z0, z1, z2, z3, z4, z5⟩ := HNX.out.cells)
            (try (go_wp2_with fail))
            refine hK.out _ _ ?_ (fun hHeld => ?_)
            · ((try dsimp only); exact HYZ.out)
            clear hK K
            (try simp only [Act.put, List.getElem_toArray, List.getElem_cons_succ, List.getElem_cons_zero, List.setIfInBounds_toArray, List.set_cons_zero, List.set_cons_succ])
            refine wpAnyH_take (i := 8) (v := ?_) rfl (by kernel_rfl) (by kernel_rfl) (by kernel_rfl) (fun _ _ _ h => h) (Or.inl ⟨by rfl, ?_⟩) (by assumption) ?_
            rotate_left
            · (intro w hSw; (try dsimp only at hSw); go_simp; (try with_reducible rfl))
            (try simp only [Act.put, List.getElem_toArray, List.getElem_cons_succ, List.getElem_cons_zero, List.setIfInBounds_toArray, List.set_cons_zero, List.set_cons_succ])
            refine wpAnyH_take (i := 9) (v := ?_) rfl (by kernel_rfl) (by kernel_rfl) (by kernel_rfl) (fun _ _ _ h => h) (Or.inl ⟨by rfl, ?_⟩) (by assumption) ?_
            rotate_left
            · (intro w hSw; (try dsimp only at hSw); go_simp; (try with_reducible rfl))
            (try simp only [Act.put, List.getElem_toArray, List.getElem_cons_succ, List.getElem_cons_zero, List.setIfInBounds_toArray, List.set_cons_zero, List.set_cons_succ])
            refine wpAnyH_ready (rs := [10]) (by kernel_rfl) (by simp) (AllReadyH.cons rfl (fun K hK => ?_) AllReadyH.nil)
            go_simp
            refine hK.out _ _ ?_ (fun hHeld => ?_)
            · ((try dsimp only); exact ⟨cell_eqb hHeld.1 (Below.heap_setCell _ _ _ _ HNE.out), cell_eqb hHeld.2 (Below.heap_setCell _ _ _ _ HNE.out)⟩)
            clear hK K
            (try simp only [Act.put, List.getElem_toArray, List.getElem_cons_succ, List.getElem_cons_zero, List.setIfInBounds_toArray, List.set_cons_zero, List.set_cons_succ])
            refine wpAnyH_done (by kernel_rfl) ?_ _
            refine NoPanic.normal ?_
            clear hHeld c4 c4d c4a c4b y0 y1 y2 y3 y4 y5 z0 z1 z2 z3 z4 z5
            go_wp2_with fail
            exact bodyPost_end (v := .tuple #[]) (by simp [results, Tryz.results33, go_sem]) rfl ⟨rfl, _, by rw [HQ.out.1, HQ.out.2]; exact HFD.out⟩
          · go_simp
            refine hK.out _ _ ?_ (fun hHeld => ?_)
            · ((try dsimp only); exact ⟨cell_inB hHeld.1 ((Below.refl _ _).alloc (Nat.le_refl _) _), cell_inB hHeld.2 ((Below.refl _ _).alloc (Nat.le_refl _) _)⟩)
            clear hK K
            (try simp only [Act.put, List.getElem_toArray, List.getElem_cons_succ, List.getElem_cons_zero, List.setIfInBounds_toArray, List.set_cons_zero, List.set_cons_succ])
            refine wpAnyH_ready (rs := [4]) (by kernel_rfl) (by simp) (AllReadyH.cons rfl (fun K hK => ?_) AllReadyH.nil)
            go_simp
            refine hK.out _ _ ?_ (fun hHeld => ?_)
            · ((try dsimp only); exact hHeld)
            clear hK K
            (try simp only [Act.put, List.getElem_toArray, List.getElem_cons_succ, List.getElem_cons_zero, List.setIfInBounds_toArray, List.set_cons_zero, List.set_cons_succ])
            refine wpAnyH_ready (rs := [7]) (by kernel_rfl) (by simp) (AllReadyH.cons rfl (fun K hK => ?_) AllReadyH.nil)
            (refine step_append_all (by rfl) _ _ _ (by rfl) (w0.heap.size + 2) 38 i0 (.agg #[.int .i64 0, .int .i64 0]) 2 16 Tryz.underlying27 HI.out.1 HI.out.2.1 HI.out.2.2.1 HI.out.2.2.2 rfl (by decide) _ _ _ (by rfl) HC6.out.fnd (some ⟨w5.heap.size, 0, none⟩) 1 1 [.int .i64 (x : Int), .int .i64 (r : Int)] (by rfl) (by rfl) (fun j u hu => ⟨_, rfl, cell_two_new _ _ _ _ j u hu⟩) (two_i64 _ _) (by unfold maxLen; omega) (by omega) (Nat.le_trans HC6.out.sz.1 (Nat.le_of_lt HC6.out.sz.2)) ?_; intro v93 w93 hown93 hgrow93; obtain ⟨a93, c93, h93⟩ := (OwnD.snoc hown93).shape; rw [List.length_append, List.length_singleton] at h93; subst h93; have HNX := Lib.hid (HC6.out.nxg hgrow93); have HFD := Lib.hid (HC6.out.found (OwnD.snoc hown93) hgrow93); have HYZ := Lib.hid (And.intro ((hgrow93.cell_far ⟨bd, 0, none⟩ (World.block_lt_of_cell? _ _ hHeld.1) (fun e => HBQ.out e.symm)).trans hHeld.1) ((hgrow93.cell_far ⟨bd, 1, none⟩ (World.block_lt_of_cell? _ _ hHeld.2) (fun e => HBQ.out e.symm)).trans hHeld.2)); clear hown93 hgrow93; obtain ⟨⟨y0, y1, y2, y3, y4, y5⟩, z0, z1, z2, z3, z4, z5⟩ := HNX.out.cells)
            (try (go_wp2_with fail))
            refine hK.out _ _ ?_ (fun hHeld => ?_)
            · ((try dsimp only); exact HYZ.out)
            clear hK K
            (try simp only [Act.put, List.getElem_toArray, List.getElem_cons_succ, List.getElem_cons_zero, List.setIfInBounds_toArray, List.set_cons_zero, List.set_cons_succ])
            refine wpAnyH_take (i := 8) (v := ?_) rfl (by kernel_rfl) (by kernel_rfl) (by kernel_rfl) (fun _ _ _ h => h) (Or.inl ⟨by rfl, ?_⟩) (by assumption) ?_
            rotate_left
            · (intro w hSw; (try dsimp only at hSw); go_simp; (try with_reducible rfl))
            (try simp only [Act.put, List.getElem_toArray, List.getElem_cons_succ, List.getElem_cons_zero, List.setIfInBounds_toArray, List.set_cons_zero, List.set_cons_succ])
            refine wpAnyH_take (i := 9) (v := ?_) rfl (by kernel_rfl) (by kernel_rfl) (by kernel_rfl) (fun _ _ _ h => h) (Or.inl ⟨by rfl, ?_⟩) (by assumption) ?_
            rotate_left
            · (intro w hSw; (try dsimp only at hSw); go_simp; (try with_reducible rfl))
            (try simp only [Act.put, List.getElem_toArray, List.getElem_cons_succ, List.getElem_cons_zero, List.setIfInBounds_toArray, List.set_cons_zero, List.set_cons_succ])
            refine wpAnyH_ready (rs := [10]) (by kernel_rfl) (by simp) (AllReadyH.cons rfl (fun K hK => ?_) AllReadyH.nil)
            go_simp
            refine hK.out _ _ ?_ (fun hHeld => ?_)
            · ((try dsimp only); exact ⟨cell_eqb hHeld.1 (Below.heap_setCell _ _ _ _ HNE.out), cell_eqb hHeld.2 (Below.heap_setCell _ _ _ _ HNE.out)⟩)
            clear hK K
            (try simp only [Act.put, List.getElem_toArray, List.getElem_cons_succ, List.getElem_cons_zero, List.setIfInBounds_toArray, List.set_cons_zero, List.set_cons_succ])
            refine wpAnyH_done (by kernel_rfl) ?_ _
            refine NoPanic.normal ?_
            clear hHeld c4 c4d c4a c4b y0 y1 y2 y3 y4 y5 z0 z1 z2 z3 z4 z5
            go_wp2_with fail
            exact bodyPost_end (v := .tuple #[]) (by simp [results, Tryz.results33, go_sem]) rfl ⟨rfl, _, by rw [HQ.out.1, HQ.out.2]; exact HFD.out⟩
end
end Go.Proofs.YtjfllfancgmalaaGreat
