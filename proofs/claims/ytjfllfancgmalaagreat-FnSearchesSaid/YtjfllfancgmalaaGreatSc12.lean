/- Texts of this claim, merged: SeaB, SeaC, SeaD. Conditions: as stated. -/
import Derived.Test.YtjfllfancgmalaaGreatSc10
import Derived.Test.YtjfllfancgmalaaGreatSc11
import Derived.Maps.AppendAt
import Derived.Test.YtjfllfancgmalaaGreatSc6
namespace Go.Proofs.YtjfllfancgmalaaGreat
open Go.RowKit

theorem count8_any (C : Nat) (hC : C ≤ 5) (w : World) :
    Calls Tryz.prog 32 #[.int .i64 (C : Int)] w fun e w' => e = .returned (.int .i64 ((C * 2 ^ C : Nat) : Int)) ∧ w = w' := by
  rcases (show C = 0 ∨ C = 1 ∨ C = 2 ∨ C = 3 ∨ C = 4 ∨ C = 5 by omega) with rfl | rfl | rfl | rfl | rfl | rfl
  all_goals
    go_enter Tryz.func32, Tryz.ntmps32
    go_wp2
    go_ret
    exact ⟨rfl, rfl⟩
theorem row_at8 {w : World} {B : Nat} {ap : Option Addr} {cap k : Nat} {ps : List Int} (h : OwnI w B (.slice ap ps.length cap) ps) (hk : k < ps.length) : ∃ x, ap = some x ∧ w.cell? (x.add k) = some (.int .i64 (ps.getD k 0)) := by
  obtain ⟨a', cap', hv, hc⟩ := h.read
  cases hv
  obtain ⟨x, e1, e2⟩ := hc k hk
  rw [get_getD ps k hk] at e2
  exact ⟨x, e1, e2⟩
set_option maxHeartbeats 1600000 in
set_option maxRecDepth 20000 in
theorem dep8_any (C k x r : Nat) (hC1 : 1 ≤ C) (hC : C ≤ 5) (hk : k < C * 2 ^ C) (e : cdt C k = ((x : Int), (r : Int))) (w : World) :
    Calls Tryz.prog 40 #[.int .i64 (C : Int), .int .i64 (k : Int)] w fun e w' => e = .returned (.agg #[.int .i64 (x : Int), .int .i64 (r : Int)]) ∧ Below w.heap.size w w' := by
  have hb1 := (Below.refl w.heap.size w).alloc (Nat.le_refl _) (.cells #[.int .i64 0, .int .i64 0] 38)
  obtain ⟨c0, c1⟩ := zero2 w 38 (.int .i64 0) (.int .i64 0)
  have HP := Lib.hid (partsS_any (C : Int))
  have hpc := parts_cnt ⟨C, by omega⟩
  simp only at hpc
  have h1 : k / C < 2 ^ C := Nat.div_lt_of_lt_mul hk
  unfold cdt at e
  obtain ⟨e1, e2⟩ := Prod.mk.inj e
  have hkb : k < 160 := by
    have h32 := two5 hC
    have : C * 2 ^ C ≤ 5 * 32 := Nat.mul_le_mul hC h32
    omega
  obtain ⟨ps, hps⟩ : ∃ ps, ps = parts (C : Int) := ⟨_, rfl⟩
  rw [← hps] at HP hpc e1
  have hlt : k / C < ps.length := by omega
  obtain ⟨j, hj⟩ : ∃ j, j = k / C := ⟨_, rfl⟩
  rw [← hj] at hlt e1
  have hq : (k : Int).tdiv (C : Int) = (j : Int) := by rw [hj]; rfl
  have hm : (k : Int).tmod (C : Int) = (r : Int) := by rw [← e2]; rfl
  have hC0 : ¬ C = 0 := by omega
  have hj160 : j ≤ k := by rw [hj]; exact Nat.div_le_self _ _
  have hr5 : r < C := by have := Nat.mod_lt k (show 0 < C by omega); omega
  have hwj : IntKind.i64.wrap (j : Int) = (j : Int) := IntWalk.i64_in _ (by omega)
  have hwr : IntKind.i64.wrap (r : Int) = (r : Int) := IntWalk.i64_in _ (by omega)
  clear hps hpc h1 e2 hj
  go_enter Tryz.func40, Tryz.ntmps40
  go_wp2_with fail
  refine (HP.out _).mono ?_
  rintro e w1 ⟨vp, rfl, op, b1⟩
  have hb2 := hb1.trans (b1.mono hb1.size)
  obtain ⟨ap, capp, hv, -⟩ := op.read
  subst hv
  obtain ⟨ad, rfl, hx⟩ := row_at8 op hlt
  rw [e1] at hx
  replace c0 := (b1.cell (World.block_lt_of_cell? _ _ c0)).trans c0
  replace c1 := (b1.cell (World.block_lt_of_cell? _ _ c1)).trans c1
  have z0 : (0 : Int) ≤ (j : Int) := by omega
  have z1 : (j : Int) < (ps.length : Int) := by omega
  have hbx := (b1.block w.heap.size (by simp)).trans (heap_alloc_new w (.cells #[.int .i64 0, .int .i64 0] 38))
  have f0 : w1.frozen? ⟨w.heap.size, 0, none⟩ = false := frozen_of_row w1 w.heap.size 0 _ _ hbx
  have f1 : w1.frozen? ⟨w.heap.size, 1, none⟩ = false := frozen_of_row w1 w.heap.size 1 _ _ hbx
  clear b1 op hbx
  go_wp2_with fail
  go_region_law (fail)
  all_goals
    go_wp2_with fail
    exact bodyPost_ret (v := .agg #[.int .i64 (x : Int), .int .i64 (r : Int)]) (by simp [results, Tryz.results40, go_sem, c0, c1]) rfl ⟨rfl, (hb2.drew.setCell (p := ⟨w.heap.size, 0, none⟩) (Nat.le_refl _) _).setCell (p := ⟨w.heap.size, 1, none⟩) (Nat.le_refl _) _⟩
set_option maxHeartbeats 1600000 in
set_option maxRecDepth 20000 in
theorem covered8_any (v : Value) (l : List (Int × Int)) (d0 d1 : Int) (w : World) (hr : ReadD w v l) (hl : l.length ≤ 1048576) :
    Calls Tryz.prog 56 #[v, .agg #[.int .i64 d0, .int .i64 d1]] w fun e w' => e = .returned (.bool (cvd l (d0, d1))) ∧ Below w.heap.size w w' := by
  have hb1 := (Below.refl w.heap.size w).alloc (Nat.le_refl _) (.cells #[.int .i64 d0, .int .i64 d1] 38)
  obtain ⟨c0, c1⟩ := zero2 w 38 (.int .i64 d0) (.int .i64 d1)
  have HB1 := Lib.hid hb1
  have HC := Lib.hid (And.intro c0 c1)
  obtain ⟨a, cap, rfl, ha⟩ := hr
  have HA := Lib.hid ha
  clear ha hb1 c0 c1
  go_enter Tryz.func56, Tryz.ntmps56
  go_wp2_with fail
  go_loopw [5] (fun iv wr => ∃ i : Nat, i ≤ l.length ∧ iv = .int .i64 (i : Int) ∧ Hid (cvTo l (d0, d1) i = false) ∧ Hid (Below (w.alloc (.cells #[.int .i64 d0, .int .i64 d1] 38)).heap.size (w.alloc (.cells #[.int .i64 d0, .int .i64 d1] 38)) wr)) (fun iv _ => l.length - (intOf iv).toNat)
  case atStart => exact ⟨0, by omega, rfl, Lib.hid rfl, Lib.hid (Below.refl _ _)⟩
  case round =>
    obtain ⟨i, hi, rfl, hno, hb⟩ := hrel
    obtain ⟨w1, hw1⟩ : ∃ w', w' = wr := ⟨_, rfl⟩
    rw [← hw1] at hb ⊢
    clear hw1
    by_cases hlt : i < l.length
    · obtain ⟨b, o, rfl, h0, h1⟩ := HA.out i hlt
      have hbw := HB1.out.trans (hb.out.mono HB1.out.size)
      replace h0 := (hbw.cell (World.block_lt_of_cell? w _ h0)).trans h0
      replace h1 := (hbw.cell (World.block_lt_of_cell? w _ h1)).trans h1
      have c0 := (hb.out.cell (World.block_lt_of_cell? _ _ HC.out.1)).trans HC.out.1
      have c1 := (hb.out.cell (World.block_lt_of_cell? _ _ HC.out.2)).trans HC.out.2
      have hS : cvTo l (d0, d1) (i + 1) = (cvTo l (d0, d1) i || ((l.getD i (0, 0)).2 == d1 && (bits .and .i64 (l.getD i (0, 0)).1 d0 == (l.getD i (0, 0)).1))) := rfl
      have hY : (l.getD i (0, 0)).2 = d1 → bits .and .i64 (l.getD i (0, 0)).1 d0 = (l.getD i (0, 0)).1 → cvd l (d0, d1) = true := fun h2 h3 => (cvd_iff _ _).2 ⟨l.getD i (0, 0), by rw [List.getD_eq_getElem?_getD, List.getElem?_eq_getElem hlt]; exact List.getElem_mem hlt, h2, h3⟩
      obtain ⟨⟨y0, y1⟩, hy⟩ : ∃ z, z = l.getD i (0, 0) := ⟨_, rfl⟩
      rw [← hy] at h0 h1 hS hY
      simp only at h0 h1 hS hY
      rw [hno.out, Bool.false_or] at hS
      obtain ⟨e1, he1⟩ : ∃ e1, (y1 == d1) = e1 := ⟨_, rfl⟩
      obtain ⟨e2, he2⟩ : ∃ e2, (bits .and .i64 y0 d0 == y0) = e2 := ⟨_, rfl⟩
      have HY : Hid (e1 = true → e2 = true → cvd l (d0, d1) = true) := Lib.hid (fun q1 q2 => hY (by rw [← beq_iff_eq, he1]; exact q1) (by rw [← beq_iff_eq, he2]; exact q2))
      rw [he1, he2] at hS
      have HS := Lib.hid hS
      have z0 : (0 : Int) ≤ (i : Int) := by omega
      have z1 : (i : Int) < (l.length : Int) := by omega
      clear hy hS hY hbw
      cases e1 with
      | false =>
        go_wp2_with fail
        go_quiet (fail)
        go_wp2_with fail
        go_roundw
        case rel => exact ⟨i + 1, by omega, by go_num, Lib.hid (by rw [HS.out]; rfl), Lib.hid (below_drewN hb.out _)⟩
        case measure => simp [intOf]; omega
      | true =>
        cases e2 with
        | false =>
          go_wp2_with fail
          go_quiet (fail)
          go_wp2_with fail
          go_roundw
          case rel => exact ⟨i + 1, by omega, by go_num, Lib.hid (by rw [HS.out]; rfl), Lib.hid (below_drewN hb.out _)⟩
          case measure => simp [intOf]; omega
        | true =>
          have HE := Lib.hid (HY.out rfl rfl)
          go_wp2_with fail
          go_quiet (fail)
          go_wp2_with fail
          go_ret
          exact ⟨ret_b HE.out, HB1.out.trans ((below_drewN hb.out _).mono HB1.out.size)⟩
    · obtain rfl : i = l.length := by omega
      go_wp2_with fail
      go_ret
      exact ⟨ret_b hno.out, HB1.out.trans (hb.out.mono HB1.out.size)⟩
end Go.Proofs.YtjfllfancgmalaaGreat
namespace Go.Proofs.YtjfllfancgmalaaGreat
open Go.RowKit

theorem ownD_new8 (w : World) (B : Nat) (hB : B ≤ w.heap.size) : OwnD (w.alloc (.cells #[] 38)) B (.slice (some ⟨w.heap.size, 0, none⟩) 0 0) [] := World.ownsRow_made w #[] 0 hB (by unfold maxLen; omega) rfl
theorem repN_len (C : Nat) (ll : List (List Int)) (m : Int) : ∀ k, (repN C ll m k).1.length ≤ k ∧ (repN C ll m k).2 ≤ k
  | 0 => ⟨Nat.le_refl _, Nat.le_refl _⟩
  | k + 1 => by
    have ih := repN_len C ll m k
    rw [repN_succ]
    split
    · exact ⟨by omega, by omega⟩
    · split
      · constructor
        · show ((repN C ll m k).1 ++ [cdt C k]).length ≤ k + 1
          rw [List.length_append, List.length_singleton]; omega
        · show (repN C ll m k).2 + 1 ≤ k + 1
          omega
      · constructor
        · show (repN C ll m k).1.length ≤ k + 1
          omega
        · show (repN C ll m k).2 + 1 ≤ k + 1
          omega
def RetRep (ds : List (Int × Int)) (n : Nat) (w : World) (e : Ending) (w' : World) : Prop := ∃ v, e = .returned (.tuple #[v, .int .i64 (n : Int)]) ∧ OwnD w' w.heap.size v ds ∧ Below w.heap.size w w'
section
set_option maxRecDepth 20000
set_option maxHeartbeats 3200000
theorem replay8_any (C K : Nat) (m : Int) (v : Value) (ll : List (List Int)) (w : World) (hr : ReadSS w v ll) (hT : isT (C : Int) ll = true) (hK : K ≤ C * 2 ^ C) :
    Calls Tryz.prog 37 #[.agg #[.int .i64 (C : Int), v], .int .i64 m, .int .i64 (K : Int)] w (RetRep (repN C ll m K).1 (repN C ll m K).2 w) := by
  obtain ⟨i0, hi, hz0, hz1, hz2⟩ := info_parts infoDp
  have HI : Hid (_ ∧ _ ∧ _ ∧ _) := Lib.hid ⟨hi, hz0, hz1, hz2⟩
  clear hi hz0 hz1 hz2
  obtain ⟨hc1, hc5, h40⟩ := isT_bd hT
  have hK160 : K ≤ 160 := by
    have h32 := two5 (C := C) (by omega)
    have : C * 2 ^ C ≤ 5 * 32 := Nat.mul_le_mul (by omega) h32
    omega
  have HD := Lib.hid (fun k x r (hk : k < K) e w' => dep8_any C k x r (by omega) (by omega) (by omega) e w')
  have HOK := Lib.hid (fun k (hk : k < K) => cdt_ok (C := C) (k := k) (by omega) (by omega) (by omega))
  have HH := Lib.hid (fun (L R : Nat) w' (hb : Below w.heap.size w w') (hR : R < 5) => l7Holds_any (C : Int) m L R v ll w' (hr.kept hb) hT hR)
  rw [show ((C : Int)).toNat = C from rfl] at HH
  have HL := Lib.hid (repN_len C ll m)
  have HSU := Lib.hid (repN_succ C ll m)
  have hb1 := (Below.refl w.heap.size w).alloc (Nat.le_refl _) (.cells #[.int .i64 (C : Int), v] 26)
  have hb2 := hb1.alloc hb1.size (.cells #[] 38)
  have hb12 := (Below.refl (w.alloc (.cells #[.int .i64 (C : Int), v] 26)).heap.size (w.alloc (.cells #[.int .i64 (C : Int), v] 26))).alloc (Nat.le_refl _) (.cells #[] 38)
  have ho2 := ownD_new8 (w.alloc (.cells #[.int .i64 (C : Int), v] 26)) (w.heap.size + 1) (by simp)
  rw [World.size_alloc] at ho2
  obtain ⟨c0, c1⟩ := zero2 w 26 (.int .i64 (C : Int)) v
  replace c0 := (hb12.cell (World.block_lt_of_cell? _ _ c0)).trans c0
  replace c1 := (hb12.cell (World.block_lt_of_cell? _ _ c1)).trans c1
  obtain ⟨a, cap, rfl, -⟩ := hr
  have HO := Lib.hid ho2
  have HBX := Lib.hid (And.intro c0 c1)
  have HB := Lib.hid hb2
  have hC5 : C ≤ 5 := by omega
  clear hb1 hb2 hb12 ho2 c0 c1 hT hc1 hc5 h40
  go_enter Tryz.func37, Tryz.ntmps37
  go_wp2_with fail
  go_loopw [8, 9, 10] (fun ov nv iv wr => ∃ (k n : Nat) (q : List (Int × Int)), k ≤ K ∧ iv = .int .i64 (k : Int) ∧ nv = .int .i64 (n : Int) ∧ Hid (repN C ll m k = (q, n)) ∧ Hid (OwnD wr (w.heap.size + 1) ov q) ∧ Hid (wr.cell? ⟨w.heap.size, 0, none⟩ = some (.int .i64 (C : Int)) ∧ wr.cell? ⟨w.heap.size, 1, none⟩ = some (.slice a ll.length cap)) ∧ Hid (Below w.heap.size w wr)) (fun _ _ iv _ => K - (intOf iv).toNat)
  case atStart => exact ⟨0, 0, [], by omega, rfl, rfl, Lib.hid rfl, HO, HBX, HB⟩
  case round =>
    clear HO HBX HB
    obtain ⟨k, n, q, hk, rfl, rfl, hq, HO, HBX, HB⟩ := hrel
    obtain ⟨w2, hw2⟩ : ∃ w', w' = wr := ⟨_, rfl⟩
    rw [← hw2] at HO HBX HB ⊢
    clear hw2
    obtain ⟨c0, c1⟩ := HBX.out
    have hln := HL.out k
    rw [hq.out] at hln
    simp only at hln
    by_cases hlt : k < K
    · obtain ⟨x, r, e, hx, hr5⟩ := HOK.out k hlt
      have HDK := Lib.hid (HD.out k x r hlt e)
      have hS := HSU.out k
      rw [hq.out, e] at hS
      simp only [Int.toNat_natCast] at hS
      obtain ⟨n0, n1⟩ := hln
      have hn1 : IntKind.i64.wrap ((n : Int) + 1) = (n : Int) + 1 := IntWalk.i64_in _ (by omega)
      have z0 : (0 : Int) ≤ (k : Int) := by omega
      have z1 : (k : Int) < (K : Int) := by omega
      clear e
      go_wp2_with fail
      refine (HDK.out _).mono ?_
      rintro e w3 ⟨rfl, b3⟩
      have hb3 := HB.out.trans (b3.mono HB.out.size)
      have hal := (Below.refl w3.heap.size w3).alloc (Nat.le_refl _) (.cells #[.int .i64 (x : Int), .int .i64 (r : Int)] 38)
      have b4 := b3.trans (hal.mono b3.size)
      have HB4 := Lib.hid (hb3.trans (hal.mono hb3.size))
      have HO4 := Lib.hid (HO.out.below b4 (fun k hk => (HO.out.lt k hk).2))
      obtain ⟨e0, e1⟩ := zero2 w3 38 (.int .i64 (x : Int)) (.int .i64 (r : Int))
      have c04 := (b4.cell (World.block_lt_of_cell? _ _ c0)).trans c0
      have c14 := (b4.cell (World.block_lt_of_cell? _ _ c1)).trans c1
      have hbit : (bits BinOp.and IntKind.i64 ((x : Int) / 2 ^ r) 1 == 1) = bitB x r := bit_test x r
      clear c0 c1 b3 hb3 hal b4 HDK HB HO HBX
      obtain ⟨W, hW⟩ : ∃ W, W = w3.alloc (.cells #[.int .i64 (x : Int), .int .i64 (r : Int)] 38) := ⟨_, rfl⟩
      have hHC := covered8_any u8 q (x : Int) (r : Int) W (by rw [hW]; exact HO4.out.read) (by omega)
      have hHH := HH.out x r
      cases hbb : bitB x r with
      | true =>
        rw [hbb] at hbit hS
        have HS := Lib.hid (show repN C ll m (k + 1) = (q, n) by rw [hS]; rfl)
        clear hbb hS hHC hHH hW
        go_wp2_with fail
        go_roundw
        case rel => exact ⟨k + 1, n, q, by omega, by go_num, rfl, HS, HO4, Lib.hid ⟨c04, c14⟩, HB4⟩
        case measure => simp [intOf]; omega
      | false =>
        rw [hbb] at hbit hS
        rw [Bool.false_or] at hS
        rw [hW] at hHC
        obtain ⟨cv, hcv⟩ : ∃ cv, cv = cvd q ((x : Int), (r : Int)) := ⟨_, rfl⟩
        rw [← hcv] at hHC hS
        have HC := Lib.hid hHC
        have HX := Lib.hid hHH
        clear hbb hcv hHC hHH hW
        cases cv with
        | true =>
          have HS := Lib.hid (show repN C ll m (k + 1) = (q, n) by rw [hS, if_pos rfl])
          clear hS
          go_wp2_with fail
          refine HC.out.mono ?_
          rintro e w5 ⟨rfl, b5⟩
          have HB5 := Lib.hid (HB4.out.trans (b5.mono HB4.out.size))
          have HO5 := Lib.hid (HO4.out.below b5 (fun k hk => (HO4.out.lt k hk).2))
          have HBX5 := Lib.hid (And.intro ((b5.cell (World.block_lt_of_cell? _ _ c04)).trans c04) ((b5.cell (World.block_lt_of_cell? _ _ c14)).trans c14))
          clear b5 c04 c14 e0 e1
          go_wp2_with fail
          go_roundw
          case rel => exact ⟨k + 1, n, q, by omega, by go_num, rfl, HS, HO5, HBX5, HB5⟩
          case measure => simp [intOf]; omega
        | false =>
          rw [if_neg (by decide)] at hS
          obtain ⟨hh, hhh⟩ : ∃ hh, hh = h7 C ll m x r := ⟨_, rfl⟩
          have hX := HX.out
          rw [← hhh] at hX hS
          have HX2 := Lib.hid hX
          clear hhh hX HX
          cases hh with
          | false =>
            have HS := Lib.hid (show repN C ll m (k + 1) = (q, n + 1) by rw [hS, if_neg (by decide)])
            clear hS
            go_wp2_with fail
            refine HC.out.mono ?_
            rintro e w5 ⟨rfl, b5⟩
            have HB5 := Lib.hid (HB4.out.trans (b5.mono HB4.out.size))
            have HO5 := Lib.hid (HO4.out.below b5 (fun k hk => (HO4.out.lt k hk).2))
            have c05 := (b5.cell (World.block_lt_of_cell? _ _ c04)).trans c04
            have c15 := (b5.cell (World.block_lt_of_cell? _ _ c14)).trans c14
            replace e0 := (b5.cell (World.block_lt_of_cell? _ _ e0)).trans e0
            replace e1 := (b5.cell (World.block_lt_of_cell? _ _ e1)).trans e1
            clear b5 c04 c14
            go_wp2_with fail
            refine (HX2.out _ HB5.out (by omega)).mono ?_
            rintro e w6 ⟨rfl, b6⟩
            have HB6 := Lib.hid (HB5.out.trans (b6.mono HB5.out.size))
            have HO6 := Lib.hid (HO5.out.below b6 (fun k hk => (HO5.out.lt k hk).2))
            have HBX6 := Lib.hid (And.intro ((b6.cell (World.block_lt_of_cell? _ _ c05)).trans c05) ((b6.cell (World.block_lt_of_cell? _ _ c15)).trans c15))
            clear b6 c05 c15 e0 e1
            go_wp2_with fail
            go_roundw
            case rel => exact ⟨k + 1, n + 1, q, by omega, by go_num, by go_num, HS, HO6, HBX6, HB6⟩
            case measure => simp [intOf]; omega
          | true =>
            have HS := Lib.hid (show repN C ll m (k + 1) = (q ++ [((x : Int), (r : Int))], n + 1) by rw [hS, if_pos rfl])
            clear hS
            go_wp2_with fail
            refine HC.out.mono ?_
            rintro e w5 ⟨rfl, b5⟩
            have HB5 := Lib.hid (HB4.out.trans (b5.mono HB4.out.size))
            have HO5 := Lib.hid (HO4.out.below b5 (fun k hk => (HO4.out.lt k hk).2))
            have c05 := (b5.cell (World.block_lt_of_cell? _ _ c04)).trans c04
            have c15 := (b5.cell (World.block_lt_of_cell? _ _ c14)).trans c14
            replace e0 := (b5.cell (World.block_lt_of_cell? _ _ e0)).trans e0
            replace e1 := (b5.cell (World.block_lt_of_cell? _ _ e1)).trans e1
            clear b5 c04 c14
            go_wp2_with fail
            refine (HX2.out _ HB5.out (by omega)).mono ?_
            rintro e w6 ⟨rfl, b6⟩
            have hb6 := HB5.out.trans (b6.mono HB5.out.size)
            have ho6 := HO5.out.below b6 (fun k hk => (HO5.out.lt k hk).2)
            have HO6 := Lib.hid ho6
            have c06 := (b6.cell (World.block_lt_of_cell? _ _ c05)).trans c05
            have c16 := (b6.cell (World.block_lt_of_cell? _ _ c15)).trans c15
            replace e0 := (b6.cell (World.block_lt_of_cell? _ _ e0)).trans e0
            replace e1 := (b6.cell (World.block_lt_of_cell? _ _ e1)).trans e1
            clear b6 c05 c15
            go_wp2_with (at_builtin; refine wpList_append_own _ rfl _ _ 27 rfl (w.heap.size + 1) 38 i0 (.agg #[.int .i64 0, .int .i64 0]) 2 16 Tryz.underlying27 HI.out.1 HI.out.2.1 HI.out.2.2.1 HI.out.2.2.2 rfl (by decide) _ _ _ rfl (World.ownsRow.alloc ho6 _) ⟨w6.heap.size, 0, none⟩ 1 1 [.int .i64 (x : Int), .int .i64 (r : Int)] rfl rfl (cell_two_new _ _ _ _) (two_i64 _ _) (by unfold maxLen; omega) (by omega) (by have := hb6.size; simp; omega) ?_; intro v7 w7 hown7 hgrow7 _)
            have ho7 := Lib.hid (OwnD.snoc hown7)
            have ha6 := (Below.refl w6.heap.size w6).alloc (Nat.le_refl _) (.cells #[.int .i64 (x : Int), .int .i64 (r : Int)] 38)
            have hb7 := Lib.hid ((hb6.alloc hb6.size (.cells #[.int .i64 (x : Int), .int .i64 (r : Int)] 38)).grown hgrow7 (by simp; have := hb6.size; omega) (fun k hk => by have := (HO6.out.lt k hk).1; omega))
            have c7 := Lib.hid (And.intro ((kept_cell hgrow7 (fun g hg => (HO6.out.lt g hg).1) (World.block_lt_of_cell? _ _ ((ha6.cell (World.block_lt_of_cell? _ _ c06)).trans c06)) (Nat.le_refl _)).trans ((ha6.cell (World.block_lt_of_cell? _ _ c06)).trans c06)) ((kept_cell hgrow7 (fun g hg => (HO6.out.lt g hg).1) (World.block_lt_of_cell? _ _ ((ha6.cell (World.block_lt_of_cell? _ _ c16)).trans c16)) (Nat.le_refl _)).trans ((ha6.cell (World.block_lt_of_cell? _ _ c16)).trans c16)))
            clear hown7 hgrow7 ha6 c06 c16 e0 e1 ho6 hb6
            go_wp2_with fail
            go_roundw
            case rel => exact ⟨k + 1, n + 1, _, by omega, by go_num, by go_num, HS, ho7, c7, hb7⟩
            case measure => simp [intOf]; omega
    · obtain rfl : k = K := by omega
      go_wp2_with fail
      go_ret2
      exact ⟨u8, (by rw [hq.out]; rfl), (by rw [hq.out]; exact HO.out.base (by omega)), HB.out⟩
end
end Go.Proofs.YtjfllfancgmalaaGreat
namespace Go.Proofs.YtjfllfancgmalaaGreat
open Go.RowKit

/-- A search as a value. -/
def srcV (c : Int) (v : Value) (m at_ : Int) (f : Value) (t : Int) : Value := .agg #[.int .i64 c, v, .int .i64 m, .int .i64 at_, f, .int .i64 t]
noncomputable def isSB (c : Int) (ll : List (List Int)) (m at_ : Int) (F : List (Int × Int)) (t : Int) : Bool :=
  fineT c ll m && decide (0 ≤ at_ ∧ at_ ≤ ((c.toNat * 2 ^ c.toNat : Nat) : Int)) && decide (F = (repN c.toNat ll m at_.toNat).1) && decide (t = ((repN c.toNat ll m at_.toNat).2 : Int))
/-- What the box of a search holds. -/
def SBx (w : World) (b : Nat) (c : Int) (v : Value) (m at_ : Int) (f : Value) (t : Int) : Prop :=
  (w.cell? ⟨b, 0, none⟩ = some (.int .i64 c) ∧ w.cell? ⟨b, 1, none⟩ = some v) ∧ (w.cell? ⟨b, 2, none⟩ = some (.int .i64 m) ∧ w.cell? ⟨b, 3, none⟩ = some (.int .i64 at_)) ∧ w.cell? ⟨b, 4, none⟩ = some f ∧ w.cell? ⟨b, 5, none⟩ = some (.int .i64 t)
theorem cell_in {w w' : World} {p : Addr} {v : Value} (h : w.cell? p = some v) (b : Below w.heap.size w w') : w'.cell? p = some v := (b.cell (World.block_lt_of_cell? w _ h)).trans h
theorem SBx.kept {w w' : World} {b : Nat} {c m at_ t : Int} {v f : Value} (h : SBx w b c v m at_ f t) (hb : Below w.heap.size w w') : SBx w' b c v m at_ f t :=
  ⟨⟨cell_in h.1.1 hb, cell_in h.1.2 hb⟩, ⟨cell_in h.2.1.1 hb, cell_in h.2.1.2 hb⟩, cell_in h.2.2.1 hb, cell_in h.2.2.2 hb⟩
theorem SBx.mk' (w : World) (T : TypeId) (c : Int) (v : Value) (m at_ : Int) (f : Value) (t : Int) : SBx (w.alloc (.cells #[.int .i64 c, v, .int .i64 m, .int .i64 at_, f, .int .i64 t] T)) w.heap.size c v m at_ f t :=
  ⟨⟨World.cell?_alloc_mark w #[.int .i64 c, v, .int .i64 m, .int .i64 at_, f, .int .i64 t] T (0, 0) 0, World.cell?_alloc_mark w #[.int .i64 c, v, .int .i64 m, .int .i64 at_, f, .int .i64 t] T (0, 0) 1⟩, ⟨World.cell?_alloc_mark w #[.int .i64 c, v, .int .i64 m, .int .i64 at_, f, .int .i64 t] T (0, 0) 2, World.cell?_alloc_mark w #[.int .i64 c, v, .int .i64 m, .int .i64 at_, f, .int .i64 t] T (0, 0) 3⟩, World.cell?_alloc_mark w #[.int .i64 c, v, .int .i64 m, .int .i64 at_, f, .int .i64 t] T (0, 0) 4, World.cell?_alloc_mark w #[.int .i64 c, v, .int .i64 m, .int .i64 at_, f, .int .i64 t] T (0, 0) 5⟩
theorem keepS {w0 w' w'' : World} {b : Nat} {c m at_ t : Int} {v f : Value} (h : SBx w' b c v m at_ f t ∧ Below w0.heap.size w0 w') (hb : Below w'.heap.size w' w'') : SBx w'' b c v m at_ f t ∧ Below w0.heap.size w0 w'' := ⟨h.1.kept hb, h.2.trans (hb.mono h.2.size)⟩
section
set_option maxRecDepth 20000
set_option maxHeartbeats 1600000
theorem isSearch8_any (c m at_ t : Int) (v f : Value) (ll : List (List Int)) (F : List (Int × Int)) (w : World) (hr : ReadSS w v ll) (hl : ll.length ≤ 1048576) (ht : ∀ i, i < ll.length → (ll.getD i []).length ≤ 1048576) (hf : ReadD w f F) (hF : F.length ≤ 1048576) :
    Calls Tryz.prog 10 #[srcV c v m at_ f t] w fun e w' => e = .returned (.bool (isSB c ll m at_ F t)) ∧ Below w.heap.size w w' := by
  have HF := Lib.hid (fun w' (hb : Below w.heap.size w w') => l4Fine_any c m v ll w' (hr.kept hb) hl ht)
  have HRP := Lib.hid (fun (C K : Nat) w' (hb : Below w.heap.size w w') hT hK => replay8_any C K m v ll w' (hr.kept hb) hT hK)
  have HSD := Lib.hid (fun v' (G : List (Int × Int)) w' (hb : Below w.heap.size w w') (hg : ReadD w' v' G) => sameDeps_any f v' F G w' (hf.kept hb) hg hF)
  have hb1 := (Below.refl w.heap.size w).alloc (Nat.le_refl _) (.cells #[.int .i64 c, v, .int .i64 m, .int .i64 at_, f, .int .i64 t] 29)
  have HSB := Lib.hid (SBx.mk' w 29 c v m at_ f t)
  have HB1 := Lib.hid hb1
  obtain ⟨a, cap, rfl, -⟩ := hr
  obtain ⟨af, capf, rfl, -⟩ := hf
  obtain ⟨⟨c0, c1⟩, ⟨c2, c3⟩, c4, c5⟩ := HSB.out
  unfold srcV
  clear hb1 ht
  cases hfi : fineT c ll m with
  | false =>
    have HE : Hid (isSB c ll m at_ F t = false) := Lib.hid (by unfold isSB; rw [hfi]; rfl)
    rw [hfi] at HF
    clear hfi
    go_enter Tryz.func10, Tryz.ntmps10
    go_wp2_with fail
    refine wp_region_noPanic ?_
    refine wp_region_held_drew (S := (fun w' => ((w'.cell? ⟨w.heap.size, 0, none⟩ = some (.int .i64 c) ∧ w'.cell? ⟨w.heap.size, 1, none⟩ = some (.slice a ll.length cap)) ∧ (w'.cell? ⟨w.heap.size, 2, none⟩ = some (.int .i64 m) ∧ w'.cell? ⟨w.heap.size, 3, none⟩ = some (.int .i64 at_)) ∧ w'.cell? ⟨w.heap.size, 4, none⟩ = some (.slice af F.length capf) ∧ w'.cell? ⟨w.heap.size, 5, none⟩ = some (.int .i64 t)) ∧ Below w.heap.size w w')) (by kernel_rfl) ?_ (fun hHeld => ?_)
    · ((try dsimp only); (first | exact keepS hHeld b93 | exact keepS hHeld b92 | exact keepS hHeld b91 | exact ⟨⟨⟨c0, c1⟩, ⟨c2, c3⟩, c4, c5⟩, HB1.out.drew⟩))
    refine wpAnyH_take (i := 0) (v := ?_) rfl (by kernel_rfl) (by kernel_rfl) (by kernel_rfl) (fun _ _ _ h => h) (Or.inl ⟨by rfl, ?_⟩) (by assumption) ?_
    rotate_left
    · (intro w hSw; (try dsimp only at hSw); go_simp; (try with_reducible rfl))
    (try simp only [Act.put, List.getElem_toArray, List.getElem_cons_zero, List.setIfInBounds_toArray, List.set_cons_zero, List.set_cons_succ])
    refine wpAnyH_take (i := 1) (v := ?_) rfl (by kernel_rfl) (by kernel_rfl) (by kernel_rfl) (fun _ _ _ h => h) (Or.inl ⟨by rfl, ?_⟩) (by assumption) ?_
    rotate_left
    · (intro w hSw; (try dsimp only at hSw); go_simp; (try with_reducible rfl))
    (try simp only [Act.put, List.getElem_toArray, List.getElem_cons_succ, List.getElem_cons_zero, List.setIfInBounds_toArray, List.set_cons_zero, List.set_cons_succ])
    refine wpAnyH_take (i := 2) (v := ?_) rfl (by kernel_rfl) (by kernel_rfl) (by kernel_rfl) (fun _ _ _ h => h) (Or.inl ⟨by rfl, ?_⟩) (by assumption) ?_
    rotate_left
    · (intro w hSw; (try dsimp only at hSw); go_simp; (try with_reducible rfl))
    (try simp only [Act.put, List.getElem_toArray, List.getElem_cons_succ, List.getElem_cons_zero, List.setIfInBounds_toArray, List.set_cons_zero, List.set_cons_succ])
    refine wpAnyH_take (i := 3) (v := ?_) rfl (by kernel_rfl) (by kernel_rfl) (by kernel_rfl) (fun _ _ _ h => h) (Or.inl ⟨by rfl, ?_⟩) (by assumption) ?_
    rotate_left
    · (intro w hSw; (try dsimp only at hSw); go_simp; (try with_reducible rfl))
    (try simp only [Act.put, List.getElem_toArray, List.getElem_cons_succ, List.getElem_cons_zero, List.setIfInBounds_toArray, List.set_cons_zero, List.set_cons_succ])
    refine wpAnyH_ready (rs := [4]) (by kernel_rfl) (by simp) (AllReadyH.cons rfl (fun K hK => ?_) AllReadyH.nil)
    (first | ((first | (go_at_call 35; refine (HF.out _ hHeld.2).mono ?_; rintro e w91 ⟨rfl, b91⟩) | (go_at_call 32; refine (HN.out _).mono ?_; rintro e w92 ⟨rfl, b92⟩) | (go_at_call 36; refine (HIN.out _).mono ?_; rintro e w93 ⟨rfl, b93⟩))) | (go_simp; (first | (go_at_call 35; refine (HF.out _ hHeld.2).mono ?_; rintro e w91 ⟨rfl, b91⟩) | (go_at_call 32; refine (HN.out _).mono ?_; rintro e w92 ⟨rfl, b92⟩) | (go_at_call 36; refine (HIN.out _).mono ?_; rintro e w93 ⟨rfl, b93⟩))))
    (try (go_wp2_with fail))
    refine hK.out _ _ ?_ (fun hHeld => ?_)
    · ((try dsimp only); (first | exact keepS hHeld b93 | exact keepS hHeld b92 | exact keepS hHeld b91 | exact ⟨⟨⟨c0, c1⟩, ⟨c2, c3⟩, c4, c5⟩, HB1.out.drew⟩))
    clear hK K
    (try simp only [Act.put, List.getElem_toArray, List.getElem_cons_succ, List.getElem_cons_zero, List.setIfInBounds_toArray, List.set_cons_zero, List.set_cons_succ])
    refine wpAnyH_take (i := 5) (v := ?_) rfl (by kernel_rfl) (by kernel_rfl) (by kernel_rfl) (fun _ _ _ h => h) (Or.inl ⟨by rfl, ?_⟩) (by assumption) ?_
    rotate_left
    · (intro w hSw; (try dsimp only at hSw); go_simp; (try with_reducible rfl))
    (try simp only [Act.put, List.getElem_toArray, List.getElem_cons_succ, List.getElem_cons_zero, List.setIfInBounds_toArray, List.set_cons_zero, List.set_cons_succ])
    refine wpAnyH_take (i := 6) (v := ?_) rfl (by kernel_rfl) (by kernel_rfl) (by kernel_rfl) (fun _ _ _ h => h) (Or.inl ⟨by rfl, ?_⟩) (by assumption) ?_
    rotate_left
    · (intro w hSw; (try dsimp only at hSw); go_simp; (try with_reducible rfl))
    (try simp only [Act.put, List.getElem_toArray, List.getElem_cons_succ, List.getElem_cons_zero, List.setIfInBounds_toArray, List.set_cons_zero, List.set_cons_succ])
    refine wpAnyH_take (i := 7) (v := undef) rfl (by kernel_rfl) (by kernel_rfl) (by kernel_rfl) (fun _ _ _ h => h) (Or.inr ⟨by rfl, rfl⟩) (by assumption) ?_
    (try simp only [Act.put, List.getElem_toArray, List.getElem_cons_succ, List.getElem_cons_zero, List.setIfInBounds_toArray, List.set_cons_zero, List.set_cons_succ])
    refine wpAnyH_take (i := 8) (v := undef) rfl (by kernel_rfl) (by kernel_rfl) (by kernel_rfl) (fun _ _ _ h => h) (Or.inr ⟨by rfl, rfl⟩) (by assumption) ?_
    (try simp only [Act.put, List.getElem_toArray, List.getElem_cons_succ, List.getElem_cons_zero, List.setIfInBounds_toArray, List.set_cons_zero, List.set_cons_succ])
    refine wpAnyH_take (i := 9) (v := undef) rfl (by kernel_rfl) (by kernel_rfl) (by kernel_rfl) (fun _ _ _ h => h) (Or.inr ⟨by rfl, rfl⟩) (by assumption) ?_
    (try simp only [Act.put, List.getElem_toArray, List.getElem_cons_succ, List.getElem_cons_zero, List.setIfInBounds_toArray, List.set_cons_zero, List.set_cons_succ])
    refine wpAnyH_take (i := 10) (v := undef) rfl (by kernel_rfl) (by kernel_rfl) (by kernel_rfl) (fun _ _ _ h => h) (Or.inr ⟨by rfl, rfl⟩) (by assumption) ?_
    (try simp only [Act.put, List.getElem_toArray, List.getElem_cons_succ, List.getElem_cons_zero, List.setIfInBounds_toArray, List.set_cons_zero, List.set_cons_succ])
    refine wpAnyH_take (i := 11) (v := undef) rfl (by kernel_rfl) (by kernel_rfl) (by kernel_rfl) (fun _ _ _ h => h) (Or.inr ⟨by rfl, rfl⟩) (by assumption) ?_
    (try simp only [Act.put, List.getElem_toArray, List.getElem_cons_succ, List.getElem_cons_zero, List.setIfInBounds_toArray, List.set_cons_zero, List.set_cons_succ])
    refine wpAnyH_take (i := 12) (v := undef) rfl (by kernel_rfl) (by kernel_rfl) (by kernel_rfl) (fun _ _ _ h => h) (Or.inr ⟨by rfl, rfl⟩) (by assumption) ?_
    (try simp only [Act.put, List.getElem_toArray, List.getElem_cons_succ, List.getElem_cons_zero, List.setIfInBounds_toArray, List.set_cons_zero, List.set_cons_succ])
    refine wpAnyH_take (i := 13) (v := undef) rfl (by kernel_rfl) (by kernel_rfl) (by kernel_rfl) (fun _ _ _ h => h) (Or.inr ⟨by rfl, rfl⟩) (by assumption) ?_
    (try simp only [Act.put, List.getElem_toArray, List.getElem_cons_succ, List.getElem_cons_zero, List.setIfInBounds_toArray, List.set_cons_zero, List.set_cons_succ])
    refine wpAnyH_take (i := 14) (v := undef) rfl (by kernel_rfl) (by kernel_rfl) (by kernel_rfl) (fun _ _ _ h => h) (Or.inr ⟨by rfl, rfl⟩) (by assumption) ?_
    (try simp only [Act.put, List.getElem_toArray, List.getElem_cons_succ, List.getElem_cons_zero, List.setIfInBounds_toArray, List.set_cons_zero, List.set_cons_succ])
    refine wpAnyH_take (i := 15) (v := ?_) rfl (by kernel_rfl) (by kernel_rfl) (by kernel_rfl) (fun _ _ _ h => h) (Or.inl ⟨by rfl, ?_⟩) (by assumption) ?_
    rotate_left
    · (intro w hSw; (try dsimp only at hSw); go_simp; (try with_reducible rfl))
    (try simp only [Act.put, List.getElem_toArray, List.getElem_cons_succ, List.getElem_cons_zero, List.setIfInBounds_toArray, List.set_cons_zero, List.set_cons_succ])
    refine wpAnyH_done (by kernel_rfl) ?_ _
    refine NoPanic.normal ?_
    clear b91
    go_wp2_with fail
    go_ret
    exact ⟨by rw [HE.out]; rfl, hHeld.2⟩
  | true =>
    have hT := fineT_isT hfi
    obtain ⟨hc1, hc5, h40⟩ := isT_bd hT
    obtain ⟨C, rfl⟩ : ∃ C : Nat, c = (C : Int) := ⟨c.toNat, by omega⟩
    have hC5 : C ≤ 5 := by omega
    have hE : isSB (C : Int) ll m at_ F t = (decide (0 ≤ at_ ∧ at_ ≤ ((C * 2 ^ C : Nat) : Int)) && decide (F = (repN C ll m at_.toNat).1) && decide (t = ((repN C ll m at_.toNat).2 : Int))) := by
      unfold isSB
      rw [hfi, Bool.true_and]; rfl
    obtain ⟨N, hN⟩ : ∃ N, N = C * 2 ^ C := ⟨_, rfl⟩
    have HN : Hid (∀ w', Calls Tryz.prog 32 #[.int .i64 (C : Int)] w' fun e w'' => e = .returned (.int .i64 (N : Int)) ∧ Below w'.heap.size w' w'') := Lib.hid (fun w' => (count8_any C hC5 w').mono fun e w'' ⟨h1, h2⟩ => ⟨by rw [h1, hN], by rw [← h2]; exact Below.refl _ _⟩)
    have hIN : ∀ w', Calls Tryz.prog 36 #[.int .i64 at_, .int .i64 0, .int .i64 (N : Int)] w' fun e w'' => e = .returned (.bool (decide (0 ≤ at_ ∧ at_ ≤ (N : Int)))) ∧ Below w'.heap.size w' w'' := fun w' => (in_any at_ 0 (N : Int) w').mono fun e w'' ⟨h1, h2⟩ => ⟨h1, by rw [← h2]; exact Below.refl _ _⟩
    rw [hfi] at HF
    rw [← hN] at hE
    by_cases hin : 0 ≤ at_ ∧ at_ ≤ (N : Int)
    · rw [decide_eq_true hin] at hIN hE
      obtain ⟨K, rfl⟩ : ∃ K : Nat, at_ = (K : Int) := ⟨at_.toNat, by omega⟩
      rw [show ((K : Int)).toNat = K from rfl, Bool.true_and] at hE
      have hK : K ≤ C * 2 ^ C := by omega
      have HQ := Lib.hid (fun w' hb => HRP.out C K w' hb hT hK)
      have HIN := Lib.hid hIN
      obtain ⟨q, hq⟩ : ∃ q, q = (repN C ll m K).1 := ⟨_, rfl⟩
      obtain ⟨n, hn⟩ : ∃ n, n = (repN C ll m K).2 := ⟨_, rfl⟩
      rw [← hq, ← hn] at hE HQ
      obtain ⟨e1, he1⟩ : ∃ e1, e1 = decide (F = q) := ⟨_, rfl⟩
      obtain ⟨e2, he2⟩ : ∃ e2, (t == (n : Int)) = e2 := ⟨_, rfl⟩
      have hd : decide (t = (n : Int)) = e2 := by rw [← he2, Bool.eq_iff_iff, decide_eq_true_iff, beq_iff_eq]
      rw [hd, ← he1] at hE
      have HSQ : Hid (∀ v' w', Below w.heap.size w w' → ReadD w' v' q → Calls Tryz.prog 30 #[.slice af F.length capf, v'] w' fun e w'' => e = .returned (.bool e1) ∧ Below w'.heap.size w' w'') := Lib.hid (fun v' w' hb hg => by rw [he1]; exact HSD.out v' q w' hb hg)
      have HE := Lib.hid hE
      clear hE hfi hT hIN hin hK hq hn hN hd he1 HRP HSD hc1 hc5 h40
      go_enter Tryz.func10, Tryz.ntmps10
      go_wp2_with fail
      refine wp_region_noPanic ?_
      refine wp_region_held_drew (S := (fun w' => ((w'.cell? ⟨w.heap.size, 0, none⟩ = some (.int .i64 (C : Int)) ∧ w'.cell? ⟨w.heap.size, 1, none⟩ = some (.slice a ll.length cap)) ∧ (w'.cell? ⟨w.heap.size, 2, none⟩ = some (.int .i64 m) ∧ w'.cell? ⟨w.heap.size, 3, none⟩ = some (.int .i64 (K : Int))) ∧ w'.cell? ⟨w.heap.size, 4, none⟩ = some (.slice af F.length capf) ∧ w'.cell? ⟨w.heap.size, 5, none⟩ = some (.int .i64 t)) ∧ Below w.heap.size w w')) (by kernel_rfl) ?_ (fun hHeld => ?_)
      · ((try dsimp only); (first | exact keepS hHeld b93 | exact keepS hHeld b92 | exact keepS hHeld b91 | exact ⟨⟨⟨c0, c1⟩, ⟨c2, c3⟩, c4, c5⟩, HB1.out.drew⟩))
      refine wpAnyH_take (i := 0) (v := ?_) rfl (by kernel_rfl) (by kernel_rfl) (by kernel_rfl) (fun _ _ _ h => h) (Or.inl ⟨by rfl, ?_⟩) (by assumption) ?_
      rotate_left
      · (intro w hSw; (try dsimp only at hSw); go_simp; (try with_reducible rfl))
      (try simp only [Act.put, List.getElem_toArray, List.getElem_cons_zero, List.setIfInBounds_toArray, List.set_cons_zero, List.set_cons_succ])
      refine wpAnyH_take (i := 1) (v := ?_) rfl (by kernel_rfl) (by kernel_rfl) (by kernel_rfl) (fun _ _ _ h => h) (Or.inl ⟨by rfl, ?_⟩) (by assumption) ?_
      rotate_left
      · (intro w hSw; (try dsimp only at hSw); go_simp; (try with_reducible rfl))
      (try simp only [Act.put, List.getElem_toArray, List.getElem_cons_succ, List.getElem_cons_zero, List.setIfInBounds_toArray, List.set_cons_zero, List.set_cons_succ])
      refine wpAnyH_take (i := 2) (v := ?_) rfl (by kernel_rfl) (by kernel_rfl) (by kernel_rfl) (fun _ _ _ h => h) (Or.inl ⟨by rfl, ?_⟩) (by assumption) ?_
      rotate_left
      · (intro w hSw; (try dsimp only at hSw); go_simp; (try with_reducible rfl))
      (try simp only [Act.put, List.getElem_toArray, List.getElem_cons_succ, List.getElem_cons_zero, List.setIfInBounds_toArray, List.set_cons_zero, List.set_cons_succ])
      refine wpAnyH_take (i := 3) (v := ?_) rfl (by kernel_rfl) (by kernel_rfl) (by kernel_rfl) (fun _ _ _ h => h) (Or.inl ⟨by rfl, ?_⟩) (by assumption) ?_
      rotate_left
      · (intro w hSw; (try dsimp only at hSw); go_simp; (try with_reducible rfl))
      (try simp only [Act.put, List.getElem_toArray, List.getElem_cons_succ, List.getElem_cons_zero, List.setIfInBounds_toArray, List.set_cons_zero, List.set_cons_succ])
      refine wpAnyH_ready (rs := [4]) (by kernel_rfl) (by simp) (AllReadyH.cons rfl (fun K hK => ?_) AllReadyH.nil)
      (first | ((first | (go_at_call 35; refine (HF.out _ hHeld.2).mono ?_; rintro e w91 ⟨rfl, b91⟩) | (go_at_call 32; refine (HN.out _).mono ?_; rintro e w92 ⟨rfl, b92⟩) | (go_at_call 36; refine (HIN.out _).mono ?_; rintro e w93 ⟨rfl, b93⟩))) | (go_simp; (first | (go_at_call 35; refine (HF.out _ hHeld.2).mono ?_; rintro e w91 ⟨rfl, b91⟩) | (go_at_call 32; refine (HN.out _).mono ?_; rintro e w92 ⟨rfl, b92⟩) | (go_at_call 36; refine (HIN.out _).mono ?_; rintro e w93 ⟨rfl, b93⟩))))
      (try (go_wp2_with fail))
      refine hK.out _ _ ?_ (fun hHeld => ?_)
      · ((try dsimp only); (first | exact keepS hHeld b93 | exact keepS hHeld b92 | exact keepS hHeld b91 | exact ⟨⟨⟨c0, c1⟩, ⟨c2, c3⟩, c4, c5⟩, HB1.out.drew⟩))
      clear hK K
      (try simp only [Act.put, List.getElem_toArray, List.getElem_cons_succ, List.getElem_cons_zero, List.setIfInBounds_toArray, List.set_cons_zero, List.set_cons_succ])
      refine wpAnyH_take (i := 5) (v := ?_) rfl (by kernel_rfl) (by kernel_rfl) (by kernel_rfl) (fun _ _ _ h => h) (Or.inl ⟨by rfl, ?_⟩) (by assumption) ?_
      rotate_left
      · (intro w hSw; (try dsimp only at hSw); go_simp; (try with_reducible rfl))
      (try simp only [Act.put, List.getElem_toArray, List.getElem_cons_succ, List.getElem_cons_zero, List.setIfInBounds_toArray, List.set_cons_zero, List.set_cons_succ])
      refine wpAnyH_take (i := 6) (v := ?_) rfl (by kernel_rfl) (by kernel_rfl) (by kernel_rfl) (fun _ _ _ h => h) (Or.inl ⟨by rfl, ?_⟩) (by assumption) ?_
      rotate_left
      · (intro w hSw; (try dsimp only at hSw); go_simp; (try with_reducible rfl))
      (try simp only [Act.put, List.getElem_toArray, List.getElem_cons_succ, List.getElem_cons_zero, List.setIfInBounds_toArray, List.set_cons_zero, List.set_cons_succ])
      refine wpAnyH_take (i := 7) (v := ?_) rfl (by kernel_rfl) (by kernel_rfl) (by kernel_rfl) (fun _ _ _ h => h) (Or.inl ⟨by rfl, ?_⟩) (by assumption) ?_
      rotate_left
      · (intro w hSw; (try dsimp only at hSw); go_simp; (try with_reducible rfl))
      (try simp only [Act.put, List.getElem_toArray, List.getElem_cons_succ, List.getElem_cons_zero, List.setIfInBounds_toArray, List.set_cons_zero, List.set_cons_succ])
      refine wpAnyH_take (i := 8) (v := ?_) rfl (by kernel_rfl) (by kernel_rfl) (by kernel_rfl) (fun _ _ _ h => h) (Or.inl ⟨by rfl, ?_⟩) (by assumption) ?_
      rotate_left
      · (intro w hSw; (try dsimp only at hSw); go_simp; (try with_reducible rfl))
      (try simp only [Act.put, List.getElem_toArray, List.getElem_cons_succ, List.getElem_cons_zero, List.setIfInBounds_toArray, List.set_cons_zero, List.set_cons_succ])
      refine wpAnyH_take (i := 9) (v := ?_) rfl (by kernel_rfl) (by kernel_rfl) (by kernel_rfl) (fun _ _ _ h => h) (Or.inl ⟨by rfl, ?_⟩) (by assumption) ?_
      rotate_left
      · (intro w hSw; (try dsimp only at hSw); go_simp; (try with_reducible rfl))
      (try simp only [Act.put, List.getElem_toArray, List.getElem_cons_succ, List.getElem_cons_zero, List.setIfInBounds_toArray, List.set_cons_zero, List.set_cons_succ])
      refine wpAnyH_take (i := 10) (v := ?_) rfl (by kernel_rfl) (by kernel_rfl) (by kernel_rfl) (fun _ _ _ h => h) (Or.inl ⟨by rfl, ?_⟩) (by assumption) ?_
      rotate_left
      · (intro w hSw; (try dsimp only at hSw); go_simp; (try with_reducible rfl))
      (try simp only [Act.put, List.getElem_toArray, List.getElem_cons_succ, List.getElem_cons_zero, List.setIfInBounds_toArray, List.set_cons_zero, List.set_cons_succ])
      refine wpAnyH_take (i := 11) (v := ?_) rfl (by kernel_rfl) (by kernel_rfl) (by kernel_rfl) (fun _ _ _ h => h) (Or.inl ⟨by rfl, ?_⟩) (by assumption) ?_
      rotate_left
      · (intro w hSw; (try dsimp only at hSw); go_simp; (try with_reducible rfl))
      (try simp only [Act.put, List.getElem_toArray, List.getElem_cons_succ, List.getElem_cons_zero, List.setIfInBounds_toArray, List.set_cons_zero, List.set_cons_succ])
      refine wpAnyH_ready (rs := [12]) (by kernel_rfl) (by simp) (AllReadyH.cons rfl (fun K hK => ?_) AllReadyH.nil)
      (first | ((first | (go_at_call 35; refine (HF.out _ hHeld.2).mono ?_; rintro e w91 ⟨rfl, b91⟩) | (go_at_call 32; refine (HN.out _).mono ?_; rintro e w92 ⟨rfl, b92⟩) | (go_at_call 36; refine (HIN.out _).mono ?_; rintro e w93 ⟨rfl, b93⟩))) | (go_simp; (first | (go_at_call 35; refine (HF.out _ hHeld.2).mono ?_; rintro e w91 ⟨rfl, b91⟩) | (go_at_call 32; refine (HN.out _).mono ?_; rintro e w92 ⟨rfl, b92⟩) | (go_at_call 36; refine (HIN.out _).mono ?_; rintro e w93 ⟨rfl, b93⟩))))
      (try (go_wp2_with fail))
      refine hK.out _ _ ?_ (fun hHeld => ?_)
      · ((try dsimp only); (first | exact keepS hHeld b93 | exact keepS hHeld b92 | exact keepS hHeld b91 | exact ⟨⟨⟨c0, c1⟩, ⟨c2, c3⟩, c4, c5⟩, HB1.out.drew⟩))
      clear hK K
      (try simp only [Act.put, List.getElem_toArray, List.getElem_cons_succ, List.getElem_cons_zero, List.setIfInBounds_toArray, List.set_cons_zero, List.set_cons_succ])
      refine wpAnyH_ready (rs := [13]) (by kernel_rfl) (by simp) (AllReadyH.cons rfl (fun K hK => ?_) AllReadyH.nil)
      (first | ((first | (go_at_call 35; refine (HF.out _ hHeld.2).mono ?_; rintro e w91 ⟨rfl, b91⟩) | (go_at_call 32; refine (HN.out _).mono ?_; rintro e w92 ⟨rfl, b92⟩) | (go_at_call 36; refine (HIN.out _).mono ?_; rintro e w93 ⟨rfl, b93⟩))) | (go_simp; (first | (go_at_call 35; refine (HF.out _ hHeld.2).mono ?_; rintro e w91 ⟨rfl, b91⟩) | (go_at_call 32; refine (HN.out _).mono ?_; rintro e w92 ⟨rfl, b92⟩) | (go_at_call 36; refine (HIN.out _).mono ?_; rintro e w93 ⟨rfl, b93⟩))))
      (try (go_wp2_with fail))
      refine hK.out _ _ ?_ (fun hHeld => ?_)
      · ((try dsimp only); (first | exact keepS hHeld b93 | exact keepS hHeld b92 | exact keepS hHeld b91 | exact ⟨⟨⟨c0, c1⟩, ⟨c2, c3⟩, c4, c5⟩, HB1.out.drew⟩))
      clear hK K
      (try simp only [Act.put, List.getElem_toArray, List.getElem_cons_succ, List.getElem_cons_zero, List.setIfInBounds_toArray, List.set_cons_zero, List.set_cons_succ])
      refine wpAnyH_take (i := 14) (v := ?_) rfl (by kernel_rfl) (by kernel_rfl) (by kernel_rfl) (fun _ _ _ h => h) (Or.inl ⟨by rfl, ?_⟩) (by assumption) ?_
      rotate_left
      · (intro w hSw; (try dsimp only at hSw); go_simp; (try with_reducible rfl))
      (try simp only [Act.put, List.getElem_toArray, List.getElem_cons_succ, List.getElem_cons_zero, List.setIfInBounds_toArray, List.set_cons_zero, List.set_cons_succ])
      refine wpAnyH_take (i := 15) (v := ?_) rfl (by kernel_rfl) (by kernel_rfl) (by kernel_rfl) (fun _ _ _ h => h) (Or.inl ⟨by rfl, ?_⟩) (by assumption) ?_
      rotate_left
      · (intro w hSw; (try dsimp only at hSw); go_simp; (try with_reducible rfl))
      (try simp only [Act.put, List.getElem_toArray, List.getElem_cons_succ, List.getElem_cons_zero, List.setIfInBounds_toArray, List.set_cons_zero, List.set_cons_succ])
      refine wpAnyH_done (by kernel_rfl) ?_ _
      refine NoPanic.normal ?_
      obtain ⟨w5, hw5⟩ : ∃ w', w' = w93 := ⟨_, rfl⟩
      rw [← hw5] at hHeld ⊢
      have hb5 := hHeld.2
      have HS5 : Hid (SBx w5 w.heap.size (C : Int) (.slice a ll.length cap) m (K : Int) (.slice af F.length capf) t) := Lib.hid hHeld.1
      clear hHeld b91 b92 b93 hw5 c0 c1 c2 c3 c4 c5
      obtain ⟨⟨c0, c1⟩, ⟨c2, c3⟩, c4, c5⟩ := HS5.out
      go_wp2_with fail
      refine (HQ.out _ hb5).mono ?_
      rintro e w6 ⟨v6, rfl, o6, b6⟩
      have hb6 := hb5.trans (b6.mono hb5.size)
      have HS6 := Lib.hid (HS5.out.kept b6)
      have r6 := o6.read
      clear b6 o6 c0 c1 c2 c3 c4 c5 hb5
      obtain ⟨⟨c0, c1⟩, ⟨c2, c3⟩, c4, c5⟩ := HS6.out
      go_wp2_with fail
      refine (HSQ.out _ _ hb6 r6).mono ?_
      rintro e w7 ⟨rfl, b7⟩
      have hb7 := hb6.trans (b7.mono hb6.size)
      have HS7 := Lib.hid (HS6.out.kept b7)
      clear b7 r6 c0 c1 c2 c3 c4 c5 hb6
      obtain ⟨⟨c0, c1⟩, ⟨c2, c3⟩, c4, c5⟩ := HS7.out
      cases e1 with
      | true =>
        go_wp2_with fail
        go_ret
        exact ⟨ret_b (by rw [HE.out]; rfl), hb7⟩
      | false =>
        go_wp2_with fail
        go_ret
        exact ⟨ret_b (by rw [HE.out]; rfl), hb7⟩
    · rw [decide_eq_false hin] at hIN hE
      have HIN := Lib.hid hIN
      have HE : Hid (isSB (C : Int) ll m at_ F t = false) := Lib.hid (by rw [hE]; rfl)
      clear hE hfi hT hIN hin hN HRP HSD hc1 hc5 h40
      go_enter Tryz.func10, Tryz.ntmps10
      go_wp2_with fail
      refine wp_region_noPanic ?_
      refine wp_region_held_drew (S := (fun w' => ((w'.cell? ⟨w.heap.size, 0, none⟩ = some (.int .i64 (C : Int)) ∧ w'.cell? ⟨w.heap.size, 1, none⟩ = some (.slice a ll.length cap)) ∧ (w'.cell? ⟨w.heap.size, 2, none⟩ = some (.int .i64 m) ∧ w'.cell? ⟨w.heap.size, 3, none⟩ = some (.int .i64 at_)) ∧ w'.cell? ⟨w.heap.size, 4, none⟩ = some (.slice af F.length capf) ∧ w'.cell? ⟨w.heap.size, 5, none⟩ = some (.int .i64 t)) ∧ Below w.heap.size w w')) (by kernel_rfl) ?_ (fun hHeld => ?_)
      · ((try dsimp only); (first | exact keepS hHeld b93 | exact keepS hHeld b92 | exact keepS hHeld b91 | exact ⟨⟨⟨c0, c1⟩, ⟨c2, c3⟩, c4, c5⟩, HB1.out.drew⟩))
      refine wpAnyH_take (i := 0) (v := ?_) rfl (by kernel_rfl) (by kernel_rfl) (by kernel_rfl) (fun _ _ _ h => h) (Or.inl ⟨by rfl, ?_⟩) (by assumption) ?_
      rotate_left
      · (intro w hSw; (try dsimp only at hSw); go_simp; (try with_reducible rfl))
      (try simp only [Act.put, List.getElem_toArray, List.getElem_cons_zero, List.setIfInBounds_toArray, List.set_cons_zero, List.set_cons_succ])
      refine wpAnyH_take (i := 1) (v := ?_) rfl (by kernel_rfl) (by kernel_rfl) (by kernel_rfl) (fun _ _ _ h => h) (Or.inl ⟨by rfl, ?_⟩) (by assumption) ?_
      rotate_left
      · (intro w hSw; (try dsimp only at hSw); go_simp; (try with_reducible rfl))
      (try simp only [Act.put, List.getElem_toArray, List.getElem_cons_succ, List.getElem_cons_zero, List.setIfInBounds_toArray, List.set_cons_zero, List.set_cons_succ])
      refine wpAnyH_take (i := 2) (v := ?_) rfl (by kernel_rfl) (by kernel_rfl) (by kernel_rfl) (fun _ _ _ h => h) (Or.inl ⟨by rfl, ?_⟩) (by assumption) ?_
      rotate_left
      · (intro w hSw; (try dsimp only at hSw); go_simp; (try with_reducible rfl))
      (try simp only [Act.put, List.getElem_toArray, List.getElem_cons_succ, List.getElem_cons_zero, List.setIfInBounds_toArray, List.set_cons_zero, List.set_cons_succ])
      refine wpAnyH_take (i := 3) (v := ?_) rfl (by kernel_rfl) (by kernel_rfl) (by kernel_rfl) (fun _ _ _ h => h) (Or.inl ⟨by rfl, ?_⟩) (by assumption) ?_
      rotate_left
      · (intro w hSw; (try dsimp only at hSw); go_simp; (try with_reducible rfl))
      (try simp only [Act.put, List.getElem_toArray, List.getElem_cons_succ, List.getElem_cons_zero, List.setIfInBounds_toArray, List.set_cons_zero, List.set_cons_succ])
      refine wpAnyH_ready (rs := [4]) (by kernel_rfl) (by simp) (AllReadyH.cons rfl (fun K hK => ?_) AllReadyH.nil)
      (first | ((first | (go_at_call 35; refine (HF.out _ hHeld.2).mono ?_; rintro e w91 ⟨rfl, b91⟩) | (go_at_call 32; refine (HN.out _).mono ?_; rintro e w92 ⟨rfl, b92⟩) | (go_at_call 36; refine (HIN.out _).mono ?_; rintro e w93 ⟨rfl, b93⟩))) | (go_simp; (first | (go_at_call 35; refine (HF.out _ hHeld.2).mono ?_; rintro e w91 ⟨rfl, b91⟩) | (go_at_call 32; refine (HN.out _).mono ?_; rintro e w92 ⟨rfl, b92⟩) | (go_at_call 36; refine (HIN.out _).mono ?_; rintro e w93 ⟨rfl, b93⟩))))
      (try (go_wp2_with fail))
      refine hK.out _ _ ?_ (fun hHeld => ?_)
      · ((try dsimp only); (first | exact keepS hHeld b93 | exact keepS hHeld b92 | exact keepS hHeld b91 | exact ⟨⟨⟨c0, c1⟩, ⟨c2, c3⟩, c4, c5⟩, HB1.out.drew⟩))
      clear hK K
      (try simp only [Act.put, List.getElem_toArray, List.getElem_cons_succ, List.getElem_cons_zero, List.setIfInBounds_toArray, List.set_cons_zero, List.set_cons_succ])
      refine wpAnyH_take (i := 5) (v := ?_) rfl (by kernel_rfl) (by kernel_rfl) (by kernel_rfl) (fun _ _ _ h => h) (Or.inl ⟨by rfl, ?_⟩) (by assumption) ?_
      rotate_left
      · (intro w hSw; (try dsimp only at hSw); go_simp; (try with_reducible rfl))
      (try simp only [Act.put, List.getElem_toArray, List.getElem_cons_succ, List.getElem_cons_zero, List.setIfInBounds_toArray, List.set_cons_zero, List.set_cons_succ])
      refine wpAnyH_take (i := 6) (v := ?_) rfl (by kernel_rfl) (by kernel_rfl) (by kernel_rfl) (fun _ _ _ h => h) (Or.inl ⟨by rfl, ?_⟩) (by assumption) ?_
      rotate_left
      · (intro w hSw; (try dsimp only at hSw); go_simp; (try with_reducible rfl))
      (try simp only [Act.put, List.getElem_toArray, List.getElem_cons_succ, List.getElem_cons_zero, List.setIfInBounds_toArray, List.set_cons_zero, List.set_cons_succ])
      refine wpAnyH_take (i := 7) (v := ?_) rfl (by kernel_rfl) (by kernel_rfl) (by kernel_rfl) (fun _ _ _ h => h) (Or.inl ⟨by rfl, ?_⟩) (by assumption) ?_
      rotate_left
      · (intro w hSw; (try dsimp only at hSw); go_simp; (try with_reducible rfl))
      (try simp only [Act.put, List.getElem_toArray, List.getElem_cons_succ, List.getElem_cons_zero, List.setIfInBounds_toArray, List.set_cons_zero, List.set_cons_succ])
      refine wpAnyH_take (i := 8) (v := ?_) rfl (by kernel_rfl) (by kernel_rfl) (by kernel_rfl) (fun _ _ _ h => h) (Or.inl ⟨by rfl, ?_⟩) (by assumption) ?_
      rotate_left
      · (intro w hSw; (try dsimp only at hSw); go_simp; (try with_reducible rfl))
      (try simp only [Act.put, List.getElem_toArray, List.getElem_cons_succ, List.getElem_cons_zero, List.setIfInBounds_toArray, List.set_cons_zero, List.set_cons_succ])
      refine wpAnyH_take (i := 9) (v := ?_) rfl (by kernel_rfl) (by kernel_rfl) (by kernel_rfl) (fun _ _ _ h => h) (Or.inl ⟨by rfl, ?_⟩) (by assumption) ?_
      rotate_left
      · (intro w hSw; (try dsimp only at hSw); go_simp; (try with_reducible rfl))
      (try simp only [Act.put, List.getElem_toArray, List.getElem_cons_succ, List.getElem_cons_zero, List.setIfInBounds_toArray, List.set_cons_zero, List.set_cons_succ])
      refine wpAnyH_take (i := 10) (v := ?_) rfl (by kernel_rfl) (by kernel_rfl) (by kernel_rfl) (fun _ _ _ h => h) (Or.inl ⟨by rfl, ?_⟩) (by assumption) ?_
      rotate_left
      · (intro w hSw; (try dsimp only at hSw); go_simp; (try with_reducible rfl))
      (try simp only [Act.put, List.getElem_toArray, List.getElem_cons_succ, List.getElem_cons_zero, List.setIfInBounds_toArray, List.set_cons_zero, List.set_cons_succ])
      refine wpAnyH_take (i := 11) (v := ?_) rfl (by kernel_rfl) (by kernel_rfl) (by kernel_rfl) (fun _ _ _ h => h) (Or.inl ⟨by rfl, ?_⟩) (by assumption) ?_
      rotate_left
      · (intro w hSw; (try dsimp only at hSw); go_simp; (try with_reducible rfl))
      (try simp only [Act.put, List.getElem_toArray, List.getElem_cons_succ, List.getElem_cons_zero, List.setIfInBounds_toArray, List.set_cons_zero, List.set_cons_succ])
      refine wpAnyH_ready (rs := [12]) (by kernel_rfl) (by simp) (AllReadyH.cons rfl (fun K hK => ?_) AllReadyH.nil)
      (first | ((first | (go_at_call 35; refine (HF.out _ hHeld.2).mono ?_; rintro e w91 ⟨rfl, b91⟩) | (go_at_call 32; refine (HN.out _).mono ?_; rintro e w92 ⟨rfl, b92⟩) | (go_at_call 36; refine (HIN.out _).mono ?_; rintro e w93 ⟨rfl, b93⟩))) | (go_simp; (first | (go_at_call 35; refine (HF.out _ hHeld.2).mono ?_; rintro e w91 ⟨rfl, b91⟩) | (go_at_call 32; refine (HN.out _).mono ?_; rintro e w92 ⟨rfl, b92⟩) | (go_at_call 36; refine (HIN.out _).mono ?_; rintro e w93 ⟨rfl, b93⟩))))
      (try (go_wp2_with fail))
      refine hK.out _ _ ?_ (fun hHeld => ?_)
      · ((try dsimp only); (first | exact keepS hHeld b93 | exact keepS hHeld b92 | exact keepS hHeld b91 | exact ⟨⟨⟨c0, c1⟩, ⟨c2, c3⟩, c4, c5⟩, HB1.out.drew⟩))
      clear hK K
      (try simp only [Act.put, List.getElem_toArray, List.getElem_cons_succ, List.getElem_cons_zero, List.setIfInBounds_toArray, List.set_cons_zero, List.set_cons_succ])
      refine wpAnyH_ready (rs := [13]) (by kernel_rfl) (by simp) (AllReadyH.cons rfl (fun K hK => ?_) AllReadyH.nil)
      (first | ((first | (go_at_call 35; refine (HF.out _ hHeld.2).mono ?_; rintro e w91 ⟨rfl, b91⟩) | (go_at_call 32; refine (HN.out _).mono ?_; rintro e w92 ⟨rfl, b92⟩) | (go_at_call 36; refine (HIN.out _).mono ?_; rintro e w93 ⟨rfl, b93⟩))) | (go_simp; (first | (go_at_call 35; refine (HF.out _ hHeld.2).mono ?_; rintro e w91 ⟨rfl, b91⟩) | (go_at_call 32; refine (HN.out _).mono ?_; rintro e w92 ⟨rfl, b92⟩) | (go_at_call 36; refine (HIN.out _).mono ?_; rintro e w93 ⟨rfl, b93⟩))))
      (try (go_wp2_with fail))
      refine hK.out _ _ ?_ (fun hHeld => ?_)
      · ((try dsimp only); (first | exact keepS hHeld b93 | exact keepS hHeld b92 | exact keepS hHeld b91 | exact ⟨⟨⟨c0, c1⟩, ⟨c2, c3⟩, c4, c5⟩, HB1.out.drew⟩))
      clear hK K
      (try simp only [Act.put, List.getElem_toArray, List.getElem_cons_succ, List.getElem_cons_zero, List.setIfInBounds_toArray, List.set_cons_zero, List.set_cons_succ])
      refine wpAnyH_take (i := 14) (v := ?_) rfl (by kernel_rfl) (by kernel_rfl) (by kernel_rfl) (fun _ _ _ h => h) (Or.inl ⟨by rfl, ?_⟩) (by assumption) ?_
      rotate_left
      · (intro w hSw; (try dsimp only at hSw); go_simp; (try with_reducible rfl))
      (try simp only [Act.put, List.getElem_toArray, List.getElem_cons_succ, List.getElem_cons_zero, List.setIfInBounds_toArray, List.set_cons_zero, List.set_cons_succ])
      refine wpAnyH_take (i := 15) (v := ?_) rfl (by kernel_rfl) (by kernel_rfl) (by kernel_rfl) (fun _ _ _ h => h) (Or.inl ⟨by rfl, ?_⟩) (by assumption) ?_
      rotate_left
      · (intro w hSw; (try dsimp only at hSw); go_simp; (try with_reducible rfl))
      (try simp only [Act.put, List.getElem_toArray, List.getElem_cons_succ, List.getElem_cons_zero, List.setIfInBounds_toArray, List.set_cons_zero, List.set_cons_succ])
      refine wpAnyH_done (by kernel_rfl) ?_ _
      refine NoPanic.normal ?_
      clear b91 b92
      go_wp2_with fail
      go_ret
      exact ⟨by rw [HE.out]; rfl, hHeld.2⟩
end
end Go.Proofs.YtjfllfancgmalaaGreat
