/- Texts of this claim, merged: ClC, DepE, ImB, ImC, DdA, OwnDs. Conditions: as stated. -/
import Derived.Test.YtmapiljbhjblhaaUa10
import Derived.Deep.RegionLaw
import Derived.Deep.CutBlock
import Derived.Deep.DeepCutAuto
import Derived.Test.YtmapiljbhjblhaaUa6
import Derived.Test.YtmapiljbhjblhaaUa3
import Derived.Lib.OthersKept
namespace Go.Proofs.Ytmapiljbhjblhaa
open Go.RowKit

theorem allD_snoc {p : Int × Int → Bool} {l : List (Int × Int)} {i : Nat} (hi : i < l.length) (h : (l.take i).all p = true) (hp : p (l.getD i (0, 0)) = true) : (l.take (i + 1)).all p = true := by
  rw [take_succ_getD l (0, 0) i hi, List.all_append, h]
  simp only [List.all_cons, List.all_nil, Bool.and_true, Bool.true_and]
  exact hp
theorem allD_not {p : Int × Int → Bool} {l : List (Int × Int)} {i : Nat} (hi : i < l.length) (hp : p (l.getD i (0, 0)) = false) : l.all p = false := by
  rw [Bool.eq_false_iff]
  intro h
  rw [List.all_eq_true] at h
  rw [h _ (memD hi)] at hp
  cases hp
theorem readD_cells {w : World} {a : Option Addr} {n cap : Nat} {l : List (Int × Int)} (h : ReadD w (.slice a n cap) l) {i : Nat} (hi : i < l.length) : ∃ b o, a = some ⟨b, o, none⟩ ∧ w.cell? ⟨b, o + i * 2, none⟩ = some (.int .i64 (l.getD i (0, 0)).1) ∧ w.cell? ⟨b, o + i * 2 + 1, none⟩ = some (.int .i64 (l.getD i (0, 0)).2) := by
  obtain ⟨a', cap', hv, hc⟩ := h
  cases hv
  exact hc i hi
theorem keep_in {w w' : World} {p : Addr} {v : Value} (h : w.cell? p = some v) (b : Below w.heap.size w w') : w'.cell? p = some v := (b.cell (World.block_lt_of_cell? w _ h)).trans h
theorem or_w : ∀ (x : Fin 32) (R : Fin 5), bits .or .i64 ((x.val : Nat) : Int) (wrap64 (2 ^ R.val)) = ((orN x.val R.val : Nat) : Int) := by decide +kernel
section
set_option maxRecDepth 20000
set_option maxHeartbeats 3200000
theorem areDeps10_any (v : Value) (n : Int) (l : List (Int × Int)) (w : World) (hr : ReadD w v l) (hl : l.length ≤ 1048576) :
    Calls Try.prog 11 #[.int .i64 n, v] w fun e w' => e = .returned (.bool (arD n l)) ∧ Below w.heap.size w w' := by
  have HR := Lib.hid (fun w' (hb : Below w.heap.size w w') => hr.kept hb)
  have HIN := Lib.hid (fun w' => in_any n 1 5 w')
  have HID := Lib.hid (fun a b w' => isDep_any n a b w')
  obtain ⟨a, cap, rfl, -⟩ := hr
  go_enter Try.func11, Try.ntmps11
  go_wp2_with fail
  go_loopw [5] (fun iv wr => ∃ i : Nat, i ≤ l.length ∧ iv = .int .i64 (i : Int) ∧ Hid ((l.take i).all (fun d => depB n d.1 d.2) = true) ∧ Hid (Below w.heap.size w wr)) (fun iv _ => l.length - (intOf iv).toNat)
  case atStart => exact ⟨0, by omega, rfl, Lib.hid rfl, Lib.hid (Below.refl _ _)⟩
  case round =>
    obtain ⟨i, hi, rfl, HA, HB⟩ := hrel
    obtain ⟨w3, hw⟩ : ∃ w', w' = wr := ⟨_, rfl⟩
    rw [← hw] at HB ⊢
    clear hw
    have z0 : (0 : Int) ≤ (i : Int) := by omega
    by_cases hlt : i < l.length
    · obtain ⟨b, o, rfl, h0, h1⟩ := readD_cells (HR.out w3 HB.out) hlt
      have z1 : (i : Int) < (l.length : Int) := by omega
      have HOK := Lib.hid (fun h => allD_snoc (p := fun d => depB n d.1 d.2) hlt HA.out h)
      have HNO := Lib.hid (fun h => allD_not (p := fun d => depB n d.1 d.2) hlt h)
      obtain ⟨⟨x0, x1⟩, hx⟩ : ∃ z, z = l.getD i (0, 0) := ⟨_, rfl⟩
      rw [← hx] at h0 h1 HOK HNO
      simp only at h0 h1
      have HQ := Lib.hid (HID.out x0 x1 w3)
      clear hx HA
      cases hd : depB n x0 x1 with
      | true =>
        rw [hd] at HQ
        have HX := Lib.hid (HOK.out hd)
        clear hd
        go_wp2_with fail
        refine HQ.out.mono ?_
        rintro e w4 ⟨rfl, b4⟩
        have HB4 := Lib.hid (HB.out.trans (b4.mono HB.out.size))
        clear b4 h0 h1
        go_wp2_with fail
        go_roundw
        case rel => exact ⟨i + 1, by omega, by go_num, HX, HB4⟩
        case measure => simp [intOf]; omega
      | false =>
        rw [hd] at HQ
        have HX := Lib.hid (HNO.out hd)
        clear hd
        go_wp2_with fail
        refine HQ.out.mono ?_
        rintro e w4 ⟨rfl, b4⟩
        have HB4 := Lib.hid (HB.out.trans (b4.mono HB.out.size))
        clear b4 h0 h1
        go_wp2_with fail
        go_ret
        exact ⟨ret_b (by unfold arD; rw [HX.out]; rfl), HB4.out⟩
    · obtain rfl : i = l.length := by omega
      have HAA : Hid (l.all (fun d => depB n d.1 d.2) = true) := Lib.hid (by have := HA.out; rwa [List.take_length] at this)
      have HQ := Lib.hid (HIN.out w3)
      clear HA
      by_cases hn : 1 ≤ n ∧ n ≤ 5
      · rw [decide_eq_true hn] at HQ
        by_cases h20 : l.length ≤ 20
        · have g20 : (l.length : Int) ≤ 20 := by omega
          have HE : Hid (arD n l = true) := Lib.hid (by unfold arD; rw [HAA.out, decide_eq_true hn, decide_eq_true h20]; rfl)
          clear hn
          go_wp2_with fail
          refine HQ.out.mono ?_
          rintro e w' ⟨rfl, rfl⟩
          go_wp2_with fail
          go_ret
          exact ⟨ret_b HE.out, HB.out⟩
        · have g20 : ¬ ((l.length : Int) ≤ 20) := by omega
          have HE : Hid (arD n l = false) := Lib.hid (by unfold arD; rw [HAA.out, decide_eq_true hn, decide_eq_false h20]; rfl)
          clear hn
          go_wp2_with fail
          refine HQ.out.mono ?_
          rintro e w' ⟨rfl, rfl⟩
          go_wp2_with fail
          go_ret
          exact ⟨ret_b (by rw [HE.out, decide_eq_false (by omega)]), HB.out⟩
      · rw [decide_eq_false hn] at HQ
        have HE : Hid (arD n l = false) := Lib.hid (by unfold arD; rw [HAA.out, decide_eq_false hn]; rfl)
        clear hn
        go_wp2_with fail
        refine HQ.out.mono ?_
        rintro e w' ⟨rfl, rfl⟩
        go_wp2_with fail
        go_ret
        exact ⟨ret_b HE.out, HB.out⟩
theorem close10_any (C : Nat) (hC : C ≤ 5) (v : Value) (l : List (Int × Int)) (hd : DepsN C l) (x : Nat) (hx : x < 32) (w : World) (hr : ReadD w v l) (hl : l.length ≤ 1048576) :
    Calls Try.prog 44 #[v, .int .i64 (x : Int)] w fun e w' => e = .returned (.int .i64 (clo l x : Int)) ∧ Below w.heap.size w w' := by
  have HR := Lib.hid (fun w' (hb : Below w.heap.size w w') => hr.kept hb)
  obtain ⟨a, cap, rfl, -⟩ := hr
  have HD := Lib.hid hd
  have HK := Lib.hid (fun k => (cloTo_facts hC hd hx k).1)
  have HRD := Lib.hid (fun (y : Nat) (hy : y < 32) i hi => (rdTo_facts hC hd hy i hi).1)
  clear hd hx
  go_enter Try.func44, Try.ntmps44
  go_wp2_with fail
  go_loopw [1, 5] (fun xv kv wr => ∃ k : Nat, k ≤ 6 ∧ kv = .int .i64 (k : Int) ∧ xv = .int .i64 (cloTo l x k : Int) ∧ Hid (Below w.heap.size w wr)) (fun _ kv _ => 6 - (intOf kv).toNat)
  case atStart => exact ⟨0, by omega, rfl, rfl, Lib.hid (Below.refl _ _)⟩
  case round =>
    obtain ⟨k, hk, rfl, rfl, HB⟩ := hrel
    obtain ⟨w2, hw⟩ : ∃ w', w' = wr := ⟨_, rfl⟩
    rw [← hw] at HB ⊢
    clear hw
    have z0 : (0 : Int) ≤ (k : Int) := by omega
    have hkx := HK.out k
    have HN : Hid (cloTo l x (k + 1) = rdTo l (cloTo l x k) l.length) := Lib.hid rfl
    by_cases hlt : k < 6
    · have z1 : (k : Int) ≤ 5 := by omega
      obtain ⟨y, hy⟩ : ∃ y, y = cloTo l x k := ⟨_, rfl⟩
      rw [← hy] at hkx HN ⊢
      clear hy
      go_wp2_with fail
      go_loopw [1, 6] (fun xv iv wr => ∃ i : Nat, i ≤ l.length ∧ iv = .int .i64 (i : Int) ∧ xv = .int .i64 (rdTo l y i : Int) ∧ Hid (Below w.heap.size w wr)) (fun _ iv _ => l.length - (intOf iv).toNat)
      case atStart => exact ⟨0, by omega, rfl, rfl, HB⟩
      case round =>
        clear HB
        obtain ⟨i, hi, rfl, rfl, HB⟩ := hrel
        obtain ⟨w3, hw⟩ : ∃ w', w' = wr := ⟨_, rfl⟩
        rw [← hw] at HB ⊢
        clear hw
        have z2 : (0 : Int) ≤ (i : Int) := by omega
        by_cases hlt2 : i < l.length
        · obtain ⟨b, o, rfl, h0, h1⟩ := readD_cells (HR.out w3 HB.out) hlt2
          have z3 : (i : Int) < (l.length : Int) := by omega
          obtain ⟨L, R, e, hL, hR⟩ := HD.out _ (memD hlt2)
          have hX32 := HRD.out y hkx i hi
          have hS : rdTo l y (i + 1) = stN (rdTo l y i) (l.getD i (0, 0)) := rfl
          obtain ⟨X, hX⟩ : ∃ X, X = rdTo l y i := ⟨_, rfl⟩
          rw [← hX] at hX32 hS ⊢
          rw [e] at h0 h1 hS
          simp only at h0 h1
          have HSX : Hid (rdTo l y (i + 1) = if subN L X = true then orN X R else X) := Lib.hid (by rw [hS]; rfl)
          have h32 := two5 hC
          have hand := sub_and ⟨L, by omega⟩ ⟨X, hX32⟩
          simp only at hand
          have HOW : Hid (bits .or .i64 (X : Int) (wrap64 (2 ^ R)) = (orN X R : Int)) := Lib.hid (or_w ⟨X, hX32⟩ ⟨R, by omega⟩)
          have zR : (0 : Int) ≤ (R : Int) := by omega
          have hR5 : R < 5 := by omega
          clear e hX hS
          cases hs : subN L X with
          | true =>
            rw [hs] at hand HSX
            clear hs
            go_upto_region 7 with fail
            refine wp_region_noPanic ?_
            refine wp_region_held_drew (S := (fun w' => w'.cell? ⟨b, o + i * 2, none⟩ = some (.int .i64 (L : Int)) ∧ Below w3.heap.size w3 w')) (by kernel_rfl) ?_ (fun hHeld => ?_)
            · ((try dsimp only); exact ⟨h0, (Below.refl _ _).drew⟩)
            refine wpAnyH_take (i := 0) (v := ?_) rfl (by kernel_rfl) (by kernel_rfl) (by kernel_rfl) (fun _ _ _ h => h) (Or.inl ⟨by rfl, ?_⟩) (by assumption) ?_
            rotate_left
            · (intro w hSw; (try dsimp only at hSw); go_simp; (try with_reducible rfl))
            (try simp only [Act.put, List.getElem_toArray, List.getElem_cons_zero, List.setIfInBounds_toArray, List.set_cons_zero, List.set_cons_succ])
            refine wpAnyH_take (i := 1) (v := ?_) rfl (by kernel_rfl) (by kernel_rfl) (by kernel_rfl) (fun _ _ _ h => h) (Or.inl ⟨by rfl, ?_⟩) (by assumption) ?_
            rotate_left
            · (intro w hSw; (try dsimp only at hSw); go_simp; (try with_reducible rfl))
            (try simp only [Act.put, List.getElem_toArray, List.getElem_cons_succ, List.getElem_cons_zero, List.setIfInBounds_toArray, List.set_cons_zero, List.set_cons_succ])
            refine wpAnyH_take (i := 2) (v := ?_) rfl (by kernel_rfl) (by kernel_rfl) (by kernel_rfl) (fun _ _ _ h => h) (Or.inl ⟨by rfl, ?_⟩) (by assumption) ?_
            rotate_left
            · (intro w hSw; (try dsimp only at hSw); go_simp; (try with_reducible rfl))
            (try simp only [Act.put, List.getElem_toArray, List.getElem_cons_succ, List.getElem_cons_zero, List.setIfInBounds_toArray, List.set_cons_zero, List.set_cons_succ])
            refine wpAnyH_take (i := 3) (v := ?_) rfl (by kernel_rfl) (by kernel_rfl) (by kernel_rfl) (fun _ _ _ h => h) (Or.inl ⟨by rfl, ?_⟩) (by assumption) ?_
            rotate_left
            · (intro w hSw; (try dsimp only at hSw); go_simp; (try with_reducible rfl))
            (try simp only [Act.put, List.getElem_toArray, List.getElem_cons_succ, List.getElem_cons_zero, List.setIfInBounds_toArray, List.set_cons_zero, List.set_cons_succ])
            refine wpAnyH_take (i := 4) (v := ?_) rfl (by kernel_rfl) (by kernel_rfl) (by kernel_rfl) (fun _ _ _ h => h) (Or.inl ⟨by rfl, ?_⟩) (by assumption) ?_
            rotate_left
            · (intro w hSw; (try dsimp only at hSw); go_simp; (try with_reducible rfl))
            (try simp only [Act.put, List.getElem_toArray, List.getElem_cons_succ, List.getElem_cons_zero, List.setIfInBounds_toArray, List.set_cons_zero, List.set_cons_succ])
            refine wpAnyH_take (i := 5) (v := ?_) rfl (by kernel_rfl) (by kernel_rfl) (by kernel_rfl) (fun _ _ _ h => h) (Or.inl ⟨by rfl, ?_⟩) (by assumption) ?_
            rotate_left
            · (intro w hSw; (try dsimp only at hSw); go_simp; (try with_reducible rfl))
            (try simp only [Act.put, List.getElem_toArray, List.getElem_cons_succ, List.getElem_cons_zero, List.setIfInBounds_toArray, List.set_cons_zero, List.set_cons_succ])
            refine wpAnyH_take (i := 6) (v := ?_) rfl (by kernel_rfl) (by kernel_rfl) (by kernel_rfl) (fun _ _ _ h => h) (Or.inl ⟨by rfl, ?_⟩) (by assumption) ?_
            rotate_left
            · (intro w hSw; (try dsimp only at hSw); go_simp; (try with_reducible rfl))
            (try simp only [Act.put, List.getElem_toArray, List.getElem_cons_succ, List.getElem_cons_zero, List.setIfInBounds_toArray, List.set_cons_zero, List.set_cons_succ])
            refine wpAnyH_take (i := 7) (v := ?_) rfl (by kernel_rfl) (by kernel_rfl) (by kernel_rfl) (fun _ _ _ h => h) (Or.inl ⟨by rfl, ?_⟩) (by assumption) ?_
            rotate_left
            · (intro w hSw; (try dsimp only at hSw); go_simp; (try with_reducible rfl))
            (try simp only [Act.put, List.getElem_toArray, List.getElem_cons_succ, List.getElem_cons_zero, List.setIfInBounds_toArray, List.set_cons_zero, List.set_cons_succ])
            refine wpAnyH_take (i := 8) (v := ?_) rfl (by kernel_rfl) (by kernel_rfl) (by kernel_rfl) (fun _ _ _ h => h) (Or.inl ⟨by rfl, ?_⟩) (by assumption) ?_
            rotate_left
            · (intro w hSw; (try dsimp only at hSw); go_simp; (try with_reducible rfl))
            (try simp only [Act.put, List.getElem_toArray, List.getElem_cons_succ, List.getElem_cons_zero, List.setIfInBounds_toArray, List.set_cons_zero, List.set_cons_succ])
            refine wpAnyH_take (i := 9) (v := ?_) rfl (by kernel_rfl) (by kernel_rfl) (by kernel_rfl) (fun _ _ _ h => h) (Or.inl ⟨by rfl, ?_⟩) (by assumption) ?_
            rotate_left
            · (intro w hSw; (try dsimp only at hSw); go_simp; (try with_reducible rfl))
            (try simp only [Act.put, List.getElem_toArray, List.getElem_cons_succ, List.getElem_cons_zero, List.setIfInBounds_toArray, List.set_cons_zero, List.set_cons_succ])
            refine wpAnyH_take (i := 10) (v := ?_) rfl (by kernel_rfl) (by kernel_rfl) (by kernel_rfl) (fun _ _ _ h => h) (Or.inl ⟨by rfl, ?_⟩) (by assumption) ?_
            rotate_left
            · (intro w hSw; (try dsimp only at hSw); go_simp; (try with_reducible rfl))
            (try simp only [Act.put, List.getElem_toArray, List.getElem_cons_succ, List.getElem_cons_zero, List.setIfInBounds_toArray, List.set_cons_zero, List.set_cons_succ])
            refine wpAnyH_take (i := 11) (v := ?_) rfl (by kernel_rfl) (by kernel_rfl) (by kernel_rfl) (fun _ _ _ h => h) (Or.inl ⟨by rfl, ?_⟩) (by assumption) ?_
            rotate_left
            · (intro w hSw; (try dsimp only at hSw); go_simp; (try with_reducible rfl))
            (try simp only [Act.put, List.getElem_toArray, List.getElem_cons_succ, List.getElem_cons_zero, List.setIfInBounds_toArray, List.set_cons_zero, List.set_cons_succ])
            refine wpAnyH_take (i := 12) (v := ?_) rfl (by kernel_rfl) (by kernel_rfl) (by kernel_rfl) (fun _ _ _ h => h) (Or.inl ⟨by rfl, ?_⟩) (by assumption) ?_
            rotate_left
            · (intro w hSw; (try dsimp only at hSw); go_simp; (try with_reducible rfl))
            (try simp only [Act.put, List.getElem_toArray, List.getElem_cons_succ, List.getElem_cons_zero, List.setIfInBounds_toArray, List.set_cons_zero, List.set_cons_succ])
            refine wpAnyH_done (by kernel_rfl) ?_ _
            refine NoPanic.normal ?_
            replace h1 := keep_in h1 hHeld.2
            have HB4 := Lib.hid (HB.out.trans (hHeld.2.mono HB.out.size))
            clear hHeld h0
            go_wp2_with fail
            go_roundw
            case rel => exact ⟨i + 1, by omega, by go_num, by rw [HOW.out, HSX.out, if_pos rfl], HB4⟩
            case measure => simp [intOf]; omega
          | false =>
            rw [hs] at hand HSX
            clear hs
            go_upto_region 7 with fail
            refine wp_region_noPanic ?_
            refine wp_region_held_drew (S := (fun w' => w'.cell? ⟨b, o + i * 2, none⟩ = some (.int .i64 (L : Int)) ∧ Below w3.heap.size w3 w')) (by kernel_rfl) ?_ (fun hHeld => ?_)
            · ((try dsimp only); exact ⟨h0, (Below.refl _ _).drew⟩)
            refine wpAnyH_take (i := 0) (v := ?_) rfl (by kernel_rfl) (by kernel_rfl) (by kernel_rfl) (fun _ _ _ h => h) (Or.inl ⟨by rfl, ?_⟩) (by assumption) ?_
            rotate_left
            · (intro w hSw; (try dsimp only at hSw); go_simp; (try with_reducible rfl))
            (try simp only [Act.put, List.getElem_toArray, List.getElem_cons_zero, List.setIfInBounds_toArray, List.set_cons_zero, List.set_cons_succ])
            refine wpAnyH_take (i := 1) (v := ?_) rfl (by kernel_rfl) (by kernel_rfl) (by kernel_rfl) (fun _ _ _ h => h) (Or.inl ⟨by rfl, ?_⟩) (by assumption) ?_
            rotate_left
            · (intro w hSw; (try dsimp only at hSw); go_simp; (try with_reducible rfl))
            (try simp only [Act.put, List.getElem_toArray, List.getElem_cons_succ, List.getElem_cons_zero, List.setIfInBounds_toArray, List.set_cons_zero, List.set_cons_succ])
            refine wpAnyH_take (i := 2) (v := ?_) rfl (by kernel_rfl) (by kernel_rfl) (by kernel_rfl) (fun _ _ _ h => h) (Or.inl ⟨by rfl, ?_⟩) (by assumption) ?_
            rotate_left
            · (intro w hSw; (try dsimp only at hSw); go_simp; (try with_reducible rfl))
            (try simp only [Act.put, List.getElem_toArray, List.getElem_cons_succ, List.getElem_cons_zero, List.setIfInBounds_toArray, List.set_cons_zero, List.set_cons_succ])
            refine wpAnyH_take (i := 3) (v := ?_) rfl (by kernel_rfl) (by kernel_rfl) (by kernel_rfl) (fun _ _ _ h => h) (Or.inl ⟨by rfl, ?_⟩) (by assumption) ?_
            rotate_left
            · (intro w hSw; (try dsimp only at hSw); go_simp; (try with_reducible rfl))
            (try simp only [Act.put, List.getElem_toArray, List.getElem_cons_succ, List.getElem_cons_zero, List.setIfInBounds_toArray, List.set_cons_zero, List.set_cons_succ])
            refine wpAnyH_take (i := 4) (v := ?_) rfl (by kernel_rfl) (by kernel_rfl) (by kernel_rfl) (fun _ _ _ h => h) (Or.inl ⟨by rfl, ?_⟩) (by assumption) ?_
            rotate_left
            · (intro w hSw; (try dsimp only at hSw); go_simp; (try with_reducible rfl))
            (try simp only [Act.put, List.getElem_toArray, List.getElem_cons_succ, List.getElem_cons_zero, List.setIfInBounds_toArray, List.set_cons_zero, List.set_cons_succ])
            refine wpAnyH_take (i := 5) (v := ?_) rfl (by kernel_rfl) (by kernel_rfl) (by kernel_rfl) (fun _ _ _ h => h) (Or.inl ⟨by rfl, ?_⟩) (by assumption) ?_
            rotate_left
            · (intro w hSw; (try dsimp only at hSw); go_simp; (try with_reducible rfl))
            (try simp only [Act.put, List.getElem_toArray, List.getElem_cons_succ, List.getElem_cons_zero, List.setIfInBounds_toArray, List.set_cons_zero, List.set_cons_succ])
            refine wpAnyH_take (i := 6) (v := ?_) rfl (by kernel_rfl) (by kernel_rfl) (by kernel_rfl) (fun _ _ _ h => h) (Or.inl ⟨by rfl, ?_⟩) (by assumption) ?_
            rotate_left
            · (intro w hSw; (try dsimp only at hSw); go_simp; (try with_reducible rfl))
            (try simp only [Act.put, List.getElem_toArray, List.getElem_cons_succ, List.getElem_cons_zero, List.setIfInBounds_toArray, List.set_cons_zero, List.set_cons_succ])
            refine wpAnyH_take (i := 7) (v := ?_) rfl (by kernel_rfl) (by kernel_rfl) (by kernel_rfl) (fun _ _ _ h => h) (Or.inl ⟨by rfl, ?_⟩) (by assumption) ?_
            rotate_left
            · (intro w hSw; (try dsimp only at hSw); go_simp; (try with_reducible rfl))
            (try simp only [Act.put, List.getElem_toArray, List.getElem_cons_succ, List.getElem_cons_zero, List.setIfInBounds_toArray, List.set_cons_zero, List.set_cons_succ])
            refine wpAnyH_take (i := 8) (v := ?_) rfl (by kernel_rfl) (by kernel_rfl) (by kernel_rfl) (fun _ _ _ h => h) (Or.inl ⟨by rfl, ?_⟩) (by assumption) ?_
            rotate_left
            · (intro w hSw; (try dsimp only at hSw); go_simp; (try with_reducible rfl))
            (try simp only [Act.put, List.getElem_toArray, List.getElem_cons_succ, List.getElem_cons_zero, List.setIfInBounds_toArray, List.set_cons_zero, List.set_cons_succ])
            refine wpAnyH_take (i := 9) (v := ?_) rfl (by kernel_rfl) (by kernel_rfl) (by kernel_rfl) (fun _ _ _ h => h) (Or.inl ⟨by rfl, ?_⟩) (by assumption) ?_
            rotate_left
            · (intro w hSw; (try dsimp only at hSw); go_simp; (try with_reducible rfl))
            (try simp only [Act.put, List.getElem_toArray, List.getElem_cons_succ, List.getElem_cons_zero, List.setIfInBounds_toArray, List.set_cons_zero, List.set_cons_succ])
            refine wpAnyH_take (i := 10) (v := ?_) rfl (by kernel_rfl) (by kernel_rfl) (by kernel_rfl) (fun _ _ _ h => h) (Or.inl ⟨by rfl, ?_⟩) (by assumption) ?_
            rotate_left
            · (intro w hSw; (try dsimp only at hSw); go_simp; (try with_reducible rfl))
            (try simp only [Act.put, List.getElem_toArray, List.getElem_cons_succ, List.getElem_cons_zero, List.setIfInBounds_toArray, List.set_cons_zero, List.set_cons_succ])
            refine wpAnyH_take (i := 11) (v := ?_) rfl (by kernel_rfl) (by kernel_rfl) (by kernel_rfl) (fun _ _ _ h => h) (Or.inl ⟨by rfl, ?_⟩) (by assumption) ?_
            rotate_left
            · (intro w hSw; (try dsimp only at hSw); go_simp; (try with_reducible rfl))
            (try simp only [Act.put, List.getElem_toArray, List.getElem_cons_succ, List.getElem_cons_zero, List.setIfInBounds_toArray, List.set_cons_zero, List.set_cons_succ])
            refine wpAnyH_take (i := 12) (v := ?_) rfl (by kernel_rfl) (by kernel_rfl) (by kernel_rfl) (fun _ _ _ h => h) (Or.inl ⟨by rfl, ?_⟩) (by assumption) ?_
            rotate_left
            · (intro w hSw; (try dsimp only at hSw); go_simp; (try with_reducible rfl))
            (try simp only [Act.put, List.getElem_toArray, List.getElem_cons_succ, List.getElem_cons_zero, List.setIfInBounds_toArray, List.set_cons_zero, List.set_cons_succ])
            refine wpAnyH_done (by kernel_rfl) ?_ _
            refine NoPanic.normal ?_
            have HB4 := Lib.hid (HB.out.trans (hHeld.2.mono HB.out.size))
            clear hHeld h0 h1
            go_wp2_with fail
            go_roundw
            case rel => exact ⟨i + 1, by omega, by go_num, by rw [HSX.out]; rfl, HB4⟩
            case measure => simp [intOf]; omega
        · obtain rfl : i = l.length := by omega
          go_wp2_with fail
          go_roundw
          case rel => exact ⟨k + 1, by omega, by go_num, by rw [HN.out], HB⟩
          case measure => simp [intOf]; omega
    · obtain rfl : k = 6 := by omega
      go_wp2_with fail
      go_ret
      exact ⟨rfl, HB.out⟩
end
end Go.Proofs.Ytmapiljbhjblhaa
namespace Go.Proofs.Ytmapiljbhjblhaa
open Go.RowKit

theorem fmtA_empty (x : Int) : (fmtA x).toList.isEmpty = !valB x := by
  rw [ByteArray.toList_eq]
  unfold fmtA valB
  by_cases h : 0 ≤ x ∧ x ≤ 31
  · rw [if_pos h, decide_eq_true h]
    split
    · rfl
    · next hl =>
      cases hq : lets x.toNat 5 with
      | nil => exact absurd hq hl
      | cons a b => rfl
  · rw [if_neg h, decide_eq_false h]; rfl
/-- The text of a dependency, empty if it has none. -/
def fmtD (l r : Int) : ByteArray := if valB l = true ∧ 0 ≤ r ∧ r ≤ 4 then fmtA l ++ ⟨#[62]⟩ ++ fmtA (2 ^ r.toNat : Nat) else ⟨#[]⟩
theorem fmtA_size (x : Int) : (fmtA x).size ≤ 5 := by
  rw [str_size]
  unfold fmtA
  split
  · split
    · decide
    · have := lets_len x.toNat 5; simpa using this
  · decide
end Go.Proofs.Ytmapiljbhjblhaa
namespace Go.Proofs.Ytmapiljbhjblhaa
open Go.RowKit

theorem OwnI.none (w : World) (B : Nat) : OwnI w B (.slice .none 0 0) [] := World.ownsRow_nil _ _ _ _
end Go.Proofs.Ytmapiljbhjblhaa
namespace Go.Proofs.Ytmapiljbhjblhaa
open Go.RowKit

theorem info8s : (Try.prog.info? 5).map (fun i => (i.zero, i.size, i.bytes)) = some (some (.int .u8 0), 1, 1) := by kernel_rfl
/-- The letters of columns. -/
def ltr (l : List Int) : List UInt8 := l.map fun i => UInt8.ofNat (65 + i).toNat
theorem ltr_take {l : List Int} {k : Nat} (h : k < l.length) : ltr (l.take (k + 1)) = ltr (l.take k) ++ [UInt8.ofNat (65 + l[k]).toNat] := by
  unfold ltr; rw [List.take_succ_eq_append_getElem h, List.map_append]; rfl
theorem ltr_len (l : List Int) (k : Nat) : (ltr (l.take k)).length ≤ k := by
  unfold ltr; rw [List.length_map]; exact List.length_take_le _ _
theorem ltr_fmt : ∀ X : Fin 32, X.val ≠ 0 → (⟨(ltr (mems ((X.val : Nat) : Int))).toArray⟩ : ByteArray) = fmtA ((X.val : Nat) : Int) := by
  intro X h
  apply str_ext
  revert X
  decide +kernel
theorem own_apart {w : World} {B B' : Nat} {v v' : Value} {l : List UInt8} {l' : List Int} (h : OwnB w B 5 v l) (h' : OwnI w B' v' l') : ∀ g, v.ownBlock = some g → v'.ownBlock ≠ some g := by
  intro g hg hg'
  rcases h.2 with ⟨rfl, _⟩ | ⟨g1, cap, cur, rfl, hB, hgg, rest⟩
  · cases hg
  · rcases h'.2 with ⟨rfl, _⟩ | ⟨g2, cap2, cur2, rfl, hB2, hgg2, rest2⟩
    · cases hg'
    · simp [Value.ownBlock] at hg hg'
      subst hg hg'
      rw [hgg] at hgg2
      simp at hgg2
end Go.Proofs.Ytmapiljbhjblhaa
namespace Go.Proofs.Ytmapiljbhjblhaa
open Go.RowKit

theorem isA_cols {n x : Int} (h : isA n x = true) : 0 ≤ n ∧ n ≤ 5 := by unfold isA at h; rw [decide_eq_true_iff] at h; exact h.1
theorem depB_eq (n l r : Int) : depB n l r = (isA n l && (decide (0 ≤ r) && decide (r < n))) := by
  rw [Bool.eq_iff_iff, depB_iff, Bool.and_eq_true, Bool.and_eq_true, decide_eq_true_iff, decide_eq_true_iff]
  constructor
  · rintro ⟨h1, h2, h3, h4⟩; exact ⟨h2, h3, by omega⟩
  · rintro ⟨h1, h2, h3⟩
    have hn := isA_cols h1
    exact ⟨by omega, h1, h2, by omega⟩
set_option maxHeartbeats 800000 in
theorem implIsDep_all (n l r : Int) (_w1 : (Lit.int .i64 l).wf = true) (w : World) :
    Calls Try.prog 48 #[.int .i64 n, .agg #[.int .i64 l, .int .i64 r]] w fun e w' => e = .returned (.bool (depB n l r)) ∧ Below w.heap.size w w' := by
  have hb1 := (Below.refl w.heap.size w).alloc (Nat.le_refl _) (.cells #[.int .i64 l, .int .i64 r] 34)
  obtain ⟨c0, c1⟩ := zero2 w 34 (.int .i64 l) (.int .i64 r)
  have HBX := Lib.hid (fun w' (hb : Below (w.alloc (.cells #[.int .i64 l, .int .i64 r] 34)).heap.size (w.alloc (.cells #[.int .i64 l, .int .i64 r] 34)) w') => And.intro (hb1.trans (hb.mono hb1.size)) (box2 hb))
  have HA := Lib.hid (implIsA_any n l (wf_i64_ge _w1) (wf_i64_le _w1))
  have hE := depB_eq n l r
  cases ha : isA n l with
  | false =>
    rw [ha] at HA hE
    have HE : Hid (depB n l r = false) := Lib.hid (by rw [hE]; rfl)
    clear hE ha
    go_enter Try.func48, Try.ntmps48
    go_wp2_with fail
    refine (HA.out _).mono ?_
    rintro e w1 ⟨rfl, b1⟩
    obtain ⟨hb2, d0, d1⟩ := HBX.out _ b1
    clear b1 c0 c1
    go_wp2_with fail
    go_ret
    exact ⟨ret_b HE.out, hb2⟩
  | true =>
    rw [ha] at HA hE
    rw [Bool.true_and] at hE
    by_cases h0 : 0 ≤ r
    · by_cases h1 : r < n
      · have HE : Hid (depB n l r = true) := Lib.hid (by rw [hE, decide_eq_true h0, decide_eq_true h1]; rfl)
        clear hE ha
        go_enter Try.func48, Try.ntmps48
        go_wp2_with fail
        refine (HA.out _).mono ?_
        rintro e w1 ⟨rfl, b1⟩
        obtain ⟨hb2, d0, d1⟩ := HBX.out _ b1
        clear b1 c0 c1
        go_wp2_with fail
        go_ret
        exact ⟨ret_b HE.out, hb2⟩
      · have HE : Hid (depB n l r = false) := Lib.hid (by rw [hE, decide_eq_false h1]; simp)
        clear hE ha
        go_enter Try.func48, Try.ntmps48
        go_wp2_with fail
        refine (HA.out _).mono ?_
        rintro e w1 ⟨rfl, b1⟩
        obtain ⟨hb2, d0, d1⟩ := HBX.out _ b1
        clear b1 c0 c1
        go_wp2_with fail
        go_ret
        exact ⟨ret_b (by rw [HE.out, decide_eq_false (Int.not_lt.2 h1)]), hb2⟩
    · have HE : Hid (depB n l r = false) := Lib.hid (by rw [hE, decide_eq_false h0]; rfl)
      clear hE ha
      go_enter Try.func48, Try.ntmps48
      go_wp2_with fail
      refine (HA.out _).mono ?_
      rintro e w1 ⟨rfl, b1⟩
      obtain ⟨hb2, d0, d1⟩ := HBX.out _ b1
      clear b1 c0 c1
      go_wp2_with fail
      go_ret
      exact ⟨ret_b HE.out, hb2⟩
theorem implIsDep_any (n l r : Int) (_w0 : (Lit.int .i64 n).wf = true) (_w1 : (Lit.int .i64 l).wf = true) (_w2 : (Lit.int .i64 r).wf = true) (w : World) :
    Calls Try.prog 48 #[.int .i64 n, .agg #[.int .i64 l, .int .i64 r]] w fun e w' => e = .returned (.bool (depB n l r)) ∧ Below w.heap.size w w' := implIsDep_all n l r _w1 w
theorem depB_five {l r : Int} (h : depB 5 l r = true) : ∃ L R : Nat, l = (L : Int) ∧ r = (R : Int) ∧ L < 32 ∧ R ≤ 4 := by
  rw [depB_iff] at h
  obtain ⟨-, h2, h3, h4⟩ := h
  unfold isA at h2
  rw [decide_eq_true_iff] at h2
  obtain ⟨-, h5, h6⟩ := h2
  have h7 : l ≤ 31 := h6
  exact ⟨l.toNat, r.toNat, by omega, by omega, by omega, by omega⟩
theorem fmtD_dep (l r : Int) : fmtD l r = if depB 5 l r = true then fmtA l ++ ⟨#[62]⟩ ++ fmtA (2 ^ r.toNat : Nat) else ⟨#[]⟩ := by
  have h : (depB 5 l r = true) ↔ (valB l = true ∧ 0 ≤ r ∧ r ≤ 4) := by
    rw [depB_iff]
    unfold isA valB
    rw [decide_eq_true_iff, decide_eq_true_iff]
    have : (2 : Int) ^ (5 : Int).toNat - 1 = 31 := rfl
    rw [this]
    constructor
    · rintro ⟨-, ⟨-, h1⟩, h2, h3⟩; exact ⟨h1, h2, by omega⟩
    · rintro ⟨h1, h2, h3⟩; exact ⟨by omega, ⟨by omega, h1⟩, h2, by omega⟩
  unfold fmtD
  by_cases h' : depB 5 l r = true
  · rw [if_pos h', if_pos (h.1 h')]
  · rw [if_neg h', if_neg (fun e => h' (h.2 e))]
end Go.Proofs.Ytmapiljbhjblhaa
namespace Go.Proofs.Ytmapiljbhjblhaa
open Go.RowKit

theorem depsV_append (a b : List (Int × Int)) : depsV (a ++ b) = depsV a ++ depsV b := by
  induction a with
  | nil => rfl
  | cons x t ih => simp [depsV, ih]
theorem cell_two_new (w : World) (x y : Value) (t : TypeId) : ∀ j u, [x, y][j]? = some u → (w.alloc (.cells #[x, y] t)).cell? ((⟨w.heap.size, 0, none⟩ : Addr).add j) = some u := by
  intro j u hj
  match j, hj with
  | 0, hj =>
    simp at hj
    subst hj
    simp [Addr.add]
  | 1, hj =>
    simp at hj
    subst hj
    simp [Addr.add]
theorem two_i64 (x y : Int) : ∀ u ∈ [Value.int .i64 x, Value.int .i64 y], u.oneCell' = true := by
  intro u hu
  simp at hu
  rcases hu with rfl | rfl <;> rfl
theorem OwnD.nil (w : World) (B : Nat) : OwnD w B (.slice .none 0 0) [] := World.ownsRow_nil _ _ _ _
theorem OwnD.snoc {w : World} {B : Nat} {v : Value} {ds : List (Int × Int)} {x y : Int} (h : w.ownsRow B 34 2 v (ds.length + 1) (depsV ds ++ [.int .i64 x, .int .i64 y])) : OwnD w B v (ds ++ [(x, y)]) := by
  unfold OwnD
  rw [List.length_append, List.length_singleton, depsV_append]; exact h
theorem OwnD.base {w : World} {B B' : Nat} {v : Value} {ds : List (Int × Int)} (h : OwnD w B v ds) (hB : B' ≤ B) : OwnD w B' v ds := by
  refine ⟨h.1, ?_⟩
  rcases h.2 with hn | ⟨g, cap, cur, rfl, hb, rest⟩
  · exact .inl hn
  · exact .inr ⟨g, cap, cur, rfl, by omega, rest⟩
theorem OwnD.shape {w : World} {B : Nat} {v : Value} {ds : List (Int × Int)} (h : OwnD w B v ds) : ∃ a c, v = .slice a ds.length c := by
  rcases h.2 with ⟨rfl, h0⟩ | ⟨g, cap, cur, rfl, -⟩
  · exact ⟨_, _, by rw [h0]⟩
  · exact ⟨_, _, rfl⟩
/-- Blocks of rows of dependencies and blocks of rows of ints differ. -/
theorem dep_apart {w : World} {B B' : Nat} {v v' : Value} {n : Nat} {xs : List Value} {l : List Int} (h : w.ownsRow B 34 2 v n xs) (h' : OwnI w B' v' l) : ∀ g, v.ownBlock = some g → v'.ownBlock ≠ some g := by
  intro g hg hg'
  rcases h.2 with ⟨rfl, _⟩ | ⟨g1, cap, cur, rfl, hB, hgg, rest⟩
  · cases hg
  · rcases h'.2 with ⟨rfl, _⟩ | ⟨g2, cap2, cur2, rfl, hB2, hgg2, rest2⟩
    · cases hg'
    · simp [Value.ownBlock] at hg hg'
      subst hg hg'
      rw [hgg] at hgg2
      simp at hgg2
theorem one_at (w : World) (T : TypeId) (a : Value) : (w.alloc (.cells #[a] T)).cell? ⟨w.heap.size, 0, none⟩ = some a := World.cell?_alloc_mark w #[a] T (0, 0) 0
/-- A cell of a block that no row from B on holds is as it was, when a row grew. -/
theorem kept_cell {w w' : World} {row : Option Nat} {B : Nat} {p : Addr} (hg : w.grownBy w' row) (hB : ∀ g, row = some g → B < g) (hp : p.block < w.heap.size) (hlt : p.block ≤ B) : w'.cell? p = w.cell? p :=
  World.cell?_of_block (hg.block p.block hp (fun e => by have := hB p.block e.symm; omega))
end Go.Proofs.Ytmapiljbhjblhaa
