/- The model's chapter 13: IsPreserving, by contract. Conditions: as stated. -/
import Derived.Test.YtcgkfbjdlhapkaaYa33
import Derived.Test.YtcgkfbjdlhapkaaYa16
import Derived.Test.YtcgkfbjdlhapkaaYa19
namespace Go.Proofs.Ytcgkfbjdlhapkaa
open Go.RowKit

theorem OwnD.app13 {w : World} {B : Nat} {v : Value} {a b : List (Int × Int)} (h : w.ownsRow B 44 2 v (a.length + b.length) (depsV a ++ depsV b)) : OwnD w B v (a ++ b) := by
  unfold OwnD
  rw [List.length_append, depsV_append]; exact h
theorem pj_depsN {C : Nat} {s : Int} {l : List (Int × Int)} : DepsN C (pjL (C : Int) l s) := by
  intro d hd
  obtain ⟨x, R, T, rfl, -, hx, hR, -, -, -, him⟩ := pj_facts hd
  unfold impB at him
  rw [Bool.and_eq_true, Bool.and_eq_true] at him
  obtain ⟨⟨-, h5⟩, hA, -, hr⟩ := depB_iff.1 him.2.1
  obtain ⟨X, hX, -, hXC⟩ := isA_lt12c (by omega) hA
  exact ⟨x, R, rfl, by omega, by omega⟩
theorem alTo_deps {C : Nat} {l : List (Int × Int)} {ps : List Int} : ∀ k, DepsN C (alTo (C : Int) l ps k)
  | 0 => fun d hd => by cases hd
  | k + 1 => fun d hd => by
    rcases List.mem_append.1 (show d ∈ alTo (C : Int) l ps k ++ pjL (C : Int) l (ps.getD k 0) from hd) with h | h
    · exact alTo_deps k d h
    · exact pj_depsN d h
theorem mem_getD13 {l : List Int} {i : Nat} (h : i < l.length) : l.getD i 0 ∈ l := by
  rw [List.getD_eq_getElem?_getD, List.getElem?_eq_getElem h]; exact List.getElem_mem h
theorem readI_at13 {w : World} {a : Option Addr} {n cap : Nat} {l : List Int} (h : ReadI w (.slice a n cap) l) {i : Nat} (hi : i < l.length) : ∃ x, a = some x ∧ w.cell? (x.add i) = some (.int .i64 (l.getD i 0)) := by
  obtain ⟨a', cap', hv, hc⟩ := h
  cases hv
  obtain ⟨x, e, h⟩ := hc i hi
  exact ⟨x, e, by rw [h, List.getD_eq_getElem?_getD, List.getElem?_eq_getElem hi]; rfl⟩
theorem newsDn13 {w : World} {v : Value} {l : List (Int × Int)} (h : ReadD w v l) : ∀ a n c, v = .slice a n c → ∀ j u, (depsV l)[j]? = some u → ∃ x, a = some x ∧ w.cell? (x.add j) = some u := fun a n c e => by
  subst e
  exact newsDn h
section
set_option maxRecDepth 20000
set_option maxHeartbeats 3200000
theorem close10_big (C : Nat) (hC : C ≤ 5) (v : Value) (l : List (Int × Int)) (hd : DepsN C l) (x : Nat) (hx : x < 32) (w : World) (hr : ReadD w v l) (hl : l.length ≤ 1000000000) :
    Calls Try.prog 38 #[v, .int .i64 (x : Int)] w fun e w' => e = .returned (.int .i64 (clo l x : Int)) ∧ Below w.heap.size w w' := by
  have HR := Lib.hid (fun w' (hb : Below w.heap.size w w') => hr.kept hb)
  obtain ⟨a, cap, rfl, -⟩ := hr
  have HD := Lib.hid hd
  have HK := Lib.hid (fun k => (cloTo_facts hC hd hx k).1)
  have HRD := Lib.hid (fun (y : Nat) (hy : y < 32) i hi => (rdTo_facts hC hd hy i hi).1)
  clear hd hx
  go_enter Try.func38, Try.ntmps38
  go_wp2_with fail
  go_loopw [1, 5] (fun xv kv wr => ∃ k : Nat, k ≤ 6 ∧ kv = .int .i64 (k : Int) ∧ xv = .int .i64 (cloTo l x k : Int) ∧ Hid (Below w.heap.size w wr)) (fun _ kv _ => 6 - (intOf kv).toNat)
  case atStart => exact ⟨0, by omega, rfl, rfl, Lib.hid (Below.refl _ _)⟩
  case round =>
    obtain ⟨k, hk, rfl, rfl, HB⟩ := hrel
    obtain ⟨w2, hw⟩ : ∃ w', w' = wr := ⟨_, rfl⟩
    rw [← hw] at HB ⊢
    clear hw
    have z0 : (0 : Int) ≤ (k : Int) := by omega
    have hkx := HK.out k
    have HN : Hid (cloTo l x (k + 1) = rdTo l (cloTo l x k) l.length) := Lib.hid rfl
    by_cases hlt : k < 6
    · have z1 : (k : Int) ≤ 5 := by omega
      obtain ⟨y, hy⟩ : ∃ y, y = cloTo l x k := ⟨_, rfl⟩
      rw [← hy] at hkx HN ⊢
      clear hy
      go_wp2_with fail
      go_loopw [1, 6] (fun xv iv wr => ∃ i : Nat, i ≤ l.length ∧ iv = .int .i64 (i : Int) ∧ xv = .int .i64 (rdTo l y i : Int) ∧ Hid (Below w.heap.size w wr)) (fun _ iv _ => l.length - (intOf iv).toNat)
      case atStart => exact ⟨0, by omega, rfl, rfl, HB⟩
      case round =>
        clear HB
        obtain ⟨i, hi, rfl, rfl, HB⟩ := hrel
        obtain ⟨w3, hw⟩ : ∃ w', w' = wr := ⟨_, rfl⟩
        rw [← hw] at HB ⊢
        clear hw
        have z2 : (0 : Int) ≤ (i : Int) := by omega
        by_cases hlt2 : i < l.length
        · obtain ⟨b, o, rfl, h0, h1⟩ := readD_cells (HR.out w3 HB.out) hlt2
          have z3 : (i : Int) < (l.length : Int) := by omega
          obtain ⟨L, R, e, hL, hR⟩ := HD.out _ (memD hlt2)
          have hX32 := HRD.out y hkx i hi
          have hS : rdTo l y (i + 1) = stN (rdTo l y i) (l.getD i (0, 0)) := rfl
          obtain ⟨X, hX⟩ : ∃ X, X = rdTo l y i := ⟨_, rfl⟩
          rw [← hX] at hX32 hS ⊢
          rw [e] at h0 h1 hS
          simp only at h0 h1
          have HSX : Hid (rdTo l y (i + 1) = if subN L X = true then orN X R else X) := Lib.hid (by rw [hS]; rfl)
          have h32 := two5 hC
          have hand := sub_and ⟨L, by omega⟩ ⟨X, hX32⟩
          simp only at hand
          have HOW : Hid (bits .or .i64 (X : Int) (wrap64 (2 ^ R)) = (orN X R : Int)) := Lib.hid (or_w ⟨X, hX32⟩ ⟨R, by omega⟩)
          have zR : (0 : Int) ≤ (R : Int) := by omega
          have hR5 : R < 5 := by omega
          clear e hX hS
          cases hs : subN L X with
          | true =>
            rw [hs] at hand HSX
            clear hs
            go_upto_region 7 with fail
            refine wp_region_noPanic ?_
            refine wp_region_held_drew (S := (fun w' => w'.cell? ⟨b, o + i * 2, none⟩ = some (.int .i64 (L : Int)) ∧ Below w3.heap.size w3 w')) (by kernel_rfl) ?_ (fun hHeld => ?_)
            · ((try dsimp only); exact ⟨h0, (Below.refl _ _).drew⟩)
            refine wpAnyH_take (i := 0) (v := ?_) rfl (by kernel_rfl) (by kernel_rfl) (by kernel_rfl) (fun _ _ _ h => h) (Or.inl ⟨by rfl, ?_⟩) (by assumption) ?_
            rotate_left
            · (intro w hSw; (try dsimp only at hSw); go_simp; (try with_reducible rfl))
            (try simp only [Act.put, List.getElem_toArray, List.getElem_cons_zero, List.setIfInBounds_toArray, List.set_cons_zero, List.set_cons_succ])
            refine wpAnyH_take (i := 1) (v := ?_) rfl (by kernel_rfl) (by kernel_rfl) (by kernel_rfl) (fun _ _ _ h => h) (Or.inl ⟨by rfl, ?_⟩) (by assumption) ?_
            rotate_left
            · (intro w hSw; (try dsimp only at hSw); go_simp; (try with_reducible rfl))
            (try simp only [Act.put, List.getElem_toArray, List.getElem_cons_succ, List.getElem_cons_zero, List.setIfInBounds_toArray, List.set_cons_zero, List.set_cons_succ])
            refine wpAnyH_take (i := 2) (v := ?_) rfl (by kernel_rfl) (by kernel_rfl) (by kernel_rfl) (fun _ _ _ h => h) (Or.inl ⟨by rfl, ?_⟩) (by assumption) ?_
            rotate_left
            · (intro w hSw; (try dsimp only at hSw); go_simp; (try with_reducible rfl))
            (try simp only [Act.put, List.getElem_toArray, List.getElem_cons_succ, List.getElem_cons_zero, List.setIfInBounds_toArray, List.set_cons_zero, List.set_cons_succ])
            refine wpAnyH_take (i := 3) (v := ?_) rfl (by kernel_rfl) (by kernel_rfl) (by kernel_rfl) (fun _ _ _ h => h) (Or.inl ⟨by rfl, ?_⟩) (by assumption) ?_
            rotate_left
            · (intro w hSw; (try dsimp only at hSw); go_simp; (try with_reducible rfl))
            (try simp only [Act.put, List.getElem_toArray, List.getElem_cons_succ, List.getElem_cons_zero, List.setIfInBounds_toArray, List.set_cons_zero, List.set_cons_succ])
            refine wpAnyH_take (i := 4) (v := ?_) rfl (by kernel_rfl) (by kernel_rfl) (by kernel_rfl) (fun _ _ _ h => h) (Or.inl ⟨by rfl, ?_⟩) (by assumption) ?_
            rotate_left
            · (intro w hSw; (try dsimp only at hSw); go_simp; (try with_reducible rfl))
            (try simp only [Act.put, List.getElem_toArray, List.getElem_cons_succ, List.getElem_cons_zero, List.setIfInBounds_toArray, List.set_cons_zero, List.set_cons_succ])
            refine wpAnyH_take (i := 5) (v := ?_) rfl (by kernel_rfl) (by kernel_rfl) (by kernel_rfl) (fun _ _ _ h => h) (Or.inl ⟨by rfl, ?_⟩) (by assumption) ?_
            rotate_left
            · (intro w hSw; (try dsimp only at hSw); go_simp; (try with_reducible rfl))
            (try simp only [Act.put, List.getElem_toArray, List.getElem_cons_succ, List.getElem_cons_zero, List.setIfInBounds_toArray, List.set_cons_zero, List.set_cons_succ])
            refine wpAnyH_take (i := 6) (v := ?_) rfl (by kernel_rfl) (by kernel_rfl) (by kernel_rfl) (fun _ _ _ h => h) (Or.inl ⟨by rfl, ?_⟩) (by assumption) ?_
            rotate_left
            · (intro w hSw; (try dsimp only at hSw); go_simp; (try with_reducible rfl))
            (try simp only [Act.put, List.getElem_toArray, List.getElem_cons_succ, List.getElem_cons_zero, List.setIfInBounds_toArray, List.set_cons_zero, List.set_cons_succ])
            refine wpAnyH_take (i := 7) (v := ?_) rfl (by kernel_rfl) (by kernel_rfl) (by kernel_rfl) (fun _ _ _ h => h) (Or.inl ⟨by rfl, ?_⟩) (by assumption) ?_
            rotate_left
            · (intro w hSw; (try dsimp only at hSw); go_simp; (try with_reducible rfl))
            (try simp only [Act.put, List.getElem_toArray, List.getElem_cons_succ, List.getElem_cons_zero, List.setIfInBounds_toArray, List.set_cons_zero, List.set_cons_succ])
            refine wpAnyH_take (i := 8) (v := ?_) rfl (by kernel_rfl) (by kernel_rfl) (by kernel_rfl) (fun _ _ _ h => h) (Or.inl ⟨by rfl, ?_⟩) (by assumption) ?_
            rotate_left
            · (intro w hSw; (try dsimp only at hSw); go_simp; (try with_reducible rfl))
            (try simp only [Act.put, List.getElem_toArray, List.getElem_cons_succ, List.getElem_cons_zero, List.setIfInBounds_toArray, List.set_cons_zero, List.set_cons_succ])
            refine wpAnyH_take (i := 9) (v := ?_) rfl (by kernel_rfl) (by kernel_rfl) (by kernel_rfl) (fun _ _ _ h => h) (Or.inl ⟨by rfl, ?_⟩) (by assumption) ?_
            rotate_left
            · (intro w hSw; (try dsimp only at hSw); go_simp; (try with_reducible rfl))
            (try simp only [Act.put, List.getElem_toArray, List.getElem_cons_succ, List.getElem_cons_zero, List.setIfInBounds_toArray, List.set_cons_zero, List.set_cons_succ])
            refine wpAnyH_take (i := 10) (v := ?_) rfl (by kernel_rfl) (by kernel_rfl) (by kernel_rfl) (fun _ _ _ h => h) (Or.inl ⟨by rfl, ?_⟩) (by assumption) ?_
            rotate_left
            · (intro w hSw; (try dsimp only at hSw); go_simp; (try with_reducible rfl))
            (try simp only [Act.put, List.getElem_toArray, List.getElem_cons_succ, List.getElem_cons_zero, List.setIfInBounds_toArray, List.set_cons_zero, List.set_cons_succ])
            refine wpAnyH_take (i := 11) (v := ?_) rfl (by kernel_rfl) (by kernel_rfl) (by kernel_rfl) (fun _ _ _ h => h) (Or.inl ⟨by rfl, ?_⟩) (by assumption) ?_
            rotate_left
            · (intro w hSw; (try dsimp only at hSw); go_simp; (try with_reducible rfl))
            (try simp only [Act.put, List.getElem_toArray, List.getElem_cons_succ, List.getElem_cons_zero, List.setIfInBounds_toArray, List.set_cons_zero, List.set_cons_succ])
            refine wpAnyH_take (i := 12) (v := ?_) rfl (by kernel_rfl) (by kernel_rfl) (by kernel_rfl) (fun _ _ _ h => h) (Or.inl ⟨by rfl, ?_⟩) (by assumption) ?_
            rotate_left
            · (intro w hSw; (try dsimp only at hSw); go_simp; (try with_reducible rfl))
            (try simp only [Act.put, List.getElem_toArray, List.getElem_cons_succ, List.getElem_cons_zero, List.setIfInBounds_toArray, List.set_cons_zero, List.set_cons_succ])
            refine wpAnyH_done (by kernel_rfl) ?_ _
            refine NoPanic.normal ?_
            replace h1 := keep_in h1 hHeld.2
            have HB4 := Lib.hid (HB.out.trans (hHeld.2.mono HB.out.size))
            clear hHeld h0
            go_wp2_with fail
            go_roundw
            case rel => exact ⟨i + 1, by omega, by go_num, by rw [HOW.out, HSX.out, if_pos rfl], HB4⟩
            case measure => simp [intOf]; omega
          | false =>
            rw [hs] at hand HSX
            clear hs
            go_upto_region 7 with fail
            refine wp_region_noPanic ?_
            refine wp_region_held_drew (S := (fun w' => w'.cell? ⟨b, o + i * 2, none⟩ = some (.int .i64 (L : Int)) ∧ Below w3.heap.size w3 w')) (by kernel_rfl) ?_ (fun hHeld => ?_)
            · ((try dsimp only); exact ⟨h0, (Below.refl _ _).drew⟩)
            refine wpAnyH_take (i := 0) (v := ?_) rfl (by kernel_rfl) (by kernel_rfl) (by kernel_rfl) (fun _ _ _ h => h) (Or.inl ⟨by rfl, ?_⟩) (by assumption) ?_
            rotate_left
            · (intro w hSw; (try dsimp only at hSw); go_simp; (try with_reducible rfl))
            (try simp only [Act.put, List.getElem_toArray, List.getElem_cons_zero, List.setIfInBounds_toArray, List.set_cons_zero, List.set_cons_succ])
            refine wpAnyH_take (i := 1) (v := ?_) rfl (by kernel_rfl) (by kernel_rfl) (by kernel_rfl) (fun _ _ _ h => h) (Or.inl ⟨by rfl, ?_⟩) (by assumption) ?_
            rotate_left
            · (intro w hSw; (try dsimp only at hSw); go_simp; (try with_reducible rfl))
            (try simp only [Act.put, List.getElem_toArray, List.getElem_cons_succ, List.getElem_cons_zero, List.setIfInBounds_toArray, List.set_cons_zero, List.set_cons_succ])
            refine wpAnyH_take (i := 2) (v := ?_) rfl (by kernel_rfl) (by kernel_rfl) (by kernel_rfl) (fun _ _ _ h => h) (Or.inl ⟨by rfl, ?_⟩) (by assumption) ?_
            rotate_left
            · (intro w hSw; (try dsimp only at hSw); go_simp; (try with_reducible rfl))
            (try simp only [Act.put, List.getElem_toArray, List.getElem_cons_succ, List.getElem_cons_zero, List.setIfInBounds_toArray, List.set_cons_zero, List.set_cons_succ])
            refine wpAnyH_take (i := 3) (v := ?_) rfl (by kernel_rfl) (by kernel_rfl) (by kernel_rfl) (fun _ _ _ h => h) (Or.inl ⟨by rfl, ?_⟩) (by assumption) ?_
            rotate_left
            · (intro w hSw; (try dsimp only at hSw); go_simp; (try with_reducible rfl))
            (try simp only [Act.put, List.getElem_toArray, List.getElem_cons_succ, List.getElem_cons_zero, List.setIfInBounds_toArray, List.set_cons_zero, List.set_cons_succ])
            refine wpAnyH_take (i := 4) (v := ?_) rfl (by kernel_rfl) (by kernel_rfl) (by kernel_rfl) (fun _ _ _ h => h) (Or.inl ⟨by rfl, ?_⟩) (by assumption) ?_
            rotate_left
            · (intro w hSw; (try dsimp only at hSw); go_simp; (try with_reducible rfl))
            (try simp only [Act.put, List.getElem_toArray, List.getElem_cons_succ, List.getElem_cons_zero, List.setIfInBounds_toArray, List.set_cons_zero, List.set_cons_succ])
            refine wpAnyH_take (i := 5) (v := ?_) rfl (by kernel_rfl) (by kernel_rfl) (by kernel_rfl) (fun _ _ _ h => h) (Or.inl ⟨by rfl, ?_⟩) (by assumption) ?_
            rotate_left
            · (intro w hSw; (try dsimp only at hSw); go_simp; (try with_reducible rfl))
            (try simp only [Act.put, List.getElem_toArray, List.getElem_cons_succ, List.getElem_cons_zero, List.setIfInBounds_toArray, List.set_cons_zero, List.set_cons_succ])
            refine wpAnyH_take (i := 6) (v := ?_) rfl (by kernel_rfl) (by kernel_rfl) (by kernel_rfl) (fun _ _ _ h => h) (Or.inl ⟨by rfl, ?_⟩) (by assumption) ?_
            rotate_left
            · (intro w hSw; (try dsimp only at hSw); go_simp; (try with_reducible rfl))
            (try simp only [Act.put, List.getElem_toArray, List.getElem_cons_succ, List.getElem_cons_zero, List.setIfInBounds_toArray, List.set_cons_zero, List.set_cons_succ])
            refine wpAnyH_take (i := 7) (v := ?_) rfl (by kernel_rfl) (by kernel_rfl) (by kernel_rfl) (fun _ _ _ h => h) (Or.inl ⟨by rfl, ?_⟩) (by assumption) ?_
            rotate_left
            · (intro w hSw; (try dsimp only at hSw); go_simp; (try with_reducible rfl))
            (try simp only [Act.put, List.getElem_toArray, List.getElem_cons_succ, List.getElem_cons_zero, List.setIfInBounds_toArray, List.set_cons_zero, List.set_cons_succ])
            refine wpAnyH_take (i := 8) (v := ?_) rfl (by kernel_rfl) (by kernel_rfl) (by kernel_rfl) (fun _ _ _ h => h) (Or.inl ⟨by rfl, ?_⟩) (by assumption) ?_
            rotate_left
            · (intro w hSw; (try dsimp only at hSw); go_simp; (try with_reducible rfl))
            (try simp only [Act.put, List.getElem_toArray, List.getElem_cons_succ, List.getElem_cons_zero, List.setIfInBounds_toArray, List.set_cons_zero, List.set_cons_succ])
            refine wpAnyH_take (i := 9) (v := ?_) rfl (by kernel_rfl) (by kernel_rfl) (by kernel_rfl) (fun _ _ _ h => h) (Or.inl ⟨by rfl, ?_⟩) (by assumption) ?_
            rotate_left
            · (intro w hSw; (try dsimp only at hSw); go_simp; (try with_reducible rfl))
            (try simp only [Act.put, List.getElem_toArray, List.getElem_cons_succ, List.getElem_cons_zero, List.setIfInBounds_toArray, List.set_cons_zero, List.set_cons_succ])
            refine wpAnyH_take (i := 10) (v := ?_) rfl (by kernel_rfl) (by kernel_rfl) (by kernel_rfl) (fun _ _ _ h => h) (Or.inl ⟨by rfl, ?_⟩) (by assumption) ?_
            rotate_left
            · (intro w hSw; (try dsimp only at hSw); go_simp; (try with_reducible rfl))
            (try simp only [Act.put, List.getElem_toArray, List.getElem_cons_succ, List.getElem_cons_zero, List.setIfInBounds_toArray, List.set_cons_zero, List.set_cons_succ])
            refine wpAnyH_take (i := 11) (v := ?_) rfl (by kernel_rfl) (by kernel_rfl) (by kernel_rfl) (fun _ _ _ h => h) (Or.inl ⟨by rfl, ?_⟩) (by assumption) ?_
            rotate_left
            · (intro w hSw; (try dsimp only at hSw); go_simp; (try with_reducible rfl))
            (try simp only [Act.put, List.getElem_toArray, List.getElem_cons_succ, List.getElem_cons_zero, List.setIfInBounds_toArray, List.set_cons_zero, List.set_cons_succ])
            refine wpAnyH_take (i := 12) (v := ?_) rfl (by kernel_rfl) (by kernel_rfl) (by kernel_rfl) (fun _ _ _ h => h) (Or.inl ⟨by rfl, ?_⟩) (by assumption) ?_
            rotate_left
            · (intro w hSw; (try dsimp only at hSw); go_simp; (try with_reducible rfl))
            (try simp only [Act.put, List.getElem_toArray, List.getElem_cons_succ, List.getElem_cons_zero, List.setIfInBounds_toArray, List.set_cons_zero, List.set_cons_succ])
            refine wpAnyH_done (by kernel_rfl) ?_ _
            refine NoPanic.normal ?_
            have HB4 := Lib.hid (HB.out.trans (hHeld.2.mono HB.out.size))
            clear hHeld h0 h1
            go_wp2_with fail
            go_roundw
            case rel => exact ⟨i + 1, by omega, by go_num, by rw [HSX.out]; rfl, HB4⟩
            case measure => simp [intOf]; omega
        · obtain rfl : i = l.length := by omega
          go_wp2_with fail
          go_roundw
          case rel => exact ⟨k + 1, by omega, by go_num, by rw [HN.out], HB⟩
          case measure => simp [intOf]; omega
    · obtain rfl : k = 6 := by omega
      go_wp2_with fail
      go_ret
      exact ⟨rfl, HB.out⟩
theorem preserving13_any (v vp : Value) (n : Int) (l : List (Int × Int)) (p : List Int) (w : World) (hr : ReadD w v l) (hl : l.length ≤ 1048576) (hrp : ReadI w vp p) (hlp : p.length ≤ 1048576) :
    Calls Try.prog 34 #[.int .i64 n, v, vp] w fun e w' => e = .returned (.bool (psB n l p)) ∧ Below w.heap.size w w' := by
  have HAD := Lib.hid (areDeps10_any v n l w hr hl)
  cases ha : arD n l with
  | false =>
    have HE : Hid (psB n l p = false) := Lib.hid (by unfold psB; rw [ha]; rfl)
    rw [ha] at HAD
    rw [HE.out]
    obtain ⟨a, cap, rfl, -⟩ := hr
    obtain ⟨ap, capp, rfl, -⟩ := hrp
    clear ha
    go_enter Try.func34, Try.ntmps34
    go_wp2_with fail
    refine HAD.out.mono ?_
    rintro e w2 ⟨rfl, b2⟩
    go_wp2_with fail
    go_ret
    exact ⟨rfl, b2⟩
  | true =>
    have HRP := Lib.hid (fun w' (hb : Below w.heap.size w w') => hrp.kept hb)
    have HRD := Lib.hid (fun w' (hb : Below w.heap.size w w') => hr.kept hb)
    have HPJ := Lib.hid (fun s w' (hb : Below w.heap.size w w') => projectDeps11_any v n s l w' (hr.kept hb) hl)
    have HIA := Lib.hid (fun s w' => isA_any n s w')
    rw [ha] at HAD
    obtain ⟨a, cap, rfl, -⟩ := hr
    obtain ⟨ap, capp, rfl, -⟩ := hrp
    go_enter Try.func34, Try.ntmps34
    go_wp2_with fail
    refine HAD.out.mono ?_
    rintro e w2 ⟨rfl, b2⟩
    have HB2 := Lib.hid (b2.alloc b2.size (.cells #[] 44))
    have HO2 : Hid (OwnD (w2.alloc (.cells #[] 44)) w.heap.size (.slice (some ⟨w2.heap.size, 0, none⟩) 0 0) []) := Lib.hid (World.ownsRow_made w2 #[] 0 b2.size (by unfold maxLen; omega) (by rfl))
    clear b2
    go_wp2_with fail
    have HAN : Hid (∀ k, alTo n l p (k + 1) = alTo n l p k ++ pjL n l (p.getD k 0)) := Lib.hid (fun k => rfl)
    have HAL := Lib.hid (fun k => alTo_len n l p k)
    have HQL := Lib.hid (fun s => pjL_len n l s)
    have HE : Hid (psB n l p = (p.all (isA n) && l.all (fun d => bitB (clo (alTo n l p p.length) d.1.toNat) d.2.toNat))) := Lib.hid (by unfold psB; rw [ha, Bool.true_and])
    obtain ⟨i0, hi, hz0, hz1, hz2⟩ := info_parts infoDp
    have HI : Hid (_ ∧ _ ∧ _ ∧ _) := Lib.hid ⟨hi, hz0, hz1, hz2⟩
    clear hi hz0 hz1 hz2
    go_loopw [7, 8] (fun av kv wr => ∃ k : Nat, k ≤ p.length ∧ kv = .int .i64 (k : Int) ∧ Hid ((p.take k).all (isA n) = true) ∧ Hid (OwnD wr w.heap.size av (alTo n l p k)) ∧ Hid (Below w.heap.size w wr)) (fun _ kv _ => p.length - (intOf kv).toNat)
    case atStart => exact ⟨0, by omega, rfl, Lib.hid rfl, HO2, HB2⟩
    case round =>
      clear HO2 HB2
      obtain ⟨k, hk, rfl, HALL, HO, HB⟩ := hrel
      obtain ⟨w5, hw⟩ : ∃ w', w' = wr := ⟨_, rfl⟩
      rw [← hw] at HO HB ⊢
      clear hw
      have z0 : (0 : Int) ≤ (k : Int) := by omega
      by_cases hlt : k < p.length
      · have z1 : (k : Int) < (p.length : Int) := by omega
        obtain ⟨xa, hxa, hx⟩ := readI_at13 (HRP.out w5 HB.out) hlt
        subst hxa
        have HMP : Hid (p.getD k 0 ∈ p) := Lib.hid (mem_getD13 hlt)
        have HTK : Hid (p.take (k + 1) = p.take k ++ [p.getD k 0]) := Lib.hid (take_succ_getD p 0 k hlt)
        have HNX := Lib.hid (HAN.out k)
        obtain ⟨y, hy⟩ : ∃ y, y = p.getD k 0 := ⟨_, rfl⟩
        rw [← hy] at hx HMP HTK HNX
        have HAY := Lib.hid (HIA.out y)
        have HPY := Lib.hid (HPJ.out y)
        have hly := HQL.out y
        have hal := HAL.out k
        clear hy
        cases hq : isA n y with
        | false =>
          rw [hq] at HAY
          have HF : Hid (psB n l p = false) := Lib.hid (by rw [HE.out, List.all_eq_false.2 ⟨y, HMP.out, by rw [hq]; decide⟩]; rfl)
          clear hq
          go_wp2_with fail
          refine (HAY.out _).mono ?_
          rintro e w6 ⟨rfl, rfl⟩
          go_wp2_with fail
          go_ret
          exact ⟨by rw [HF.out]; rfl, HB.out⟩
        | true =>
          rw [hq] at HAY
          have HN : Hid ((p.take (k + 1)).all (isA n) = true) := Lib.hid (by rw [HTK.out, List.all_append, HALL.out]; simp [hq])
          clear hq
          go_wp2_with fail
          refine (HAY.out _).mono ?_
          rintro e w6 ⟨rfl, rfl⟩
          go_wp2_with fail
          refine (HPY.out _ HB.out).mono ?_
          rintro e w7 ⟨vq, rfl, oq, b7⟩
          have HNW := Lib.hid (newsDn13 oq.read)
          have HO7 := Lib.hid (HO.out.below b7 (fun k hk => (HO.out.lt k hk).2))
          have HB7 := Lib.hid (HB.out.trans (b7.mono HB.out.size))
          obtain ⟨aq, cq, hvq, -⟩ := oq.read
          subst hvq
          clear oq b7 hx
          go_wp2_with (at_builtin; refine wpList_append_all rfl _ _ 26 rfl w.heap.size 44 i0 (.agg #[.int .i64 0, .int .i64 0]) 2 16 Try.underlying26 HI.out.1 HI.out.2.1 HI.out.2.2.1 HI.out.2.2.2 rfl (by decide) _ _ _ rfl HO7.out aq (pjL n l y).length cq (depsV (pjL n l y)) rfl (depsV_len _) (HNW.out _ _ _ rfl) (depsV_one _) (by unfold maxLen; omega) (by omega) HB7.out.size ?_; intro v8 w8 hown8 hgrow8; have HO8 := Lib.hid (OwnD.app13 hown8); have HB8 := Lib.hid (HB7.out.grown hgrow8 HB7.out.size (fun k hk => (HO7.out.lt k hk).1)); clear hown8 hgrow8)
          go_roundw
          case rel => exact ⟨k + 1, by omega, by go_num, HN, Lib.hid (by rw [HNX.out]; exact HO8.out), HB8⟩
          case measure => simp [intOf]; omega
      · obtain rfl : k = p.length := by omega
        have HPT : Hid (p.all (isA n) = true) := Lib.hid (by have := HALL.out; rwa [List.take_length] at this)
        obtain ⟨C, rfl, hC1, hC, -, hDN⟩ := arD_n ha
        have hal := HAL.out p.length
        have HCB := Lib.hid (fun va w' (hv : ReadD w' va (alTo (C : Int) l p p.length)) (L : Nat) (hL : L < 32) => close10_big C hC va (alTo (C : Int) l p p.length) (alTo_deps p.length) L hL w' hv (by omega))
        have HKB := Lib.hid (fun (L : Nat) (hL : L < 32) => clo_lt13 hC (alTo_deps (C := C) (l := l) (ps := p) p.length) hL)
        have HEE : Hid (psB (C : Int) l p = l.all (fun d => bitB (clo (alTo (C : Int) l p p.length) d.1.toNat) d.2.toNat)) := Lib.hid (by rw [HE.out, HPT.out, Bool.true_and])
        have HDP := Lib.hid (fun d (h : d ∈ l) => hDN d h)
        have h32 := two5 hC
        obtain ⟨AL, hAL⟩ : ∃ AL, AL = alTo (C : Int) l p p.length := ⟨_, rfl⟩
        rw [← hAL] at HCB HKB HO hal HEE
        have HRA := Lib.hid HO.out.read
        obtain ⟨aA, cA, hav, -⟩ := HO.out.read
        subst hav
        clear hAL HO HE HPT HALL HAL HAN HQL HPJ HIA hDN ha
        go_wp2_with fail
        go_loopw [9] (fun iv wr => ∃ i : Nat, i ≤ l.length ∧ iv = .int .i64 (i : Int) ∧ Hid ((l.take i).all (fun d => bitB (clo AL d.1.toNat) d.2.toNat) = true) ∧ Hid (Below w5.heap.size w5 wr)) (fun iv _ => l.length - (intOf iv).toNat)
        case atStart => exact ⟨0, by omega, rfl, Lib.hid rfl, Lib.hid (Below.refl _ _)⟩
        case round =>
          obtain ⟨i, hi, rfl, HALL, HW⟩ := hrel
          obtain ⟨w6, hw⟩ : ∃ w', w' = wr := ⟨_, rfl⟩
          rw [← hw] at HW ⊢
          clear hw
          have y0 : (0 : Int) ≤ (i : Int) := by omega
          by_cases hli : i < l.length
          · have y1 : (i : Int) < (l.length : Int) := by omega
            have HBW := Lib.hid (HB.out.trans (HW.out.mono HB.out.size))
            obtain ⟨bd, od, hbd, h0, h1⟩ := readD_cells (HRD.out w6 HBW.out) hli
            subst hbd
            have HM : Hid (l.getD i (0, 0) ∈ l) := Lib.hid (memD hli)
            have HTK : Hid (l.take (i + 1) = l.take i ++ [l.getD i (0, 0)]) := Lib.hid (take_succ_getD l (0, 0) i hli)
            obtain ⟨L, R, hd, hL, hR⟩ := HDP.out _ HM.out
            rw [hd] at h0 h1 HTK HM
            simp only at h0 h1
            have HC := Lib.hid (fun w' (hb : Below w6.heap.size w6 w') => HCB.out _ w' ((HRA.out.kept HW.out).kept hb) L (by omega))
            have hbz := bit_zero11 (clo AL L) R
            have hR0 : (0 : Int) ≤ (R : Int) := by omega
            have hR64 : R ≤ 64 := by omega
            have HBT : Hid ((fun d : Int × Int => bitB (clo AL d.1.toNat) d.2.toNat) ((L : Int), (R : Int)) = bitB (clo AL L) R) := Lib.hid rfl
            obtain ⟨K, hK⟩ : ∃ K, K = clo AL L := ⟨_, rfl⟩
            rw [← hK] at HC hbz HBT
            obtain ⟨bp, hbp⟩ : ∃ bp, bp = bitB K R := ⟨_, rfl⟩
            rw [← hbp] at hbz HBT
            have HN : Hid (bp = true → (l.take (i + 1)).all (fun d => bitB (clo AL d.1.toNat) d.2.toNat) = true) := Lib.hid (fun h => by
              rw [HTK.out, List.all_append, HALL.out]
              show (true && (bitB (clo AL L) R && true)) = true
              rw [← hK, ← hbp, h]; rfl)
            have HF : Hid (bp = false → l.all (fun d => bitB (clo AL d.1.toNat) d.2.toNat) = false) := Lib.hid (fun h => List.all_eq_false.2 ⟨_, HM.out, by
              show ¬ (bitB (clo AL L) R = true)
              rw [← hK, ← hbp, h]; decide⟩)
            clear hK hbp hd HALL HTK HBT
            go_upto_region 13 with fail
            go_cut [57] from 43 to 57 (fun s57 wx => s57 = .bool (!bp) ∧ Hid (Below w5.heap.size w5 wx))
            case first =>
              refine wp_region_noPanic ?_
              refine wp_region_held_drew (S := (fun w' => (w'.cell? ⟨bd, od + i * 2, none⟩ = some (.int .i64 (L : Int)) ∧ w'.cell? ⟨bd, od + i * 2 + 1, none⟩ = some (.int .i64 (R : Int))) ∧ Below w6.heap.size w6 w')) (by kernel_rfl) ?_ (fun hHeld => ?_)
              · ((try dsimp only); (first | exact ⟨⟨keep_in hHeld.1.1 b91, keep_in hHeld.1.2 b91⟩, hHeld.2.trans (b91.mono hHeld.2.size)⟩ | exact ⟨⟨h0, h1⟩, (Below.refl _ _).drew⟩))
              refine wpAnyH_take (i := 0) (v := ?_) rfl (by kernel_rfl) (by kernel_rfl) (by kernel_rfl) (fun _ _ _ h => h) (Or.inl ⟨by rfl, ?_⟩) (by assumption) ?_
              rotate_left
              · (intro w hSw; (try dsimp only at hSw); go_simp; (try with_reducible rfl))
              (try simp only [Act.put, List.getElem_toArray, List.getElem_cons_zero, List.setIfInBounds_toArray, List.set_cons_zero, List.set_cons_succ])
              refine wpAnyH_take (i := 1) (v := ?_) rfl (by kernel_rfl) (by kernel_rfl) (by kernel_rfl) (fun _ _ _ h => h) (Or.inl ⟨by rfl, ?_⟩) (by assumption) ?_
              rotate_left
              · (intro w hSw; (try dsimp only at hSw); go_simp; (try with_reducible rfl))
              (try simp only [Act.put, List.getElem_toArray, List.getElem_cons_succ, List.getElem_cons_zero, List.setIfInBounds_toArray, List.set_cons_zero, List.set_cons_succ])
              refine wpAnyH_take (i := 2) (v := ?_) rfl (by kernel_rfl) (by kernel_rfl) (by kernel_rfl) (fun _ _ _ h => h) (Or.inl ⟨by rfl, ?_⟩) (by assumption) ?_
              rotate_left
              · (intro w hSw; (try dsimp only at hSw); go_simp; (try with_reducible rfl))
              (try simp only [Act.put, List.getElem_toArray, List.getElem_cons_succ, List.getElem_cons_zero, List.setIfInBounds_toArray, List.set_cons_zero, List.set_cons_succ])
              refine wpAnyH_take (i := 3) (v := ?_) rfl (by kernel_rfl) (by kernel_rfl) (by kernel_rfl) (fun _ _ _ h => h) (Or.inl ⟨by rfl, ?_⟩) (by assumption) ?_
              rotate_left
              · (intro w hSw; (try dsimp only at hSw); go_simp; (try with_reducible rfl))
              (try simp only [Act.put, List.getElem_toArray, List.getElem_cons_succ, List.getElem_cons_zero, List.setIfInBounds_toArray, List.set_cons_zero, List.set_cons_succ])
              refine wpAnyH_take (i := 4) (v := ?_) rfl (by kernel_rfl) (by kernel_rfl) (by kernel_rfl) (fun _ _ _ h => h) (Or.inl ⟨by rfl, ?_⟩) (by assumption) ?_
              rotate_left
              · (intro w hSw; (try dsimp only at hSw); go_simp; (try with_reducible rfl))
              (try simp only [Act.put, List.getElem_toArray, List.getElem_cons_succ, List.getElem_cons_zero, List.setIfInBounds_toArray, List.set_cons_zero, List.set_cons_succ])
              refine wpAnyH_take (i := 5) (v := ?_) rfl (by kernel_rfl) (by kernel_rfl) (by kernel_rfl) (fun _ _ _ h => h) (Or.inl ⟨by rfl, ?_⟩) (by assumption) ?_
              rotate_left
              · (intro w hSw; (try dsimp only at hSw); go_simp; (try with_reducible rfl))
              (try simp only [Act.put, List.getElem_toArray, List.getElem_cons_succ, List.getElem_cons_zero, List.setIfInBounds_toArray, List.set_cons_zero, List.set_cons_succ])
              refine wpAnyH_take (i := 7) (v := ?_) rfl (by kernel_rfl) (by kernel_rfl) (by kernel_rfl) (fun _ _ _ h => h) (Or.inl ⟨by rfl, ?_⟩) (by assumption) ?_
              rotate_left
              · (intro w hSw; (try dsimp only at hSw); go_simp; (try with_reducible rfl))
              (try simp only [Act.put, List.getElem_toArray, List.getElem_cons_succ, List.getElem_cons_zero, List.setIfInBounds_toArray, List.set_cons_zero, List.set_cons_succ])
              refine wpAnyH_take (i := 8) (v := ?_) rfl (by kernel_rfl) (by kernel_rfl) (by kernel_rfl) (fun _ _ _ h => h) (Or.inl ⟨by rfl, ?_⟩) (by assumption) ?_
              rotate_left
              · (intro w hSw; (try dsimp only at hSw); go_simp; (try with_reducible rfl))
              (try simp only [Act.put, List.getElem_toArray, List.getElem_cons_succ, List.getElem_cons_zero, List.setIfInBounds_toArray, List.set_cons_zero, List.set_cons_succ])
              refine wpAnyH_take (i := 9) (v := ?_) rfl (by kernel_rfl) (by kernel_rfl) (by kernel_rfl) (fun _ _ _ h => h) (Or.inl ⟨by rfl, ?_⟩) (by assumption) ?_
              rotate_left
              · (intro w hSw; (try dsimp only at hSw); go_simp; (try with_reducible rfl))
              (try simp only [Act.put, List.getElem_toArray, List.getElem_cons_succ, List.getElem_cons_zero, List.setIfInBounds_toArray, List.set_cons_zero, List.set_cons_succ])
              refine wpAnyH_take (i := 10) (v := ?_) rfl (by kernel_rfl) (by kernel_rfl) (by kernel_rfl) (fun _ _ _ h => h) (Or.inl ⟨by rfl, ?_⟩) (by assumption) ?_
              rotate_left
              · (intro w hSw; (try dsimp only at hSw); go_simp; (try with_reducible rfl))
              (try simp only [Act.put, List.getElem_toArray, List.getElem_cons_succ, List.getElem_cons_zero, List.setIfInBounds_toArray, List.set_cons_zero, List.set_cons_succ])
              refine wpAnyH_take (i := 11) (v := ?_) rfl (by kernel_rfl) (by kernel_rfl) (by kernel_rfl) (fun _ _ _ h => h) (Or.inl ⟨by rfl, ?_⟩) (by assumption) ?_
              rotate_left
              · (intro w hSw; (try dsimp only at hSw); go_simp; (try with_reducible rfl))
              (try simp only [Act.put, List.getElem_toArray, List.getElem_cons_succ, List.getElem_cons_zero, List.setIfInBounds_toArray, List.set_cons_zero, List.set_cons_succ])
              refine wpAnyH_ready (rs := [6]) (by kernel_rfl) (by simp) (AllReadyH.cons rfl (fun K hK => ?_) AllReadyH.nil)
              (first | ((go_at_call 38; refine (HC.out _ hHeld.2).mono ?_; rintro e w91 ⟨rfl, b91⟩)) | (go_simp; (go_at_call 38; refine (HC.out _ hHeld.2).mono ?_; rintro e w91 ⟨rfl, b91⟩)))
              (try (go_wp2_with fail))
              refine hK.out _ _ ?_ (fun hHeld => ?_)
              · ((try dsimp only); (first | exact ⟨⟨keep_in hHeld.1.1 b91, keep_in hHeld.1.2 b91⟩, hHeld.2.trans (b91.mono hHeld.2.size)⟩ | exact ⟨⟨h0, h1⟩, (Below.refl _ _).drew⟩))
              clear hK K
              (try simp only [Act.put, List.getElem_toArray, List.getElem_cons_succ, List.getElem_cons_zero, List.setIfInBounds_toArray, List.set_cons_zero, List.set_cons_succ])
              refine wpAnyH_take (i := 12) (v := ?_) rfl (by kernel_rfl) (by kernel_rfl) (by kernel_rfl) (fun _ _ _ h => h) (Or.inl ⟨by rfl, ?_⟩) (by assumption) ?_
              rotate_left
              · (intro w hSw; (try dsimp only at hSw); go_simp; (try with_reducible rfl))
              (try simp only [Act.put, List.getElem_toArray, List.getElem_cons_succ, List.getElem_cons_zero, List.setIfInBounds_toArray, List.set_cons_zero, List.set_cons_succ])
              refine wpAnyH_take (i := 13) (v := ?_) rfl (by kernel_rfl) (by kernel_rfl) (by kernel_rfl) (fun _ _ _ h => h) (Or.inl ⟨by rfl, ?_⟩) (by assumption) ?_
              rotate_left
              · (intro w hSw; (try dsimp only at hSw); go_simp; (try with_reducible rfl))
              (try simp only [Act.put, List.getElem_toArray, List.getElem_cons_succ, List.getElem_cons_zero, List.setIfInBounds_toArray, List.set_cons_zero, List.set_cons_succ])
              refine wpAnyH_take (i := 14) (v := ?_) rfl (by kernel_rfl) (by kernel_rfl) (by kernel_rfl) (fun _ _ _ h => h) (Or.inl ⟨by rfl, ?_⟩) (by assumption) ?_
              rotate_left
              · (intro w hSw; (try dsimp only at hSw); go_simp; (try with_reducible rfl))
              (try simp only [Act.put, List.getElem_toArray, List.getElem_cons_succ, List.getElem_cons_zero, List.setIfInBounds_toArray, List.set_cons_zero, List.set_cons_succ])
              refine wpAnyH_done (by kernel_rfl) ?_ _
              refine NoPanic.normal ?_
              have HWX := Lib.hid (HW.out.trans (hHeld.2.mono HW.out.size))
              clear hHeld h0 h1
              go_wp2_with fail
              go_meet
              exact ⟨rfl, HWX⟩
            case rest =>
              obtain ⟨rfl, HWX⟩ := hcut
              obtain ⟨w7, hw⟩ : ∃ w', w' = wc := ⟨_, rfl⟩
              rw [← hw] at HWX ⊢
              clear hw h0 h1 HC hbz
              cases bp with
              | true =>
                have HNN := Lib.hid (HN.out rfl)
                clear HN HF
                go_wp2_with fail
                go_roundw
                case rel => exact ⟨i + 1, by omega, by go_num, HNN, HWX⟩
                case measure => simp [intOf]; omega
              | false =>
                have HFF := Lib.hid (HF.out rfl)
                have HBE := Lib.hid (HB.out.trans (HWX.out.mono HB.out.size))
                clear HN HF
                go_wp2_with fail
                go_ret
                exact ⟨by rw [HEE.out, HFF.out]; rfl, HBE.out⟩
          · obtain rfl : i = l.length := by omega
            have HN : Hid (l.all (fun d => bitB (clo AL d.1.toNat) d.2.toNat) = true) := Lib.hid (by have := HALL.out; rwa [List.take_length] at this)
            have HBE := Lib.hid (HB.out.trans (HW.out.mono HB.out.size))
            go_wp2_with fail
            go_ret
            exact ⟨by rw [HEE.out, HN.out]; rfl, HBE.out⟩
end
end Go.Proofs.Ytcgkfbjdlhapkaa
