/- Texts of this claim, merged: ExS, AxF, AxI. Conditions: as stated. -/
import Derived.Test.YtnbjcelfdppkcadGreatXz8
import Derived.Test.YtnbjcelfdppkcadGreatXz13
import Derived.Test.YtnbjcelfdppkcadGreatXz3
import Derived.Deep.RegionLaw
import Derived.Deep.CutBlock
import Derived.Test.YtnbjcelfdppkcadGreatExAm
import Derived.Test.YtnbjcelfdppkcadGreatXz34
import Derived.Lib.AppendZerosOnto
import Derived.Laws.CopyOwn
namespace Go.Proofs.YtnbjcelfdppkcadGreat
open Go.RowKit

/-- Whether all of a list hold in a table with a mode. -/
noncomputable def satB (c : Int) (ll : List (List Int)) (m : Int) (l : List (Int × Int)) : Bool := l.all (fun d => holdsD c ll m d.1 d.2) && fineT c ll m
section
set_option maxRecDepth 20000
set_option maxHeartbeats 3200000
theorem satisfiesAll12_any (c m : Int) (v vl : Value) (ll : List (List Int)) (l : List (Int × Int)) (w : World) (hr : ReadSS w v ll) (hl : ll.length ≤ 1048576) (ht : ∀ i, i < ll.length → (ll.getD i []).length ≤ 1048576) (hrd : ReadD w vl l) (hld : l.length ≤ 1048576) :
    Calls Tryz.prog 16 #[.agg #[.int .i64 c, v], .int .i64 m, vl] w fun e w' => e = .returned (.bool (satB c ll m l)) ∧ Below w.heap.size w w' := by
  have hb1 := (Below.refl w.heap.size w).alloc (Nat.le_refl _) (.cells #[.int .i64 c, v] 29)
  obtain ⟨c0, c1⟩ := zero2 w 29 (.int .i64 c) v
  have HHD := Lib.hid (fun d0 d1 w' (hb : Below w.heap.size w w') => holdsDep_any c m d0 d1 v ll w' (hr.kept hb) hl ht)
  have HFT := Lib.hid (fun w' (hb : Below w.heap.size w w') => l4Fine_any c m v ll w' (hr.kept hb) hl ht)
  have HRD := Lib.hid (fun w' (hb : Below w.heap.size w w') => hrd.kept hb)
  have HB1 := Lib.hid hb1
  have HX1 := Lib.hid (And.intro c0 c1)
  obtain ⟨a, cap, rfl, -⟩ := hr
  obtain ⟨al, capl, rfl, -⟩ := hrd
  clear hb1 c0 c1 ht
  go_enter Tryz.func16, Tryz.ntmps16
  go_wp2_with fail
  go_loopw [7] (fun iv wr => ∃ i : Nat, i ≤ l.length ∧ iv = .int .i64 (i : Int) ∧ Hid ((l.take i).all (fun d => holdsD c ll m d.1 d.2) = true) ∧ Hid (wr.cell? ⟨w.heap.size, 0, none⟩ = some (.int .i64 c) ∧ wr.cell? ⟨w.heap.size, 1, none⟩ = some (.slice a ll.length cap)) ∧ Hid (Below w.heap.size w wr)) (fun iv _ => l.length - (intOf iv).toNat)
  case atStart => exact ⟨0, by omega, rfl, Lib.hid rfl, HX1, HB1⟩
  case round =>
    clear HX1 HB1
    obtain ⟨i, hi, rfl, HALL, HX, HB⟩ := hrel
    obtain ⟨w3, hw⟩ : ∃ w', w' = wr := ⟨_, rfl⟩
    rw [← hw] at HX HB ⊢
    clear hw
    obtain ⟨c0, c1⟩ := HX.out
    by_cases hlt : i < l.length
    · have z0 : (0 : Int) ≤ (i : Int) := by omega
      have z1 : (i : Int) < (l.length : Int) := by omega
      obtain ⟨b, o, rfl, h0, h1⟩ := readD_cells (HRD.out w3 HB.out) hlt
      have HS : Hid (l.take (i + 1) = l.take i ++ [l.getD i (0, 0)]) := Lib.hid (take_succ_getD l (0, 0) i hlt)
      have HM : Hid (l.getD i (0, 0) ∈ l) := Lib.hid (memD hlt)
      obtain ⟨⟨d0, d1⟩, hd⟩ : ∃ d, d = l.getD i (0, 0) := ⟨_, rfl⟩
      rw [← hd] at h0 h1 HS HM
      simp only at h0 h1
      have HH := Lib.hid (HHD.out d0 d1)
      clear hd
      cases hq : holdsD c ll m d0 d1 with
      | true =>
        rw [hq] at HH
        have HALL' : Hid ((l.take (i + 1)).all (fun d => holdsD c ll m d.1 d.2) = true) := Lib.hid (by rw [HS.out, List.all_append, HALL.out]; simp [hq])
        clear hq
        go_upto_region 4 with fail
        refine wp_region_noPanic ?_
        refine wp_region_held_drew (S := (fun w' => ((w'.cell? ⟨w.heap.size, 0, none⟩ = some (.int .i64 c) ∧ w'.cell? ⟨w.heap.size, 1, none⟩ = some (.slice a ll.length cap)) ∧ w'.cell? ⟨b, o + i * 2, none⟩ = some (.int .i64 d0) ∧ w'.cell? ⟨b, o + i * 2 + 1, none⟩ = some (.int .i64 d1)) ∧ Below w3.heap.size w3 w')) (by kernel_rfl) ?_ (fun hHeld => ?_)
        · ((try dsimp only); (first | exact ⟨⟨⟨keep_in hHeld.1.1.1 b91, keep_in hHeld.1.1.2 b91⟩, keep_in hHeld.1.2.1 b91, keep_in hHeld.1.2.2 b91⟩, hHeld.2.trans (b91.mono hHeld.2.size)⟩ | exact ⟨⟨⟨c0, c1⟩, h0, h1⟩, (Below.refl _ _).drew⟩))
        refine wpAnyH_take (i := 0) (v := ?_) rfl (by kernel_rfl) (by kernel_rfl) (by kernel_rfl) (fun _ _ _ h => h) (Or.inl ⟨by rfl, ?_⟩) (by assumption) ?_
        rotate_left
        · (intro w hSw; (try dsimp only at hSw); go_simp; (try with_reducible rfl))
        (try simp only [Act.put, List.getElem_toArray, List.getElem_cons_zero, List.setIfInBounds_toArray, List.set_cons_zero, List.set_cons_succ])
        refine wpAnyH_take (i := 1) (v := ?_) rfl (by kernel_rfl) (by kernel_rfl) (by kernel_rfl) (fun _ _ _ h => h) (Or.inl ⟨by rfl, ?_⟩) (by assumption) ?_
        rotate_left
        · (intro w hSw; (try dsimp only at hSw); go_simp; (try with_reducible rfl))
        (try simp only [Act.put, List.getElem_toArray, List.getElem_cons_succ, List.getElem_cons_zero, List.setIfInBounds_toArray, List.set_cons_zero, List.set_cons_succ])
        refine wpAnyH_take (i := 2) (v := ?_) rfl (by kernel_rfl) (by kernel_rfl) (by kernel_rfl) (fun _ _ _ h => h) (Or.inl ⟨by rfl, ?_⟩) (by assumption) ?_
        rotate_left
        · (intro w hSw; (try dsimp only at hSw); go_simp; (try with_reducible rfl))
        (try simp only [Act.put, List.getElem_toArray, List.getElem_cons_succ, List.getElem_cons_zero, List.setIfInBounds_toArray, List.set_cons_zero, List.set_cons_succ])
        refine wpAnyH_take (i := 3) (v := ?_) rfl (by kernel_rfl) (by kernel_rfl) (by kernel_rfl) (fun _ _ _ h => h) (Or.inl ⟨by rfl, ?_⟩) (by assumption) ?_
        rotate_left
        · (intro w hSw; (try dsimp only at hSw); go_simp; (try with_reducible rfl))
        (try simp only [Act.put, List.getElem_toArray, List.getElem_cons_succ, List.getElem_cons_zero, List.setIfInBounds_toArray, List.set_cons_zero, List.set_cons_succ])
        refine wpAnyH_take (i := 4) (v := ?_) rfl (by kernel_rfl) (by kernel_rfl) (by kernel_rfl) (fun _ _ _ h => h) (Or.inl ⟨by rfl, ?_⟩) (by assumption) ?_
        rotate_left
        · (intro w hSw; (try dsimp only at hSw); go_simp; (try with_reducible rfl))
        (try simp only [Act.put, List.getElem_toArray, List.getElem_cons_succ, List.getElem_cons_zero, List.setIfInBounds_toArray, List.set_cons_zero, List.set_cons_succ])
        refine wpAnyH_take (i := 5) (v := ?_) rfl (by kernel_rfl) (by kernel_rfl) (by kernel_rfl) (fun _ _ _ h => h) (Or.inl ⟨by rfl, ?_⟩) (by assumption) ?_
        rotate_left
        · (intro w hSw; (try dsimp only at hSw); go_simp; (try with_reducible rfl))
        (try simp only [Act.put, List.getElem_toArray, List.getElem_cons_succ, List.getElem_cons_zero, List.setIfInBounds_toArray, List.set_cons_zero, List.set_cons_succ])
        refine wpAnyH_ready (rs := [6]) (by kernel_rfl) (by simp) (AllReadyH.cons rfl (fun K hK => ?_) AllReadyH.nil)
        (first | ((go_at_call 10; refine (HH.out _ (HB.out.trans (hHeld.2.mono HB.out.size))).mono ?_; rintro e w91 ⟨rfl, b91⟩)) | (go_simp; (go_at_call 10; refine (HH.out _ (HB.out.trans (hHeld.2.mono HB.out.size))).mono ?_; rintro e w91 ⟨rfl, b91⟩)))
        (try (go_wp2_with fail))
        refine hK.out _ _ ?_ (fun hHeld => ?_)
        · ((try dsimp only); (first | exact ⟨⟨⟨keep_in hHeld.1.1.1 b91, keep_in hHeld.1.1.2 b91⟩, keep_in hHeld.1.2.1 b91, keep_in hHeld.1.2.2 b91⟩, hHeld.2.trans (b91.mono hHeld.2.size)⟩ | exact ⟨⟨⟨c0, c1⟩, h0, h1⟩, (Below.refl _ _).drew⟩))
        clear hK K
        (try simp only [Act.put, List.getElem_toArray, List.getElem_cons_succ, List.getElem_cons_zero, List.setIfInBounds_toArray, List.set_cons_zero, List.set_cons_succ])
        refine wpAnyH_take (i := 7) (v := ?_) rfl (by kernel_rfl) (by kernel_rfl) (by kernel_rfl) (fun _ _ _ h => h) (Or.inl ⟨by rfl, ?_⟩) (by assumption) ?_
        rotate_left
        · (intro w hSw; (try dsimp only at hSw); go_simp; (try with_reducible rfl))
        (try simp only [Act.put, List.getElem_toArray, List.getElem_cons_succ, List.getElem_cons_zero, List.setIfInBounds_toArray, List.set_cons_zero, List.set_cons_succ])
        refine wpAnyH_done (by kernel_rfl) ?_ _
        refine NoPanic.normal ?_
        obtain ⟨w5, hw5⟩ : ∃ w', w' = w91 := ⟨_, rfl⟩
        rw [← hw5] at hHeld ⊢
        have b5 := hHeld.2
        clear hHeld b91 hw5 h0 h1 c0 c1
        have HB5 := Lib.hid (HB.out.trans (b5.mono HB.out.size))
        have HX5 := Lib.hid (And.intro (keep_in HX.out.1 b5) (keep_in HX.out.2 b5))
        clear b5
        go_wp2_with fail
        go_roundw
        case rel => exact ⟨i + 1, by omega, by go_num, HALL', HX5, HB5⟩
        case measure => simp [intOf]; omega
      | false =>
        rw [hq] at HH
        have HE : Hid (satB c ll m l = false) := Lib.hid (by
          unfold satB
          rw [Bool.and_eq_false_iff]
          left
          rw [List.all_eq_false]
          exact ⟨_, HM.out, by rw [hq]; decide⟩)
        clear hq
        go_upto_region 4 with fail
        refine wp_region_noPanic ?_
        refine wp_region_held_drew (S := (fun w' => ((w'.cell? ⟨w.heap.size, 0, none⟩ = some (.int .i64 c) ∧ w'.cell? ⟨w.heap.size, 1, none⟩ = some (.slice a ll.length cap)) ∧ w'.cell? ⟨b, o + i * 2, none⟩ = some (.int .i64 d0) ∧ w'.cell? ⟨b, o + i * 2 + 1, none⟩ = some (.int .i64 d1)) ∧ Below w3.heap.size w3 w')) (by kernel_rfl) ?_ (fun hHeld => ?_)
        · ((try dsimp only); (first | exact ⟨⟨⟨keep_in hHeld.1.1.1 b91, keep_in hHeld.1.1.2 b91⟩, keep_in hHeld.1.2.1 b91, keep_in hHeld.1.2.2 b91⟩, hHeld.2.trans (b91.mono hHeld.2.size)⟩ | exact ⟨⟨⟨c0, c1⟩, h0, h1⟩, (Below.refl _ _).drew⟩))
        refine wpAnyH_take (i := 0) (v := ?_) rfl (by kernel_rfl) (by kernel_rfl) (by kernel_rfl) (fun _ _ _ h => h) (Or.inl ⟨by rfl, ?_⟩) (by assumption) ?_
        rotate_left
        · (intro w hSw; (try dsimp only at hSw); go_simp; (try with_reducible rfl))
        (try simp only [Act.put, List.getElem_toArray, List.getElem_cons_zero, List.setIfInBounds_toArray, List.set_cons_zero, List.set_cons_succ])
        refine wpAnyH_take (i := 1) (v := ?_) rfl (by kernel_rfl) (by kernel_rfl) (by kernel_rfl) (fun _ _ _ h => h) (Or.inl ⟨by rfl, ?_⟩) (by assumption) ?_
        rotate_left
        · (intro w hSw; (try dsimp only at hSw); go_simp; (try with_reducible rfl))
        (try simp only [Act.put, List.getElem_toArray, List.getElem_cons_succ, List.getElem_cons_zero, List.setIfInBounds_toArray, List.set_cons_zero, List.set_cons_succ])
        refine wpAnyH_take (i := 2) (v := ?_) rfl (by kernel_rfl) (by kernel_rfl) (by kernel_rfl) (fun _ _ _ h => h) (Or.inl ⟨by rfl, ?_⟩) (by assumption) ?_
        rotate_left
        · (intro w hSw; (try dsimp only at hSw); go_simp; (try with_reducible rfl))
        (try simp only [Act.put, List.getElem_toArray, List.getElem_cons_succ, List.getElem_cons_zero, List.setIfInBounds_toArray, List.set_cons_zero, List.set_cons_succ])
        refine wpAnyH_take (i := 3) (v := ?_) rfl (by kernel_rfl) (by kernel_rfl) (by kernel_rfl) (fun _ _ _ h => h) (Or.inl ⟨by rfl, ?_⟩) (by assumption) ?_
        rotate_left
        · (intro w hSw; (try dsimp only at hSw); go_simp; (try with_reducible rfl))
        (try simp only [Act.put, List.getElem_toArray, List.getElem_cons_succ, List.getElem_cons_zero, List.setIfInBounds_toArray, List.set_cons_zero, List.set_cons_succ])
        refine wpAnyH_take (i := 4) (v := ?_) rfl (by kernel_rfl) (by kernel_rfl) (by kernel_rfl) (fun _ _ _ h => h) (Or.inl ⟨by rfl, ?_⟩) (by assumption) ?_
        rotate_left
        · (intro w hSw; (try dsimp only at hSw); go_simp; (try with_reducible rfl))
        (try simp only [Act.put, List.getElem_toArray, List.getElem_cons_succ, List.getElem_cons_zero, List.setIfInBounds_toArray, List.set_cons_zero, List.set_cons_succ])
        refine wpAnyH_take (i := 5) (v := ?_) rfl (by kernel_rfl) (by kernel_rfl) (by kernel_rfl) (fun _ _ _ h => h) (Or.inl ⟨by rfl, ?_⟩) (by assumption) ?_
        rotate_left
        · (intro w hSw; (try dsimp only at hSw); go_simp; (try with_reducible rfl))
        (try simp only [Act.put, List.getElem_toArray, List.getElem_cons_succ, List.getElem_cons_zero, List.setIfInBounds_toArray, List.set_cons_zero, List.set_cons_succ])
        refine wpAnyH_ready (rs := [6]) (by kernel_rfl) (by simp) (AllReadyH.cons rfl (fun K hK => ?_) AllReadyH.nil)
        (first | ((go_at_call 10; refine (HH.out _ (HB.out.trans (hHeld.2.mono HB.out.size))).mono ?_; rintro e w91 ⟨rfl, b91⟩)) | (go_simp; (go_at_call 10; refine (HH.out _ (HB.out.trans (hHeld.2.mono HB.out.size))).mono ?_; rintro e w91 ⟨rfl, b91⟩)))
        (try (go_wp2_with fail))
        refine hK.out _ _ ?_ (fun hHeld => ?_)
        · ((try dsimp only); (first | exact ⟨⟨⟨keep_in hHeld.1.1.1 b91, keep_in hHeld.1.1.2 b91⟩, keep_in hHeld.1.2.1 b91, keep_in hHeld.1.2.2 b91⟩, hHeld.2.trans (b91.mono hHeld.2.size)⟩ | exact ⟨⟨⟨c0, c1⟩, h0, h1⟩, (Below.refl _ _).drew⟩))
        clear hK K
        (try simp only [Act.put, List.getElem_toArray, List.getElem_cons_succ, List.getElem_cons_zero, List.setIfInBounds_toArray, List.set_cons_zero, List.set_cons_succ])
        refine wpAnyH_take (i := 7) (v := ?_) rfl (by kernel_rfl) (by kernel_rfl) (by kernel_rfl) (fun _ _ _ h => h) (Or.inl ⟨by rfl, ?_⟩) (by assumption) ?_
        rotate_left
        · (intro w hSw; (try dsimp only at hSw); go_simp; (try with_reducible rfl))
        (try simp only [Act.put, List.getElem_toArray, List.getElem_cons_succ, List.getElem_cons_zero, List.setIfInBounds_toArray, List.set_cons_zero, List.set_cons_succ])
        refine wpAnyH_done (by kernel_rfl) ?_ _
        refine NoPanic.normal ?_
        obtain ⟨w5, hw5⟩ : ∃ w', w' = w91 := ⟨_, rfl⟩
        rw [← hw5] at hHeld ⊢
        have b5 := hHeld.2
        clear hHeld b91 hw5 h0 h1 c0 c1
        have HB5 := Lib.hid (HB.out.trans (b5.mono HB.out.size))
        have HX5 := Lib.hid (And.intro (keep_in HX.out.1 b5) (keep_in HX.out.2 b5))
        clear b5
        go_wp2_with fail
        go_ret
        exact ⟨ret_b HE.out, HB5.out⟩
    · obtain rfl : i = l.length := by omega
      have HE : Hid (satB c ll m l = fineT c ll m) := Lib.hid (by have h := HALL.out; rw [List.take_length] at h; unfold satB; rw [h, Bool.true_and])
      have HF := Lib.hid (HFT.out w3 HB.out)
      obtain ⟨q, hq⟩ : ∃ q, q = fineT c ll m := ⟨_, rfl⟩
      rw [← hq] at HE HF
      clear hq
      go_wp2_with fail
      refine HF.out.mono ?_
      rintro e w4 ⟨rfl, b4⟩
      have HB4 := Lib.hid (HB.out.trans (b4.mono HB.out.size))
      clear b4 c0 c1
      go_wp2_with fail
      go_ret
      exact ⟨ret_b HE.out, HB4.out⟩
end
end Go.Proofs.YtnbjcelfdppkcadGreat
namespace Go.Proofs.YtnbjcelfdppkcadGreat
open Go.RowKit

/-- Sets and values of rows: the k-th set, with its index plus 1. -/
def zpN (q : Nat → Nat) : Nat → List (Nat × Int)
  | 0 => []
  | k + 1 => zpN q k ++ [(q k, (k : Int) + 1)]
theorem zpN_len (q : Nat → Nat) : ∀ k, (zpN q k).length = k
  | 0 => rfl
  | k + 1 => by unfold zpN; rw [List.length_append, zpN_len q k]; rfl
theorem zpN_congr {q r : Nat → Nat} : ∀ {k : Nat}, (∀ i, i < k → q i = r i) → zpN q k = zpN r k
  | 0, _ => rfl
  | k + 1, h => by unfold zpN; rw [zpN_congr (fun i hi => h i (by omega)), h k (by omega)]
theorem armP_zp (C : Nat) (c : List Int) : ∀ i, (∀ j, j < i → c.getD j 0 ≠ (2 : Int) ^ C - 1) → armP C c i = (2 ^ C - 1, 0) :: zpN (fun j => (c.getD j 0).toNat) i
  | 0, _ => rfl
  | i + 1, h => by
    rw [armP_take (h i (by omega)), armP_zp C c i (fun j hj => h j (by omega))]; rfl
/-- The closed sets end with the set of all columns, which comes nowhere else. -/
theorem cls_split {C : Nat} {l : List (Int × Int)} (ha : arD (C : Int) l = true) : ∃ A : List Int, clsL (C : Int) l = A ++ [((2 ^ C - 1 : Nat) : Int)] ∧ ∀ x ∈ A, ∃ X : Nat, x = (X : Int) ∧ X < 2 ^ C - 1 := by
  obtain ⟨C', e, h1, h5, -, hd⟩ := arD_n ha
  obtain rfl : C = C' := by omega
  have hp : 0 < 2 ^ C := Nat.pow_pos (by decide)
  have hcl := closed_full h5 hd
  obtain ⟨M, hM⟩ : ∃ M, 2 ^ C = M + 1 := ⟨2 ^ C - 1, by omega⟩
  rw [hM, Nat.add_sub_cancel] at hcl
  refine ⟨brdTo (clB l) M, ?_, fun x hx => ?_⟩
  · unfold clsL
    rw [if_pos ha, show ((C : Int)).toNat = C from rfl, hM]
    show (if clB l M = true then brdTo (clB l) M ++ [(M : Int)] else brdTo (clB l) M) = _
    rw [if_pos ((clB_iff l M).2 hcl), Nat.add_sub_cancel]
  · obtain ⟨y, y1, -, rfl⟩ := (brdTo_mem _ _ _).1 hx
    exact ⟨y, rfl, by omega⟩
theorem arm_rows {C : Nat} {l : List (Int × Int)} {A : List Int} (ha : arD (C : Int) l = true) (hA : clsL (C : Int) l = A ++ [((2 ^ C - 1 : Nat) : Int)]) (hB : ∀ x ∈ A, ∃ X : Nat, x = (X : Int) ∧ X < 2 ^ C - 1) :
    armL (C : Int) l = List.replicate C 0 :: rowsA C (zpN (fun j => (A.getD j 0).toNat) A.length) := by
  have hz : ((2 ^ C : Nat) : Int) = (2 : Int) ^ C := by rw [Int.natCast_pow]; rfl
  have hp : 0 < 2 ^ C := Nat.pow_pos (by decide)
  have hg : ∀ j, j < A.length → (clsL (C : Int) l).getD j 0 = A.getD j 0 := fun j hj => by
    rw [hA, List.getD_eq_getElem?_getD, List.getElem?_append_left hj, ← List.getD_eq_getElem?_getD]
  have hm : ∀ j, j < A.length → A.getD j 0 ∈ A := fun j hj => by rw [List.getD_eq_getElem?_getD, List.getElem?_eq_getElem hj]; exact List.getElem_mem hj
  have hl : (clsL (C : Int) l).length = A.length + 1 := by rw [hA, List.length_append]; rfl
  have hlast : (clsL (C : Int) l).getD A.length 0 = (2 : Int) ^ C - 1 := by
    rw [hA, List.getD_eq_getElem?_getD, List.getElem?_append_right (Nat.le_refl _), Nat.sub_self]
    show ((2 ^ C - 1 : Nat) : Int) = _
    omega
  unfold armL
  rw [if_pos ha, show ((C : Int)).toNat = C from rfl, hl, armP_skip hlast, armP_zp C _ A.length (fun j hj => by
    rw [hg j hj]
    obtain ⟨X, e, hX⟩ := hB _ (hm j hj)
    rw [e]
    omega), zpN_congr (r := fun j => (A.getD j 0).toNat) (fun j hj => by show ((clsL (C : Int) l).getD j 0).toNat = (A.getD j 0).toNat; rw [hg j hj])]
  show rowA (2 ^ C - 1) 0 C :: _ = _
  rw [rowA_zero]
  rfl
theorem ctr_rows {C : Nat} {l : List (Int × Int)} {x y : Int} (h : ctrB (C : Int) l (x, y) = true) : ctrL (C : Int) l (x, y) = List.replicate C 0 :: rowsA C (zpN (fun j => (([(clo l x.toNat : Int)] : List Int).getD j 0).toNat) 1) := by
  unfold ctrL
  rw [if_pos (of_decide_eq_true h), show ((C : Int)).toNat = C from rfl]
  show rowA (2 ^ C - 1) 0 C :: _ = _
  rw [rowA_zero]
  rfl
theorem rows_snoc (C k : Nat) (q : Nat → Nat) : rowsA C (zpN q (k + 1)) = rowsA C (zpN q k) ++ [rowA (q k) ((k : Int) + 1) C] := rowsA_snoc C _ _
theorem rows_len (C k : Nat) (q : Nat → Nat) : (rowsA C (zpN q k)).length = k := by rw [rowsA_len, zpN_len]
/-- One more cell of a row that was made of zeros. -/
theorem rowZ_step (S C k : Nat) (v : Int) (h : k < C) : (rowA S v k ++ List.replicate (C - k) 0).set k (if bitB S k = true then 0 else v) = rowA S v (k + 1) ++ List.replicate (C - (k + 1)) 0 := by
  rw [List.set_append, if_neg (by rw [rowA_len]; omega), rowA_len, Nat.sub_self, show C - k = (C - (k + 1)) + 1 by omega, List.replicate_succ]
  show rowA S v k ++ (_ :: _) = (rowA S v k ++ [_]) ++ _
  rw [List.append_assoc]; rfl
theorem rowZ_skip (S C k : Nat) (v : Int) (h : k < C) (hb : bitB S k = true) : rowA S v k ++ List.replicate (C - k) 0 = rowA S v (k + 1) ++ List.replicate (C - (k + 1)) 0 := by
  rw [show C - k = (C - (k + 1)) + 1 by omega, List.replicate_succ]
  show rowA S v k ++ (_ :: _) = (rowA S v k ++ [if bitB S k = true then 0 else v]) ++ _
  rw [if_pos hb, List.append_assoc]; rfl
section
variable {P : Program}
/-- An append to a row that lies whole and has room: it stays where it is. -/
theorem run_append_here (w : World) (base : Nat) (t ty e : TypeId) (i : TypeInfo) (z : Value) (size bytes : Nat) (ht : P.underlying t = some (.slice e)) (hi : P.info? e = some i) (hz : i.zero = some z)
    (hsize : i.size = size) (hby : i.bytes = bytes) (hzs : z.cells.size = size) (hsz : 0 < size)
    (g n cap : Nat) (xs : List Value) (hown : w.ownsRow base e size (.slice (some ⟨g, 0, none⟩) n cap) n xs)
    (a : Addr) (m c : Nat) (news : List Value) (hl : news.length = m * size) (hnews : ∀ j u, news[j]? = some u → w.cell? (a.add j) = some u) (h1 : ∀ u ∈ news, u.oneCell' = true)
    (hroom : n + m ≤ cap) (h63 : n + m ≤ maxLen) (hbytes : (n + m) * bytes ≤ 140737488355328) (hbase : base ≤ w.heap.size) :
    ∃ w', (Builtin.append_ #[t, t] ty #[.slice (some ⟨g, 0, none⟩) n cap, .slice (some a) m c]).run P w = .ok (.slice (some ⟨g, 0, none⟩) (n + m) cap) w' ∧ w'.ownsRow base e size (.slice (some ⟨g, 0, none⟩) (n + m) cap) (n + m) (xs ++ news) ∧ w.grownBy w' (some g) := by
  obtain ⟨v', w', hr, ho, hg, -⟩ := run_append_own (P := P) w base t ty e i z size bytes ht hi hz hsize hby hzs hsz _ n xs hown a m c news hl hnews h1 h63 hbytes hbase
  rcases hown.2 with ⟨h, -⟩ | ⟨g', cap', cur, hv, hbg, hgg, hnc, hcm, hcs, htake⟩
  · cases h
  · cases hv
    have hr2 := run_append_room (P := P) w t ty e i ht hi g n cap cur hgg a m c news (by rw [hl, hsize]) hnews h1 hroom (by rw [hl, hcs, hsize, ← Nat.add_mul]; exact Nat.mul_le_mul_right _ hroom)
    have hr3 := hr
    rw [hr2] at hr3
    cases hr3
    exact ⟨_, hr, ho, hg⟩
theorem wpList_append_here (w : World) {ops : Array Oper} {rest : List Oper} {o : Oper} {a : Act} {Q : Exit → Act → World → Prop} (hgd : o.guard = none) (s x : Operand) (t : TypeId)
    (ho : o.op = .call { callee := .builtin .append, args := #[s, x], argTypes := #[t, t] })
    (base : Nat) (e : TypeId) (i : TypeInfo) (z : Value) (size bytes : Nat) (ht : P.underlying t = some (.slice e)) (hi : P.info? e = some i) (hz : i.zero = some z)
    (hsize : i.size = size) (hby : i.bytes = bytes) (hzs : z.cells.size = size) (hsz : 0 < size)
    (g n cap : Nat) (xs : List Value) (hs : a.eval s = .slice (some ⟨g, 0, none⟩) n cap) (hown : w.ownsRow base e size (.slice (some ⟨g, 0, none⟩) n cap) n xs)
    (ad : Addr) (m c : Nat) (news : List Value) (hx : a.eval x = .slice (some ad) m c) (hl : news.length = m * size) (hnews : ∀ j u, news[j]? = some u → w.cell? (ad.add j) = some u) (h1 : ∀ u ∈ news, u.oneCell' = true)
    (hroom : n + m ≤ cap) (h63 : n + m ≤ maxLen) (hbytes : (n + m) * bytes ≤ 140737488355328) (hbase : base ≤ w.heap.size)
    (h : ∀ w', w'.ownsRow base e size (.slice (some ⟨g, 0, none⟩) (n + m) cap) (n + m) (xs ++ news) → w.grownBy w' (some g) → wpList P ops Q rest (a.put o.dst (.slice (some ⟨g, 0, none⟩) (n + m) cap)) w') : wpList P ops Q (o :: rest) a w := by
  obtain ⟨w', hr, h2, h3⟩ := run_append_here (P := P) w base t o.type e i z size bytes ht hi hz hsize hby hzs hsz g n cap xs hown ad m c news hl hnews h1 hroom h63 hbytes hbase
  exact Lib.wpList_append_run w hgd s x t t ho _ _ hs hx _ _ hr (h w' h2 h3)
end
end Go.Proofs.YtnbjcelfdppkcadGreat
namespace Go.Proofs.YtnbjcelfdppkcadGreat
open Go.RowKit

section
set_option maxRecDepth 20000
set_option maxHeartbeats 3200000
theorem insert0_none (B g : Nat) (u : Value) (vb : Nat) (w : World) (hB : B ≤ w.heap.size) (h1u : u.oneCell' = true) (hown : w.ownsRow B 40 1 (.slice (some ⟨g, 0, none⟩) 0 0) 0 []) (hu : w.cell? ⟨vb, 0, none⟩ = some u) :
    Calls Tryz.prog 63 #[.slice (some ⟨g, 0, none⟩) 0 0, .int .i64 0, .slice (some ⟨vb, 0, none⟩) 1 1] w fun e w' => ∃ v', e = .returned v' ∧ w'.ownsRow B 40 1 v' 1 [u] ∧ w.grownBy w' (some g) := by
  obtain ⟨j0, hj, hz0, hz1, hz2⟩ := info_parts infoSj
  have HJ : Hid (_ ∧ _ ∧ _ ∧ _) := Lib.hid ⟨hj, hz0, hz1, hz2⟩
  have HO := Lib.hid hown
  have HU : Hid (∀ j x, [u][j]? = some x → w.cell? ((⟨vb, 0, none⟩ : Addr).add j) = some x) := Lib.hid (fun j x hx => by
    cases j with
    | zero => simp at hx; subst hx; exact hu
    | succ j => simp at hx)
  have H1 : Hid (∀ x ∈ [u], x.oneCell' = true) := Lib.hid (fun x hx => by rw [List.mem_singleton] at hx; rw [hx]; exact h1u)
  clear hj hz0 hz1 hz2 hown hu h1u
  go_enter Tryz.func63, Tryz.ntmps63
  go_wp2_with (at_builtin; refine wpList_append_own _ rfl _ _ 27 rfl B 40 j0 (.slice none 0 0) 1 24 Tryz.underlying27 HJ.out.1 HJ.out.2.1 HJ.out.2.2.1 HJ.out.2.2.2 rfl (by decide) _ _ _ rfl HO.out ⟨vb, 0, none⟩ 1 1 [u] rfl rfl HU.out H1.out (by unfold maxLen; omega) (by omega) hB ?_; intro v9 w9 hown9 hgrow9 _; have HR := Lib.hid (And.intro hown9 hgrow9); obtain ⟨p9, k9, rfl⟩ := row_form12 hown9; clear hown9 hgrow9)
  go_ret
  exact ⟨_, rfl, HR.out.1, HR.out.2⟩
theorem insert0_some (B g n : Nat) (xs : List Value) (u : Value) (vb : Nat) (w : World) (hB : B ≤ w.heap.size) (h0 : 0 < n) (hn : n ≤ 40) (h1 : ∀ v ∈ xs, v.oneCell' = true) (h1u : u.oneCell' = true) (hown : w.ownsRow B 40 1 (.slice (some ⟨g, 0, none⟩) n n) n xs) (hu : w.cell? ⟨vb, 0, none⟩ = some u) :
    Calls Tryz.prog 63 #[.slice (some ⟨g, 0, none⟩) n n, .int .i64 0, .slice (some ⟨vb, 0, none⟩) 1 1] w fun e w' => ∃ v', e = .returned v' ∧ w'.ownsRow B 40 1 v' (n + 1) (u :: xs) ∧ w.grownBy w' (some g) := by
  obtain ⟨j0, hj, hz0, hz1, hz2⟩ := info_parts infoSj
  have hxl : xs.length = n := by have := hown.1; omega
  have hcs : ∀ j v, xs[j]? = some v → w.cell? ((⟨g, 0, none⟩ : Addr).add j) = some v := hown.cells (g := g) rfl
  have hold : (Builtin.firstCells j0.size 0 (.slice (some ⟨g, 0, none⟩) 0 n)).run Tryz.prog w.drew = .ok ([] : List Value).toArray w.drew := by
    rw [hz1]
    exact run_firstCells_some w.drew 1 0 ⟨g, 0, none⟩ 0 n [] rfl (fun j v hj => by simp at hj)
  have hrz : ∀ ty, (Builtin.append_ #[27, 3] ty #[.slice (some ⟨g, 0, none⟩) 0 n, .int .i64 ((n : Int) + 1)]).run Tryz.prog w =
      .ok (.slice (some ⟨w.heap.size, 0, none⟩) (n + 1) (grownCap w (n + 1) n 40)) (w.drew.alloc (.cells (#[] ++ Builtin.zeroCells (Value.slice none 0 0).cells (n + 1) ++ Builtin.zeroCells (Value.slice none 0 0).cells (grownCap w (n + 1) n 40 - (n + 1))) 40)) := fun ty => by
    have h := Lib.run_append_grow_zeros (P := Tryz.prog) w 27 3 ty 40 j0 _ .i64 .i64 Tryz.underlying27 Tryz.underlying3 hj hz0 (some ⟨g, 0, none⟩) 0 n [] hold (n + 1) (by omega) (by omega) (by omega) (by omega) (by rw [hz2]; omega) (by rw [hz2, Nat.zero_add]; exact growslice_fits (by omega) (by omega))
    rw [Nat.zero_add] at h
    exact h
  obtain ⟨G, hG⟩ : ∃ G, G = grownCap w (n + 1) n 40 := ⟨_, rfl⟩
  have hGn : n + 1 ≤ G := by rw [hG]; exact grownCap_ge w _ _ _
  have hGm : G ≤ maxLen := by rw [hG]; exact grownCap_le_maxLen w (n + 1) n 40 (by unfold maxLen; omega)
  rw [← hG] at hrz
  obtain ⟨ROW, hROW⟩ : ∃ ROW : List Value, ROW.toArray = #[] ++ Builtin.zeroCells (Value.slice none 0 0).cells (n + 1) ++ Builtin.zeroCells (Value.slice none 0 0).cells (G - (n + 1)) := ⟨_, Array.toArray_toList⟩
  have hRl : ROW.length = G := by
    have := congrArg Array.size hROW
    simp [size_zeroCells, Value.cells] at this
    omega
  rw [← hROW] at hrz
  have HX := Lib.hid hcs
  have HRZ := Lib.hid hrz
  have HUU := Lib.hid hu
  have HJ : Hid (_ ∧ _ ∧ _ ∧ _) := Lib.hid ⟨hj, hz0, hz1, hz2⟩
  have HGW : Hid (g < w.heap.size ∧ B ≤ g) := Lib.hid (by have := hown.lt g rfl; exact ⟨this.2, this.1⟩)
  have H1U : Hid (∀ x ∈ [u], x.oneCell' = true) := Lib.hid (fun x hx => by rw [List.mem_singleton] at hx; rw [hx]; exact h1u)
  have H1X := Lib.hid h1
  clear hROW hold hcs hown hrz hu hG h1 h1u hj hz0 hz1 hz2
  have hsz : (Tryz.prog.info? 40).map (·.size) = some 1 := by
    have h := HJ.out.1
    rw [h, Option.map_some, HJ.out.2.2.1]
  have hvw : vb < w.heap.size := World.block_lt_of_cell? w _ HUU.out
  have hgw := HGW.out
  have al := (Below.refl w.heap.size w).drew.alloc (Nat.le_refl _) (.cells ROW.toArray 40)
  have HU4 : Hid (∀ j x, [u][j]? = some x → (w.drew.alloc (.cells ROW.toArray 40)).cell? ((⟨vb, 0, none⟩ : Addr).add j) = some x) := Lib.hid (fun j x hx => by
    cases j with
    | zero => simp at hx; subst hx; exact keep_in HUU.out al
    | succ j => simp at hx)
  have HX4 : Hid (∀ w', Below w.heap.size w w' → ∀ j v, xs[j]? = some v → w'.cell? ((⟨g, 0, none⟩ : Addr).add j) = some v) := Lib.hid (fun w' hb j v h => keep_in (HX.out j v h) hb)
  have HAL := Lib.hid al
  have HSP : Hid (splice (splice ROW 0 [u]) 1 xs = u :: (xs ++ ROW.drop (n + 1))) := Lib.hid (by
    obtain ⟨r, R, rfl⟩ : ∃ r R, ROW = r :: R := by
      cases ROW with
      | nil => simp at hRl; omega
      | cons r R => exact ⟨r, R, rfl⟩
    unfold splice
    simp [hxl, Nat.add_comm])
  have HM1 : Hid ([u].length = Nat.min 1 (n + 1)) := Lib.hid (Nat.min_eq_left (Nat.le_add_left 1 n)).symm
  have HF1 : Hid (0 + [u].length ≤ ROW.length) := Lib.hid (by rw [hRl]; show 0 + 1 ≤ G; omega)
  have HM2 : Hid (xs.length = Nat.min n n) := Lib.hid (by rw [hxl]; exact (Nat.min_self n).symm)
  have HF2 : Hid (1 + xs.length ≤ (splice ROW 0 [u]).length) := Lib.hid (by rw [length_splice _ _ _ HF1.out, hRl, hxl]; omega)
  have hg1 : ¬ (G = 1) := by omega
  have hw1 : IntKind.i64.wrap 1 = 1 := by decide
  have hb1 : (1 : Int) ≤ (n : Int) + 1 := by omega
  have hn1 : n + 1 - 1 = n := by omega
  have hg0 : ¬ (n = 0) := by omega
  clear al
  have hi1 : (0 : Int) < (n : Int) := by omega
  have hi2 : ¬ ((n : Int) = 0) := by omega
  have hi3 : (n : Int) < (n : Int) + 1 := by omega
  go_enter Tryz.func63, Tryz.ntmps63
  go_wp2_with (first
    | (at_builtin; refine Lib.wpList_append_run _ rfl _ _ _ _ rfl _ _ rfl rfl _ _ (HRZ.out _) ?_)
    | (refine wpList_copy_splice rfl (.tmp 43) (.tmp 44) 27 27 rfl 40 Tryz.underlying27 hsz _ _ _ _ _ _ rfl rfl w.heap.size 0 ROW 40 (heap_alloc_new w.drew _) [u] HM1.out (fun _ => ⟨rfl, ⟨vb, 0, none⟩, rfl, HU4.out⟩) HF1.out H1U.out w.heap.size w HAL.out (Nat.le_refl _) ?_; intro w4 HG4 hB4))
  go_region_law (refine step_copy_splice rfl (.tmp 50) (.tmp 53) 27 27 rfl 40 Tryz.underlying27 hsz (some ⟨w.heap.size, 1, none⟩) (some ⟨g, 0, none⟩) n (G - 1) n n (by simp [Act.eval, Act.put]) (by simp [Act.eval, Act.put]) w.heap.size 1 (splice ROW 0 [u]) 40 HG4.out xs HM2.out (fun _ => ⟨rfl, ⟨g, 0, none⟩, rfl, HX4.out _ hB4.drew⟩) HF2.out H1X.out w.heap.size w hB4.drew (Nat.le_refl _) ?_; intro w5 HG5 hB5)
  all_goals
    have HR5 : Hid (w5.ownsRow B 40 1 (.slice (some ⟨w.heap.size, 0, none⟩) (n + 1) G) (n + 1) (u :: xs)) := Lib.hid ⟨by rw [List.length_cons, hxl, Nat.mul_one], .inr ⟨w.heap.size, G, _, rfl, hB, HG5.out, hGn, hGm, by rw [List.size_toArray, length_splice _ _ _ HF2.out, length_splice _ _ _ HF1.out, hRl, Nat.mul_one], by
      rw [HSP.out, Nat.mul_one, ← hxl]
      show u :: (xs ++ ROW.drop (xs.length + 1)).take xs.length = u :: xs
      rw [List.take_left]⟩⟩
    go_wp2_with fail
    go_ret
    exact ⟨_, rfl, HR5.out, ⟨hB5.os, hB5.tape, hB5.output, hB5.size, fun k hk _ => hB5.block k hk⟩⟩
/-- The rows with one more ahead of them. -/
theorem OwnSS.consV {w w' : World} {B C C' : Nat} {v v' u : Value} {ll : List (List Int)} {l : List Int} {V : Nat → Value} (o1 : w.ownsRow B 40 1 v ll.length ((List.range ll.length).map V))
    (o3 : ∀ i, i < ll.length → OwnI w B (V i) (ll.getD i []) ∧ ∀ g, (V i).ownBlock = some g → g < C) (o4 : ∀ i j, i < j → j < ll.length → ∀ g, (V i).ownBlock = some g → (V j).ownBlock ≠ some g)
    (hu : OwnI w B u l) (huC : ∀ g, u.ownBlock = some g → g < C') (hud : ∀ i, i < ll.length → ∀ g, u.ownBlock = some g → (V i).ownBlock ≠ some g)
    (h1 : w'.ownsRow B 40 1 v' (ll.length + 1) (u :: (List.range ll.length).map V)) (hg : w.grownBy w' v.ownBlock) (hC : C ≤ C') (hv' : ∀ g, v'.ownBlock = some g → g < C') : OwnSS w' B C' v' (l :: ll) := by
  have hap : ∀ i, i < ll.length → ∀ g, v.ownBlock = some g → (V i).ownBlock ≠ some g := fun i hi => row_apart o1 (o3 i hi).1
  have hapu : ∀ g, v.ownBlock = some g → u.ownBlock ≠ some g := row_apart o1 hu
  refine ⟨fun i => match i with | 0 => u | i + 1 => V i, ?_, hv', fun i hi => ?_, fun i j hij hj g => ?_⟩
  · have e : (List.range (l :: ll).length).map (fun i => match i with | 0 => u | i + 1 => V i) = u :: (List.range ll.length).map V := by
      rw [List.length_cons, List.range_succ_eq_map, List.map_cons, List.map_map]
      rfl
    rw [e, List.length_cons]; exact h1
  · cases i with
    | zero => exact ⟨hu.keptBy hg hapu, fun g hgg => huC g hgg⟩
    | succ i =>
      have hlt : i < ll.length := by rw [List.length_cons] at hi; omega
      exact ⟨(o3 i hlt).1.keptBy hg (fun g hg => hap i hlt g hg), fun g hgg => Nat.lt_of_lt_of_le ((o3 i hlt).2 g hgg) hC⟩
  · cases j with
    | zero => exact absurd hij (Nat.not_lt_zero _)
    | succ j =>
      have hjl : j < ll.length := by rw [List.length_cons] at hj; omega
      cases i with
      | zero => exact hud j hjl g
      | succ i => exact o4 i j (by omega) hjl g
theorem insert0_any (B g n : Nat) (xs : List Value) (u : Value) (vb : Nat) (w : World) (hB : B ≤ w.heap.size) (hn : n ≤ 40) (h1 : ∀ v ∈ xs, v.oneCell' = true) (h1u : u.oneCell' = true) (hown : w.ownsRow B 40 1 (.slice (some ⟨g, 0, none⟩) n n) n xs) (hu : w.cell? ⟨vb, 0, none⟩ = some u) :
    Calls Tryz.prog 63 #[.slice (some ⟨g, 0, none⟩) n n, .int .i64 0, .slice (some ⟨vb, 0, none⟩) 1 1] w fun e w' => ∃ v', e = .returned v' ∧ w'.ownsRow B 40 1 v' (n + 1) (u :: xs) ∧ w.grownBy w' (some g) := by
  by_cases h0 : n = 0
  · subst h0
    obtain rfl : xs = [] := List.eq_nil_of_length_eq_zero (by have := hown.1; omega)
    exact insert0_none B g u vb w hB h1u hown hu
  · exact insert0_some B g n xs u vb w hB (by omega) hn h1 h1u hown hu
end
end Go.Proofs.YtnbjcelfdppkcadGreat
