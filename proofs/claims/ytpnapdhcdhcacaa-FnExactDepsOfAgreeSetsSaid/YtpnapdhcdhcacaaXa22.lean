/- Texts of this claim, merged: ExS, AxF, FltD, FltI. Conditions: as stated. -/
import Derived.Test.YtpnapdhcdhcacaaXa7
import Derived.Test.YtpnapdhcdhcacaaXa13
import Derived.Deep.RegionLaw
import Derived.Deep.CutBlock
import Derived.Test.YtpnapdhcdhcacaaExAm
import Derived.Test.YtpnapdhcdhcacaaXa21
import Derived.Lib.AppendZerosOnto
import Derived.Laws.CopyOwn
import Derived.Test.YtpnapdhcdhcacaaXa12
import Derived.Test.YtpnapdhcdhcacaaXa17
import Derived.Maps.AppendAt
namespace Go.Proofs.Ytpnapdhcdhcacaa
open Go.RowKit

/-- Whether all of a list hold in a table with a mode. -/
noncomputable def satB (c : Int) (ll : List (List Int)) (m : Int) (l : List (Int × Int)) : Bool := l.all (fun d => holdsD c ll m d.1 d.2) && fineT c ll m
section
set_option maxRecDepth 20000
set_option maxHeartbeats 3200000
theorem satisfiesAll12_any (c m : Int) (v vl : Value) (ll : List (List Int)) (l : List (Int × Int)) (w : World) (hr : ReadSS w v ll) (hl : ll.length ≤ 1048576) (ht : ∀ i, i < ll.length → (ll.getD i []).length ≤ 1048576) (hrd : ReadD w vl l) (hld : l.length ≤ 1048576) :
    Calls Try.prog 20 #[.agg #[.int .i64 c, v], .int .i64 m, vl] w fun e w' => e = .returned (.bool (satB c ll m l)) ∧ Below w.heap.size w w' := by
  have hb1 := (Below.refl w.heap.size w).alloc (Nat.le_refl _) (.cells #[.int .i64 c, v] 26)
  obtain ⟨c0, c1⟩ := zero2 w 26 (.int .i64 c) v
  have HHD := Lib.hid (fun d0 d1 w' (hb : Below w.heap.size w w') => holdsDep_any c m d0 d1 v ll w' (hr.kept hb) hl ht)
  have HFT := Lib.hid (fun w' (hb : Below w.heap.size w w') => l4Fine_any c m v ll w' (hr.kept hb) hl ht)
  have HRD := Lib.hid (fun w' (hb : Below w.heap.size w w') => hrd.kept hb)
  have HB1 := Lib.hid hb1
  have HX1 := Lib.hid (And.intro c0 c1)
  obtain ⟨a, cap, rfl, -⟩ := hr
  obtain ⟨al, capl, rfl, -⟩ := hrd
  clear hb1 c0 c1 ht
  go_enter Try.func20, Try.ntmps20
  go_wp2_with fail
  go_loopw [7] (fun iv wr => ∃ i : Nat, i ≤ l.length ∧ iv = .int .i64 (i : Int) ∧ Hid ((l.take i).all (fun d => holdsD c ll m d.1 d.2) = true) ∧ Hid (wr.cell? ⟨w.heap.size, 0, none⟩ = some (.int .i64 c) ∧ wr.cell? ⟨w.heap.size, 1, none⟩ = some (.slice a ll.length cap)) ∧ Hid (Below w.heap.size w wr)) (fun iv _ => l.length - (intOf iv).toNat)
  case atStart => exact ⟨0, by omega, rfl, Lib.hid rfl, HX1, HB1⟩
  case round =>
    clear HX1 HB1
    obtain ⟨i, hi, rfl, HALL, HX, HB⟩ := hrel
    obtain ⟨w3, hw⟩ : ∃ w', w' = wr := ⟨_, rfl⟩
    rw [← hw] at HX HB ⊢
    clear hw
    obtain ⟨c0, c1⟩ := HX.out
    by_cases hlt : i < l.length
    · have z0 : (0 : Int) ≤ (i : Int) := by omega
      have z1 : (i : Int) < (l.length : Int) := by omega
      obtain ⟨b, o, rfl, h0, h1⟩ := readD_cells (HRD.out w3 HB.out) hlt
      have HS : Hid (l.take (i + 1) = l.take i ++ [l.getD i (0, 0)]) := Lib.hid (take_succ_getD l (0, 0) i hlt)
      have HM : Hid (l.getD i (0, 0) ∈ l) := Lib.hid (memD hlt)
      obtain ⟨⟨d0, d1⟩, hd⟩ : ∃ d, d = l.getD i (0, 0) := ⟨_, rfl⟩
      rw [← hd] at h0 h1 HS HM
      simp only at h0 h1
      have HH := Lib.hid (HHD.out d0 d1)
      clear hd
      cases hq : holdsD c ll m d0 d1 with
      | true =>
        rw [hq] at HH
        have HALL' : Hid ((l.take (i + 1)).all (fun d => holdsD c ll m d.1 d.2) = true) := Lib.hid (by rw [HS.out, List.all_append, HALL.out]; simp [hq])
        clear hq
        go_upto_region 4 with fail
        refine wp_region_noPanic ?_
        refine wp_region_held_drew (S := (fun w' => ((w'.cell? ⟨w.heap.size, 0, none⟩ = some (.int .i64 c) ∧ w'.cell? ⟨w.heap.size, 1, none⟩ = some (.slice a ll.length cap)) ∧ w'.cell? ⟨b, o + i * 2, none⟩ = some (.int .i64 d0) ∧ w'.cell? ⟨b, o + i * 2 + 1, none⟩ = some (.int .i64 d1)) ∧ Below w3.heap.size w3 w')) (by kernel_rfl) ?_ (fun hHeld => ?_)
        · ((try dsimp only); (first | exact ⟨⟨⟨keep_in hHeld.1.1.1 b91, keep_in hHeld.1.1.2 b91⟩, keep_in hHeld.1.2.1 b91, keep_in hHeld.1.2.2 b91⟩, hHeld.2.trans (b91.mono hHeld.2.size)⟩ | exact ⟨⟨⟨c0, c1⟩, h0, h1⟩, (Below.refl _ _).drew⟩))
        refine wpAnyH_take (i := 0) (v := ?_) rfl (by kernel_rfl) (by kernel_rfl) (by kernel_rfl) (fun _ _ _ h => h) (Or.inl ⟨by rfl, ?_⟩) (by assumption) ?_
        rotate_left
        · (intro w hSw; (try dsimp only at hSw); go_simp; (try with_reducible rfl))
        (try simp only [Act.put, List.getElem_toArray, List.getElem_cons_zero, List.setIfInBounds_toArray, List.set_cons_zero, List.set_cons_succ])
        refine wpAnyH_take (i := 1) (v := ?_) rfl (by kernel_rfl) (by kernel_rfl) (by kernel_rfl) (fun _ _ _ h => h) (Or.inl ⟨by rfl, ?_⟩) (by assumption) ?_
        rotate_left
        · (intro w hSw; (try dsimp only at hSw); go_simp; (try with_reducible rfl))
        (try simp only [Act.put, List.getElem_toArray, List.getElem_cons_succ, List.getElem_cons_zero, List.setIfInBounds_toArray, List.set_cons_zero, List.set_cons_succ])
        refine wpAnyH_take (i := 2) (v := ?_) rfl (by kernel_rfl) (by kernel_rfl) (by kernel_rfl) (fun _ _ _ h => h) (Or.inl ⟨by rfl, ?_⟩) (by assumption) ?_
        rotate_left
        · (intro w hSw; (try dsimp only at hSw); go_simp; (try with_reducible rfl))
        (try simp only [Act.put, List.getElem_toArray, List.getElem_cons_succ, List.getElem_cons_zero, List.setIfInBounds_toArray, List.set_cons_zero, List.set_cons_succ])
        refine wpAnyH_take (i := 3) (v := ?_) rfl (by kernel_rfl) (by kernel_rfl) (by kernel_rfl) (fun _ _ _ h => h) (Or.inl ⟨by rfl, ?_⟩) (by assumption) ?_
        rotate_left
        · (intro w hSw; (try dsimp only at hSw); go_simp; (try with_reducible rfl))
        (try simp only [Act.put, List.getElem_toArray, List.getElem_cons_succ, List.getElem_cons_zero, List.setIfInBounds_toArray, List.set_cons_zero, List.set_cons_succ])
        refine wpAnyH_take (i := 4) (v := ?_) rfl (by kernel_rfl) (by kernel_rfl) (by kernel_rfl) (fun _ _ _ h => h) (Or.inl ⟨by rfl, ?_⟩) (by assumption) ?_
        rotate_left
        · (intro w hSw; (try dsimp only at hSw); go_simp; (try with_reducible rfl))
        (try simp only [Act.put, List.getElem_toArray, List.getElem_cons_succ, List.getElem_cons_zero, List.setIfInBounds_toArray, List.set_cons_zero, List.set_cons_succ])
        refine wpAnyH_take (i := 5) (v := ?_) rfl (by kernel_rfl) (by kernel_rfl) (by kernel_rfl) (fun _ _ _ h => h) (Or.inl ⟨by rfl, ?_⟩) (by assumption) ?_
        rotate_left
        · (intro w hSw; (try dsimp only at hSw); go_simp; (try with_reducible rfl))
        (try simp only [Act.put, List.getElem_toArray, List.getElem_cons_succ, List.getElem_cons_zero, List.setIfInBounds_toArray, List.set_cons_zero, List.set_cons_succ])
        refine wpAnyH_ready (rs := [6]) (by kernel_rfl) (by simp) (AllReadyH.cons rfl (fun K hK => ?_) AllReadyH.nil)
        (first | ((go_at_call 47; refine (HH.out _ (HB.out.trans (hHeld.2.mono HB.out.size))).mono ?_; rintro e w91 ⟨rfl, b91⟩)) | (go_simp; (go_at_call 47; refine (HH.out _ (HB.out.trans (hHeld.2.mono HB.out.size))).mono ?_; rintro e w91 ⟨rfl, b91⟩)))
        (try (go_wp2_with fail))
        refine hK.out _ _ ?_ (fun hHeld => ?_)
        · ((try dsimp only); (first | exact ⟨⟨⟨keep_in hHeld.1.1.1 b91, keep_in hHeld.1.1.2 b91⟩, keep_in hHeld.1.2.1 b91, keep_in hHeld.1.2.2 b91⟩, hHeld.2.trans (b91.mono hHeld.2.size)⟩ | exact ⟨⟨⟨c0, c1⟩, h0, h1⟩, (Below.refl _ _).drew⟩))
        clear hK K
        (try simp only [Act.put, List.getElem_toArray, List.getElem_cons_succ, List.getElem_cons_zero, List.setIfInBounds_toArray, List.set_cons_zero, List.set_cons_succ])
        refine wpAnyH_take (i := 7) (v := ?_) rfl (by kernel_rfl) (by kernel_rfl) (by kernel_rfl) (fun _ _ _ h => h) (Or.inl ⟨by rfl, ?_⟩) (by assumption) ?_
        rotate_left
        · (intro w hSw; (try dsimp only at hSw); go_simp; (try with_reducible rfl))
        (try simp only [Act.put, List.getElem_toArray, List.getElem_cons_succ, List.getElem_cons_zero, List.setIfInBounds_toArray, List.set_cons_zero, List.set_cons_succ])
        refine wpAnyH_done (by kernel_rfl) ?_ _
        refine NoPanic.normal ?_
        obtain ⟨w5, hw5⟩ : ∃ w', w' = w91 := ⟨_, rfl⟩
        rw [← hw5] at hHeld ⊢
        have b5 := hHeld.2
        clear hHeld b91 hw5 h0 h1 c0 c1
        have HB5 := Lib.hid (HB.out.trans (b5.mono HB.out.size))
        have HX5 := Lib.hid (And.intro (keep_in HX.out.1 b5) (keep_in HX.out.2 b5))
        clear b5
        go_wp2_with fail
        go_roundw
        case rel => exact ⟨i + 1, by omega, by go_num, HALL', HX5, HB5⟩
        case measure => simp [intOf]; omega
      | false =>
        rw [hq] at HH
        have HE : Hid (satB c ll m l = false) := Lib.hid (by
          unfold satB
          rw [Bool.and_eq_false_iff]
          left
          rw [List.all_eq_false]
          exact ⟨_, HM.out, by rw [hq]; decide⟩)
        clear hq
        go_upto_region 4 with fail
        refine wp_region_noPanic ?_
        refine wp_region_held_drew (S := (fun w' => ((w'.cell? ⟨w.heap.size, 0, none⟩ = some (.int .i64 c) ∧ w'.cell? ⟨w.heap.size, 1, none⟩ = some (.slice a ll.length cap)) ∧ w'.cell? ⟨b, o + i * 2, none⟩ = some (.int .i64 d0) ∧ w'.cell? ⟨b, o + i * 2 + 1, none⟩ = some (.int .i64 d1)) ∧ Below w3.heap.size w3 w')) (by kernel_rfl) ?_ (fun hHeld => ?_)
        · ((try dsimp only); (first | exact ⟨⟨⟨keep_in hHeld.1.1.1 b91, keep_in hHeld.1.1.2 b91⟩, keep_in hHeld.1.2.1 b91, keep_in hHeld.1.2.2 b91⟩, hHeld.2.trans (b91.mono hHeld.2.size)⟩ | exact ⟨⟨⟨c0, c1⟩, h0, h1⟩, (Below.refl _ _).drew⟩))
        refine wpAnyH_take (i := 0) (v := ?_) rfl (by kernel_rfl) (by kernel_rfl) (by kernel_rfl) (fun _ _ _ h => h) (Or.inl ⟨by rfl, ?_⟩) (by assumption) ?_
        rotate_left
        · (intro w hSw; (try dsimp only at hSw); go_simp; (try with_reducible rfl))
        (try simp only [Act.put, List.getElem_toArray, List.getElem_cons_zero, List.setIfInBounds_toArray, List.set_cons_zero, List.set_cons_succ])
        refine wpAnyH_take (i := 1) (v := ?_) rfl (by kernel_rfl) (by kernel_rfl) (by kernel_rfl) (fun _ _ _ h => h) (Or.inl ⟨by rfl, ?_⟩) (by assumption) ?_
        rotate_left
        · (intro w hSw; (try dsimp only at hSw); go_simp; (try with_reducible rfl))
        (try simp only [Act.put, List.getElem_toArray, List.getElem_cons_succ, List.getElem_cons_zero, List.setIfInBounds_toArray, List.set_cons_zero, List.set_cons_succ])
        refine wpAnyH_take (i := 2) (v := ?_) rfl (by kernel_rfl) (by kernel_rfl) (by kernel_rfl) (fun _ _ _ h => h) (Or.inl ⟨by rfl, ?_⟩) (by assumption) ?_
        rotate_left
        · (intro w hSw; (try dsimp only at hSw); go_simp; (try with_reducible rfl))
        (try simp only [Act.put, List.getElem_toArray, List.getElem_cons_succ, List.getElem_cons_zero, List.setIfInBounds_toArray, List.set_cons_zero, List.set_cons_succ])
        refine wpAnyH_take (i := 3) (v := ?_) rfl (by kernel_rfl) (by kernel_rfl) (by kernel_rfl) (fun _ _ _ h => h) (Or.inl ⟨by rfl, ?_⟩) (by assumption) ?_
        rotate_left
        · (intro w hSw; (try dsimp only at hSw); go_simp; (try with_reducible rfl))
        (try simp only [Act.put, List.getElem_toArray, List.getElem_cons_succ, List.getElem_cons_zero, List.setIfInBounds_toArray, List.set_cons_zero, List.set_cons_succ])
        refine wpAnyH_take (i := 4) (v := ?_) rfl (by kernel_rfl) (by kernel_rfl) (by kernel_rfl) (fun _ _ _ h => h) (Or.inl ⟨by rfl, ?_⟩) (by assumption) ?_
        rotate_left
        · (intro w hSw; (try dsimp only at hSw); go_simp; (try with_reducible rfl))
        (try simp only [Act.put, List.getElem_toArray, List.getElem_cons_succ, List.getElem_cons_zero, List.setIfInBounds_toArray, List.set_cons_zero, List.set_cons_succ])
        refine wpAnyH_take (i := 5) (v := ?_) rfl (by kernel_rfl) (by kernel_rfl) (by kernel_rfl) (fun _ _ _ h => h) (Or.inl ⟨by rfl, ?_⟩) (by assumption) ?_
        rotate_left
        · (intro w hSw; (try dsimp only at hSw); go_simp; (try with_reducible rfl))
        (try simp only [Act.put, List.getElem_toArray, List.getElem_cons_succ, List.getElem_cons_zero, List.setIfInBounds_toArray, List.set_cons_zero, List.set_cons_succ])
        refine wpAnyH_ready (rs := [6]) (by kernel_rfl) (by simp) (AllReadyH.cons rfl (fun K hK => ?_) AllReadyH.nil)
        (first | ((go_at_call 47; refine (HH.out _ (HB.out.trans (hHeld.2.mono HB.out.size))).mono ?_; rintro e w91 ⟨rfl, b91⟩)) | (go_simp; (go_at_call 47; refine (HH.out _ (HB.out.trans (hHeld.2.mono HB.out.size))).mono ?_; rintro e w91 ⟨rfl, b91⟩)))
        (try (go_wp2_with fail))
        refine hK.out _ _ ?_ (fun hHeld => ?_)
        · ((try dsimp only); (first | exact ⟨⟨⟨keep_in hHeld.1.1.1 b91, keep_in hHeld.1.1.2 b91⟩, keep_in hHeld.1.2.1 b91, keep_in hHeld.1.2.2 b91⟩, hHeld.2.trans (b91.mono hHeld.2.size)⟩ | exact ⟨⟨⟨c0, c1⟩, h0, h1⟩, (Below.refl _ _).drew⟩))
        clear hK K
        (try simp only [Act.put, List.getElem_toArray, List.getElem_cons_succ, List.getElem_cons_zero, List.setIfInBounds_toArray, List.set_cons_zero, List.set_cons_succ])
        refine wpAnyH_take (i := 7) (v := ?_) rfl (by kernel_rfl) (by kernel_rfl) (by kernel_rfl) (fun _ _ _ h => h) (Or.inl ⟨by rfl, ?_⟩) (by assumption) ?_
        rotate_left
        · (intro w hSw; (try dsimp only at hSw); go_simp; (try with_reducible rfl))
        (try simp only [Act.put, List.getElem_toArray, List.getElem_cons_succ, List.getElem_cons_zero, List.setIfInBounds_toArray, List.set_cons_zero, List.set_cons_succ])
        refine wpAnyH_done (by kernel_rfl) ?_ _
        refine NoPanic.normal ?_
        obtain ⟨w5, hw5⟩ : ∃ w', w' = w91 := ⟨_, rfl⟩
        rw [← hw5] at hHeld ⊢
        have b5 := hHeld.2
        clear hHeld b91 hw5 h0 h1 c0 c1
        have HB5 := Lib.hid (HB.out.trans (b5.mono HB.out.size))
        have HX5 := Lib.hid (And.intro (keep_in HX.out.1 b5) (keep_in HX.out.2 b5))
        clear b5
        go_wp2_with fail
        go_ret
        exact ⟨ret_b HE.out, HB5.out⟩
    · obtain rfl : i = l.length := by omega
      have HE : Hid (satB c ll m l = fineT c ll m) := Lib.hid (by have h := HALL.out; rw [List.take_length] at h; unfold satB; rw [h, Bool.true_and])
      have HF := Lib.hid (HFT.out w3 HB.out)
      obtain ⟨q, hq⟩ : ∃ q, q = fineT c ll m := ⟨_, rfl⟩
      rw [← hq] at HE HF
      clear hq
      go_wp2_with fail
      refine HF.out.mono ?_
      rintro e w4 ⟨rfl, b4⟩
      have HB4 := Lib.hid (HB.out.trans (b4.mono HB.out.size))
      clear b4 c0 c1
      go_wp2_with fail
      go_ret
      exact ⟨ret_b HE.out, HB4.out⟩
end
end Go.Proofs.Ytpnapdhcdhcacaa
namespace Go.Proofs.Ytpnapdhcdhcacaa
open Go.RowKit

/-- Sets and values of rows: the k-th set, with its index plus 1. -/
def zpN (q : Nat → Nat) : Nat → List (Nat × Int)
  | 0 => []
  | k + 1 => zpN q k ++ [(q k, (k : Int) + 1)]
theorem zpN_len (q : Nat → Nat) : ∀ k, (zpN q k).length = k
  | 0 => rfl
  | k + 1 => by unfold zpN; rw [List.length_append, zpN_len q k]; rfl
theorem zpN_congr {q r : Nat → Nat} : ∀ {k : Nat}, (∀ i, i < k → q i = r i) → zpN q k = zpN r k
  | 0, _ => rfl
  | k + 1, h => by unfold zpN; rw [zpN_congr (fun i hi => h i (by omega)), h k (by omega)]
theorem armP_zp (C : Nat) (c : List Int) : ∀ i, (∀ j, j < i → c.getD j 0 ≠ (2 : Int) ^ C - 1) → armP C c i = (2 ^ C - 1, 0) :: zpN (fun j => (c.getD j 0).toNat) i
  | 0, _ => rfl
  | i + 1, h => by
    rw [armP_take (h i (by omega)), armP_zp C c i (fun j hj => h j (by omega))]; rfl
/-- The closed sets end with the set of all columns, which comes nowhere else. -/
theorem cls_split {C : Nat} {l : List (Int × Int)} (ha : arD (C : Int) l = true) : ∃ A : List Int, clsL (C : Int) l = A ++ [((2 ^ C - 1 : Nat) : Int)] ∧ ∀ x ∈ A, ∃ X : Nat, x = (X : Int) ∧ X < 2 ^ C - 1 := by
  obtain ⟨C', e, h1, h5, -, hd⟩ := arD_n ha
  obtain rfl : C = C' := by omega
  have hp : 0 < 2 ^ C := Nat.pow_pos (by decide)
  have hcl := closed_full h5 hd
  obtain ⟨M, hM⟩ : ∃ M, 2 ^ C = M + 1 := ⟨2 ^ C - 1, by omega⟩
  rw [hM, Nat.add_sub_cancel] at hcl
  refine ⟨brdTo (clB l) M, ?_, fun x hx => ?_⟩
  · unfold clsL
    rw [if_pos ha, show ((C : Int)).toNat = C from rfl, hM]
    show (if clB l M = true then brdTo (clB l) M ++ [(M : Int)] else brdTo (clB l) M) = _
    rw [if_pos ((clB_iff l M).2 hcl), Nat.add_sub_cancel]
  · obtain ⟨y, y1, -, rfl⟩ := (brdTo_mem _ _ _).1 hx
    exact ⟨y, rfl, by omega⟩
theorem arm_rows {C : Nat} {l : List (Int × Int)} {A : List Int} (ha : arD (C : Int) l = true) (hA : clsL (C : Int) l = A ++ [((2 ^ C - 1 : Nat) : Int)]) (hB : ∀ x ∈ A, ∃ X : Nat, x = (X : Int) ∧ X < 2 ^ C - 1) :
    armL (C : Int) l = List.replicate C 0 :: rowsA C (zpN (fun j => (A.getD j 0).toNat) A.length) := by
  have hz : ((2 ^ C : Nat) : Int) = (2 : Int) ^ C := by rw [Int.natCast_pow]; rfl
  have hp : 0 < 2 ^ C := Nat.pow_pos (by decide)
  have hg : ∀ j, j < A.length → (clsL (C : Int) l).getD j 0 = A.getD j 0 := fun j hj => by
    rw [hA, List.getD_eq_getElem?_getD, List.getElem?_append_left hj, ← List.getD_eq_getElem?_getD]
  have hm : ∀ j, j < A.length → A.getD j 0 ∈ A := fun j hj => by rw [List.getD_eq_getElem?_getD, List.getElem?_eq_getElem hj]; exact List.getElem_mem hj
  have hl : (clsL (C : Int) l).length = A.length + 1 := by rw [hA, List.length_append]; rfl
  have hlast : (clsL (C : Int) l).getD A.length 0 = (2 : Int) ^ C - 1 := by
    rw [hA, List.getD_eq_getElem?_getD, List.getElem?_append_right (Nat.le_refl _), Nat.sub_self]
    show ((2 ^ C - 1 : Nat) : Int) = _
    omega
  unfold armL
  rw [if_pos ha, show ((C : Int)).toNat = C from rfl, hl, armP_skip hlast, armP_zp C _ A.length (fun j hj => by
    rw [hg j hj]
    obtain ⟨X, e, hX⟩ := hB _ (hm j hj)
    rw [e]
    omega), zpN_congr (r := fun j => (A.getD j 0).toNat) (fun j hj => by show ((clsL (C : Int) l).getD j 0).toNat = (A.getD j 0).toNat; rw [hg j hj])]
  show rowA (2 ^ C - 1) 0 C :: _ = _
  rw [rowA_zero]
  rfl
theorem ctr_rows {C : Nat} {l : List (Int × Int)} {x y : Int} (h : ctrB (C : Int) l (x, y) = true) : ctrL (C : Int) l (x, y) = List.replicate C 0 :: rowsA C (zpN (fun j => (([(clo l x.toNat : Int)] : List Int).getD j 0).toNat) 1) := by
  unfold ctrL
  rw [if_pos (of_decide_eq_true h), show ((C : Int)).toNat = C from rfl]
  show rowA (2 ^ C - 1) 0 C :: _ = _
  rw [rowA_zero]
  rfl
theorem rows_snoc (C k : Nat) (q : Nat → Nat) : rowsA C (zpN q (k + 1)) = rowsA C (zpN q k) ++ [rowA (q k) ((k : Int) + 1) C] := rowsA_snoc C _ _
theorem rows_len (C k : Nat) (q : Nat → Nat) : (rowsA C (zpN q k)).length = k := by rw [rowsA_len, zpN_len]
/-- One more cell of a row that was made of zeros. -/
theorem rowZ_step (S C k : Nat) (v : Int) (h : k < C) : (rowA S v k ++ List.replicate (C - k) 0).set k (if bitB S k = true then 0 else v) = rowA S v (k + 1) ++ List.replicate (C - (k + 1)) 0 := by
  rw [List.set_append, if_neg (by rw [rowA_len]; omega), rowA_len, Nat.sub_self, show C - k = (C - (k + 1)) + 1 by omega, List.replicate_succ]
  show rowA S v k ++ (_ :: _) = (rowA S v k ++ [_]) ++ _
  rw [List.append_assoc]; rfl
theorem rowZ_skip (S C k : Nat) (v : Int) (h : k < C) (hb : bitB S k = true) : rowA S v k ++ List.replicate (C - k) 0 = rowA S v (k + 1) ++ List.replicate (C - (k + 1)) 0 := by
  rw [show C - k = (C - (k + 1)) + 1 by omega, List.replicate_succ]
  show rowA S v k ++ (_ :: _) = (rowA S v k ++ [if bitB S k = true then 0 else v]) ++ _
  rw [if_pos hb, List.append_assoc]; rfl
section
variable {P : Program}
/-- An append to a row that lies whole and has room: it stays where it is. -/
theorem run_append_here (w : World) (base : Nat) (t ty e : TypeId) (i : TypeInfo) (z : Value) (size bytes : Nat) (ht : P.underlying t = some (.slice e)) (hi : P.info? e = some i) (hz : i.zero = some z)
    (hsize : i.size = size) (hby : i.bytes = bytes) (hzs : z.cells.size = size) (hsz : 0 < size)
    (g n cap : Nat) (xs : List Value) (hown : w.ownsRow base e size (.slice (some ⟨g, 0, none⟩) n cap) n xs)
    (a : Addr) (m c : Nat) (news : List Value) (hl : news.length = m * size) (hnews : ∀ j u, news[j]? = some u → w.cell? (a.add j) = some u) (h1 : ∀ u ∈ news, u.oneCell' = true)
    (hroom : n + m ≤ cap) (h63 : n + m ≤ maxLen) (hbytes : (n + m) * bytes ≤ 140737488355328) (hbase : base ≤ w.heap.size) :
    ∃ w', (Builtin.append_ #[t, t] ty #[.slice (some ⟨g, 0, none⟩) n cap, .slice (some a) m c]).run P w = .ok (.slice (some ⟨g, 0, none⟩) (n + m) cap) w' ∧ w'.ownsRow base e size (.slice (some ⟨g, 0, none⟩) (n + m) cap) (n + m) (xs ++ news) ∧ w.grownBy w' (some g) := by
  obtain ⟨v', w', hr, ho, hg, -⟩ := run_append_own (P := P) w base t ty e i z size bytes ht hi hz hsize hby hzs hsz _ n xs hown a m c news hl hnews h1 h63 hbytes hbase
  rcases hown.2 with ⟨h, -⟩ | ⟨g', cap', cur, hv, hbg, hgg, hnc, hcm, hcs, htake⟩
  · cases h
  · cases hv
    have hr2 := run_append_room (P := P) w t ty e i ht hi g n cap cur hgg a m c news (by rw [hl, hsize]) hnews h1 hroom (by rw [hl, hcs, hsize, ← Nat.add_mul]; exact Nat.mul_le_mul_right _ hroom)
    have hr3 := hr
    rw [hr2] at hr3
    cases hr3
    exact ⟨_, hr, ho, hg⟩
theorem wpList_append_here (w : World) {ops : Array Oper} {rest : List Oper} {o : Oper} {a : Act} {Q : Exit → Act → World → Prop} (hgd : o.guard = none) (s x : Operand) (t : TypeId)
    (ho : o.op = .call { callee := .builtin .append, args := #[s, x], argTypes := #[t, t] })
    (base : Nat) (e : TypeId) (i : TypeInfo) (z : Value) (size bytes : Nat) (ht : P.underlying t = some (.slice e)) (hi : P.info? e = some i) (hz : i.zero = some z)
    (hsize : i.size = size) (hby : i.bytes = bytes) (hzs : z.cells.size = size) (hsz : 0 < size)
    (g n cap : Nat) (xs : List Value) (hs : a.eval s = .slice (some ⟨g, 0, none⟩) n cap) (hown : w.ownsRow base e size (.slice (some ⟨g, 0, none⟩) n cap) n xs)
    (ad : Addr) (m c : Nat) (news : List Value) (hx : a.eval x = .slice (some ad) m c) (hl : news.length = m * size) (hnews : ∀ j u, news[j]? = some u → w.cell? (ad.add j) = some u) (h1 : ∀ u ∈ news, u.oneCell' = true)
    (hroom : n + m ≤ cap) (h63 : n + m ≤ maxLen) (hbytes : (n + m) * bytes ≤ 140737488355328) (hbase : base ≤ w.heap.size)
    (h : ∀ w', w'.ownsRow base e size (.slice (some ⟨g, 0, none⟩) (n + m) cap) (n + m) (xs ++ news) → w.grownBy w' (some g) → wpList P ops Q rest (a.put o.dst (.slice (some ⟨g, 0, none⟩) (n + m) cap)) w') : wpList P ops Q (o :: rest) a w := by
  obtain ⟨w', hr, h2, h3⟩ := run_append_here (P := P) w base t o.type e i z size bytes ht hi hz hsize hby hzs hsz g n cap xs hown ad m c news hl hnews h1 hroom h63 hbytes hbase
  exact Lib.wpList_append_run w hgd s x t t ho _ _ hs hx _ _ hr (h w' h2 h3)
end
end Go.Proofs.Ytpnapdhcdhcacaa
namespace Go.Proofs.Ytpnapdhcdhcacaa
open Go.RowKit

set_option maxHeartbeats 1600000 in
theorem filtUC_any (c1 : Value) (p : Int × Int → Bool) (v : Value) (l : List (Int × Int)) (w : World) (hr : ReadD w v l) (hl : l.length ≤ 1048576)
    (HP : ∀ x, x ∈ l → ∀ w', Below w.heap.size w w' → Calls Try.prog 108 #[.agg #[.int .i64 x.1, .int .i64 x.2], c1] w' fun e w'' => e = .returned (.bool (p x)) ∧ Below w'.heap.size w' w'') :
    Calls Try.prog 90 #[v, .func (.func 108) #[] #[c1]] w (RetD (l.filter p) w) := by
  obtain ⟨i0, hi, hz0, hz1, hz2⟩ := info_parts infoDp
  have HI : Hid (_ ∧ _ ∧ _ ∧ _) := Lib.hid ⟨hi, hz0, hz1, hz2⟩
  clear hi hz0 hz1 hz2
  have HQ := Lib.hid HP
  have HN := Lib.hid (fun k hk => filter_next p l (0, 0) k hk)
  have HL := Lib.hid (fun k => List.length_filter_le p (l.take k))
  obtain ⟨a, cap, rfl, ha⟩ := hr
  have HA := Lib.hid ha
  clear ha HP
  go_enter Try.func90, Try.ntmps90
  go_wp2_with (at_make; refine wpList_make_own _ rfl _ _ 29 rfl w.heap.size 39 i0 (.agg #[.int .i64 0, .int .i64 0]) 2 Try.underlying29 HI.out.1 HI.out.2.1 HI.out.2.2.1 .i64 .i64 _ l.length rfl rfl rfl (by rw [HI.out.2.2.2]; omega) (by unfold maxLen; omega) (Nat.le_refl _) ?_; intro w0 hown0 hgrow0)
  have hb0 := (Below.refl w.heap.size w).grown hgrow0 (Nat.le_refl _) (by simp)
  have hown : OwnD w0 w.heap.size _ [] := hown0
  clear hown0 hgrow0
  go_loopw [5, 13] (fun ov iv wr => ∃ (k : Nat) (q : List (Int × Int)), k ≤ l.length ∧ iv = .int .i64 (k : Int) ∧ Hid (q = (l.take k).filter p) ∧ OwnD wr w.heap.size ov q ∧ Below w.heap.size w wr) (fun _ iv _ => l.length - (intOf iv).toNat)
  case atStart => exact ⟨0, [], by omega, rfl, Lib.hid rfl, hown, hb0⟩
  case round =>
    clear hown hb0
    obtain ⟨k, q, hk, rfl, hq, ho, hb⟩ := hrel
    by_cases hlt : k < l.length
    · obtain ⟨b, o, rfl, h0, h1⟩ := HA.out k hlt
      replace h0 := (hb.cell (World.block_lt_of_cell? w _ h0)).trans h0
      replace h1 := (hb.cell (World.block_lt_of_cell? w _ h1)).trans h1
      have hm : l.getD k (0, 0) ∈ l := by rw [List.getD_eq_getElem?_getD, List.getElem?_eq_getElem hlt]; exact List.getElem_mem hlt
      have hll : q.length ≤ 1048576 := by rw [hq.out]; have := HL.out k; rw [List.length_take] at this; omega
      have HS := Lib.hid (HN.out k hlt)
      obtain ⟨⟨y0, y1⟩, hy⟩ : ∃ y, y = l.getD k (0, 0) := ⟨_, rfl⟩
      rw [← hy] at h0 h1 HS hm
      simp only at h0 h1
      have HC := Lib.hid (HQ.out (y0, y1) hm)
      have hwb := (Below.refl wr.heap.size wr).alloc (Nat.le_refl _) (.cells #[.int .i64 y0, .int .i64 y1] 39)
      have HB := Lib.hid (hb.trans (hwb.mono hb.size))
      have HO := Lib.hid (ho.below hwb (fun k hk => (ho.lt k hk).2))
      obtain ⟨e0, e1⟩ := zero2 wr 39 (.int .i64 y0) (.int .i64 y1)
      clear hy hm ho hwb
      have z0 : (0 : Int) ≤ (k : Int) := by omega
      have z1 : (k : Int) < (l.length : Int) := by omega
      cases hp : p (y0, y1) with
      | true =>
        rw [hp] at HC HS
        rw [if_pos rfl] at HS
        clear hp
        go_wp2_with fail
        refine (HC.out _ HB.out).mono ?_
        rintro e w1 ⟨rfl, b1⟩
        replace e0 := (b1.cell (World.block_lt_of_cell? _ _ e0)).trans e0
        replace e1 := (b1.cell (World.block_lt_of_cell? _ _ e1)).trans e1
        have ho1 := HO.out.below b1 (fun k hk => (HO.out.lt k hk).2)
        have hb1 := HB.out.trans (b1.mono HB.out.size)
        clear b1
        go_wp2_with (at_builtin; refine wpList_append_own _ rfl _ _ 29 rfl w.heap.size 39 i0 (.agg #[.int .i64 0, .int .i64 0]) 2 16 Try.underlying29 HI.out.1 HI.out.2.1 HI.out.2.2.1 HI.out.2.2.2 rfl (by decide) _ _ _ rfl (World.ownsRow.alloc ho1 _) ⟨w1.heap.size, 0, none⟩ 1 1 [.int .i64 y0, .int .i64 y1] rfl rfl (cell_two_new _ _ _ _) (two_i64 _ _) (by unfold maxLen; omega) (by omega) (le_alloc hb1 (Nat.le_refl _) _) ?_; intro v1 w2 hown1 hgrow1 _)
        have ho2 := OwnD.snoc hown1
        have hb2 := (hb1.alloc hb1.size (.cells #[.int .i64 y0, .int .i64 y1] 39)).grown hgrow1 (by simp; have := hb1.size; omega) (fun k hk => (OwnD.lt ho1 k hk).1)
        clear hown1 hgrow1
        go_wp2_with fail
        go_roundw
        case rel => exact ⟨k + 1, _, by omega, by go_num, Lib.hid (by rw [HS.out, ← hq.out]), ho2, hb2⟩
        case measure => simp [intOf]; omega
      | false =>
        rw [hp] at HC HS
        rw [if_neg (by decide)] at HS
        clear hp
        go_wp2_with fail
        refine (HC.out _ HB.out).mono ?_
        rintro e w1 ⟨rfl, b1⟩
        replace e0 := (b1.cell (World.block_lt_of_cell? _ _ e0)).trans e0
        replace e1 := (b1.cell (World.block_lt_of_cell? _ _ e1)).trans e1
        have ho1 := HO.out.below b1 (fun k hk => (HO.out.lt k hk).2)
        have hb1 := HB.out.trans (b1.mono HB.out.size)
        clear b1
        go_wp2_with fail
        go_roundw
        case rel => exact ⟨k + 1, _, by omega, by go_num, Lib.hid (by rw [HS.out, ← hq.out]), ho1, hb1⟩
        case measure => simp [intOf]; omega
    · obtain rfl : k = l.length := by omega
      go_wp2_with fail
      go_ret
      exact ⟨_, rfl, by have := hq.out; rw [List.take_length] at this; rw [← this]; exact ho, hb⟩
end Go.Proofs.Ytpnapdhcdhcacaa
namespace Go.Proofs.Ytpnapdhcdhcacaa
open Go.RowKit

set_option maxHeartbeats 1600000 in
theorem filtPW_any (c1 : Value) (p : Int → Bool) (v : Value) (l : List Int) (w : World) (hr : ReadI w v l) (hl : l.length ≤ 1048576)
    (HP : ∀ x, x ∈ l → ∀ w', Below w.heap.size w w' → Calls Try.prog 118 #[.int .i64 x, c1] w' fun e w'' => e = .returned (.bool (p x)) ∧ Below w'.heap.size w' w'') :
    Calls Try.prog 116 #[v, .func (.func 118) #[] #[c1]] w (RetI (l.filter p) w) := by
  obtain ⟨i0, hi, hz0, hz1, hz2⟩ := info_parts info3i
  have HI : Hid (_ ∧ _ ∧ _ ∧ _) := Lib.hid ⟨hi, hz0, hz1, hz2⟩
  clear hi hz0 hz1 hz2
  have HQ := Lib.hid HP
  have HN := Lib.hid (fun k hk => filter_next p l 0 k hk)
  have HL := Lib.hid (fun k => List.length_filter_le p (l.take k))
  obtain ⟨a, cap, rfl, ha⟩ := hr
  have HA := Lib.hid ha
  clear ha HP
  go_enter Try.func116, Try.ntmps116
  go_wp2_with (at_make; refine wpList_make_own _ rfl _ _ 47 rfl w.heap.size 3 i0 (.int .i64 0) 1 Try.underlying47 HI.out.1 HI.out.2.1 HI.out.2.2.1 .i64 .i64 _ l.length rfl rfl rfl (by rw [HI.out.2.2.2]; omega) (by unfold maxLen; omega) (Nat.le_refl _) ?_; intro w0 hown0 hgrow0)
  have hb0 := (Below.refl w.heap.size w).grown hgrow0 (Nat.le_refl _) (by simp)
  have hown := OwnI.made hown0
  clear hown0 hgrow0
  go_loopw [5, 13] (fun ov iv wr => ∃ (k : Nat) (q : List Int), k ≤ l.length ∧ iv = .int .i64 (k : Int) ∧ Hid (q = (l.take k).filter p) ∧ OwnI wr w.heap.size ov q ∧ Below w.heap.size w wr) (fun _ iv _ => l.length - (intOf iv).toNat)
  case atStart => exact ⟨0, [], by omega, rfl, Lib.hid rfl, hown, hb0⟩
  case round =>
    clear hown hb0
    obtain ⟨k, q, hk, rfl, hq, ho, hb⟩ := hrel
    by_cases hlt : k < l.length
    · obtain ⟨x, rfl, hx⟩ := HA.out k hlt
      replace hx := (hb.cell (World.block_lt_of_cell? w _ hx)).trans hx
      rw [get_getD l k hlt] at hx
      have hm : l.getD k 0 ∈ l := by rw [← get_getD l k hlt]; exact List.getElem_mem hlt
      have hll : q.length ≤ 1048576 := by rw [hq.out]; have := HL.out k; rw [List.length_take] at this; omega
      have HS := Lib.hid (HN.out k hlt)
      obtain ⟨y, hy⟩ : ∃ y, y = l.getD k 0 := ⟨_, rfl⟩
      rw [← hy] at hx HS hm
      have HC := Lib.hid (HQ.out y hm)
      have HB := Lib.hid hb
      have HO := Lib.hid ho
      clear hy hm ho
      have z0 : (0 : Int) ≤ (k : Int) := by omega
      have z1 : (k : Int) < (l.length : Int) := by omega
      cases hp : p y with
      | true =>
        rw [hp] at HC HS
        rw [if_pos rfl] at HS
        clear hp
        go_wp2_with fail
        refine (HC.out _ HB.out).mono ?_
        rintro e w1 ⟨rfl, b1⟩
        have ho1 := HO.out.kept b1 (fun k hk => (HO.out.lt k hk).2)
        have hb1 := HB.out.trans (b1.mono HB.out.size)
        clear b1
        go_wp2_with (at_builtin; refine wpList_append_own _ rfl _ _ 47 rfl w.heap.size 3 i0 (.int .i64 0) 1 8 Try.underlying47 HI.out.1 HI.out.2.1 HI.out.2.2.1 HI.out.2.2.2 rfl (by decide) _ _ _ rfl (World.ownsRow.alloc ho1 _) ⟨w1.heap.size, 0, none⟩ 1 1 [.int .i64 y] rfl rfl (cell_one_new _ _ _) (one_i64 _) (by unfold maxLen; omega) (by omega) (le_alloc hb1 (Nat.le_refl _) _) ?_; intro v1 w2 hown1 hgrow1 _)
        have ho2 := OwnI.snoc hown1
        have hb2 := (hb1.alloc hb1.size (.cells #[.int .i64 y] 3)).grown hgrow1 (by simp; have := hb1.size; omega) (fun k hk => (OwnI.lt ho1 k hk).1)
        clear hown1 hgrow1
        go_wp2_with fail
        go_roundw
        case rel => exact ⟨k + 1, _, by omega, by go_num, Lib.hid (by rw [HS.out, ← hq.out]), ho2, hb2⟩
        case measure => simp [intOf]; omega
      | false =>
        rw [hp] at HC HS
        rw [if_neg (by decide)] at HS
        clear hp
        go_wp2_with fail
        refine (HC.out _ HB.out).mono ?_
        rintro e w1 ⟨rfl, b1⟩
        have ho1 := HO.out.kept b1 (fun k hk => (HO.out.lt k hk).2)
        have hb1 := HB.out.trans (b1.mono HB.out.size)
        clear b1
        go_wp2_with fail
        go_roundw
        case rel => exact ⟨k + 1, _, by omega, by go_num, Lib.hid (by rw [HS.out, ← hq.out]), ho1, hb1⟩
        case measure => simp [intOf]; omega
    · obtain rfl : k = l.length := by omega
      go_wp2_with fail
      go_ret
      exact ⟨_, rfl, by have := hq.out; rw [List.take_length] at this; rw [← this]; exact ho, hb⟩
end Go.Proofs.Ytpnapdhcdhcacaa
