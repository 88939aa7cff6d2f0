/- Texts of this claim, merged: ClL, ClnA, SpecT2. Conditions: as stated. -/
import Derived.Test.YtnbjcelfdppkcacGreatClDm
import Derived.Test.YtnbjcelfdppkcacGreatWd5
import Derived.Test.YtnbjcelfdppkcacGreatWd2
import Derived.Laws.AppendOwnNone
import Derived.Lib.SliceRun
import Derived.Deep.AppendLies
import Derived.Test.YtnbjcelfdppkcacGreatWd3
namespace Go.Proofs.YtnbjcelfdppkcacGreat
open Go.RowKit

def clrN (x i : Nat) : Nat := if bitB x i = true then x - 2 ^ i else x
theorem clrN_fin : ∀ (x : Fin 32) (i : Fin 5), bits .andNot .i64 ((x.val : Nat) : Int) (IntKind.i64.wrap (2 ^ i.val)) = ((clrN x.val i.val : Nat) : Int) ∧ clrN x.val i.val < 32 ∧ subN (clrN x.val i.val) x.val = true := by decide +kernel
theorem clrN_eq : ∀ (x : Fin 32) (i : Fin 5), (clrN x.val i.val == x.val) = !bitB x.val i.val := by decide +kernel
def redAt (l : List (Int × Int)) (R x i : Nat) : Nat := if bitB x i = true then (if bitB (clo l (clrN x i)) R = true then clrN x i else x) else x
def redN (l : List (Int × Int)) (R x : Nat) : Nat → Nat
  | 0 => x
  | i + 1 => redAt l R (redN l R x i) i
def redD (n : Int) (l : List (Int × Int)) (d : Int × Int) : Int × Int := if impB n l d = true then (((redN l d.2.toNat d.1.toNat 5 : Nat) : Int), d.2) else d
def Bx (w : World) (b : Nat) (x y : Int) : Prop := w.heap[b]? = some (.cells #[.int .i64 x, .int .i64 y] 40 (0, 0))
theorem Bx.c0 {w : World} {b : Nat} {x y : Int} (h : Bx w b x y) : w.cell? ⟨b, 0, none⟩ = some (.int .i64 x) := by rw [cell_of_row w b 0 _ _ _ h]; rfl
theorem Bx.c1 {w : World} {b : Nat} {x y : Int} (h : Bx w b x y) : w.cell? ⟨b, 1, none⟩ = some (.int .i64 y) := by rw [cell_of_row w b 1 _ _ _ h]; rfl
theorem Bx.f0 {w : World} {b : Nat} {x y : Int} (h : Bx w b x y) : w.frozen? ⟨b, 0, none⟩ = false := frozen_of_row w b 0 _ _ h
theorem Bx.f1 {w : World} {b : Nat} {x y : Int} (h : Bx w b x y) : w.frozen? ⟨b, 1, none⟩ = false := frozen_of_row w b 1 _ _ h
theorem Bx.keep {w w' : World} {b : Nat} {x y : Int} (h : Bx w b x y) (hb : Below w.heap.size w w') : Bx w' b x y := (hb.block b (World.block_lt_of_cell? w _ h.c0)).trans h
theorem Bx.set0 {w : World} {b : Nat} {x y : Int} (h : Bx w b x y) (z : Int) : Bx (w.setCell ⟨b, 0, none⟩ (.int .i64 z)) b z y := heap_setCell_same w b 0 _ _ _ h
theorem Bx.far {w : World} {b c k : Nat} {x y : Int} {v : Value} (h : Bx w b x y) (hc : b ≠ c) : Bx (w.setCell ⟨c, k, none⟩ v) b x y := (Below.heap_setCell w ⟨c, k, none⟩ v b hc).trans h
theorem bx_new (w : World) (x y : Int) : Bx (w.alloc (.cells #[.int .i64 x, .int .i64 y] 40)) w.heap.size x y := heap_alloc_new w _
section
set_option maxRecDepth 20000
set_option maxHeartbeats 3200000
theorem reduceLeft11_any (v : Value) (n x y : Int) (l : List (Int × Int)) (w : World) (hr : ReadD w v l) (hl : l.length ≤ 1048576) :
    Calls Tryz.prog 26 #[.int .i64 n, v, .agg #[.int .i64 x, .int .i64 y]] w fun e w' => e = .returned (.agg #[.int .i64 (redD n l (x, y)).1, .int .i64 (redD n l (x, y)).2]) ∧ Below w.heap.size w w' := by
  have hb1 := (Below.refl w.heap.size w).alloc (Nat.le_refl _) (.cells #[.int .i64 x, .int .i64 y] 40)
  have hb2 := hb1.alloc hb1.size (.cells #[.int .i64 0, .int .i64 0] 40)
  have HIM := Lib.hid (impliesDep10_any v n x y l _ (hr.kept hb2) hl)
  have HB2 := Lib.hid hb2
  have hba := (Below.refl (w.alloc (.cells #[.int .i64 x, .int .i64 y] 40)).heap.size _).alloc (Nat.le_refl _) (.cells #[.int .i64 0, .int .i64 0] 40)
  have HX0 := Lib.hid ((bx_new w x y).keep hba)
  have hx1 := bx_new (w.alloc (.cells #[.int .i64 x, .int .i64 y] 40)) 0 0
  rw [World.size_alloc] at hx1
  have HX1 := Lib.hid hx1
  clear hb1 hb2 hba hx1
  cases him : impB n l (x, y) with
  | false =>
    rw [him] at HIM
    have HE : Hid (redD n l (x, y) = (x, y)) := Lib.hid (by unfold redD; rw [him]; rfl)
    rw [HE.out]
    obtain ⟨a, cap, rfl, -⟩ := hr
    clear him
    go_enter Tryz.func26, Tryz.ntmps26
    have c0 := HX0.out.c0
    have c1 := HX0.out.c1
    go_wp2_with fail
    refine HIM.out.mono ?_
    rintro e w3 ⟨rfl, b3⟩
    have HB3 := Lib.hid (HB2.out.trans (b3.mono HB2.out.size))
    have HX3 := Lib.hid (HX0.out.keep b3)
    have HY3 := Lib.hid (HX1.out.keep b3)
    clear b3 c0 c1
    have c0 := HX3.out.c0
    have c1 := HX3.out.c1
    have d0 := HY3.out.c0
    have d1 := HY3.out.c1
    have e0 := HY3.out.f0
    have e1 := HY3.out.f1
    go_wp2_with fail
    exact bodyPost_ret (v := .agg #[.int .i64 x, .int .i64 y]) (by simp [results, Tryz.results26, go_sem, d0, d1]) rfl ⟨rfl, (HB3.out.setCell (p := ⟨w.heap.size + 1, 0, none⟩) (by simp) _).setCell (p := ⟨w.heap.size + 1, 1, none⟩) (by simp) _⟩
  | true =>
    rw [him] at HIM
    have him2 := him
    unfold impB at him2
    rw [Bool.and_eq_true, Bool.and_eq_true] at him2
    obtain ⟨ha, hdp, -⟩ := him2
    obtain ⟨C, rfl, hC1, hC5, -, hd⟩ := arD_n ha
    obtain ⟨-, k1, k2, k3⟩ := depB_iff.1 hdp
    simp only at k1 k2 k3
    obtain ⟨L, rfl, hL, -⟩ := isA_lt hC5 k1
    obtain ⟨R, rfl⟩ : ∃ R : Nat, y = (R : Int) := ⟨y.toNat, by omega⟩
    have hR5 : R < 5 := by omega
    have hR64 : R ≤ 64 := by omega
    have HE : Hid (redD (C : Int) l ((L : Int), (R : Int)) = (((redN l R L 5 : Nat) : Int), (R : Int))) := Lib.hid (by unfold redD; rw [if_pos him]; rfl)
    rw [HE.out]
    have HCC := Lib.hid (fun (X : Nat) (hX : X < 32) w' (hb : Below w.heap.size w w') => close10_any C hC5 v l hd X hX w' (hr.kept hb) hl)
    obtain ⟨a, cap, rfl, -⟩ := hr
    clear him hdp k1 k3 ha hd HE
    go_enter Tryz.func26, Tryz.ntmps26
    have c0 := HX0.out.c0
    have c1 := HX0.out.c1
    go_wp2_with fail
    refine HIM.out.mono ?_
    rintro e w3 ⟨rfl, b3⟩
    have HB3 := Lib.hid (HB2.out.trans (b3.mono HB2.out.size))
    have HX3 := Lib.hid (HX0.out.keep b3)
    have HY3 := Lib.hid (HX1.out.keep b3)
    clear b3 c0 c1 HX0 HX1 HB2 HIM
    go_wp2_with fail
    go_loopw [7, 8] (fun iv yv wr => ∃ i X : Nat, i ≤ 5 ∧ X < 32 ∧ iv = .int .i64 (i : Int) ∧ Hid (X = redN l R L i) ∧ Hid (Bx wr w.heap.size (X : Int) (R : Int)) ∧ Hid (Bx wr (w.heap.size + 1) 0 0) ∧ Hid (Below w.heap.size w wr)) (fun iv _ _ => 5 - (intOf iv).toNat)
    case atStart => exact ⟨0, L, by omega, hL, rfl, Lib.hid rfl, HX3, HY3, HB3⟩
    case round =>
      clear HX3 HY3 HB3
      obtain ⟨i, X, hi, hX, rfl, HX, HBX, HBY, HB⟩ := hrel
      obtain ⟨w4, hw⟩ : ∃ w', w' = wr := ⟨_, rfl⟩
      rw [← hw] at HBX HBY HB ⊢
      clear hw
      have HB4 := Lib.hid HB.out
      have h0 := HBX.out.c0
      have h1 := HBX.out.c1
      by_cases hlt : i < 5
      · have z0 : (0 : Int) ≤ (i : Int) := by omega
        have z1 : (i : Int) < 5 := by omega
        have hi64 : i ≤ 64 := by omega
        obtain ⟨q1, q2, -⟩ := clrN_fin ⟨X, hX⟩ ⟨i, hlt⟩
        have q3 := clrN_eq ⟨X, hX⟩ ⟨i, hlt⟩
        simp only at q1 q2 q3
        have HN : Hid (redN l R L (i + 1) = redAt l R X i) := Lib.hid (by rw [HX.out]; rfl)
        unfold redAt at HN
        obtain ⟨Z, hZ⟩ : ∃ Z, Z = clrN X i := ⟨_, rfl⟩
        rw [← hZ] at q1 q2 q3 HN
        have hne : ((Z : Int) == (X : Int)) = (Z == X) := by rw [Bool.eq_iff_iff, beq_iff_eq, beq_iff_eq]; omega
        rw [q3] at hne
        replace hne : ((Z : Int) != (X : Int)) = bitB X i := by rw [bne, hne, Bool.not_not]
        have HC := Lib.hid (HCC.out Z q2)
        have hbt := bit_test (clo l Z) R
        clear hZ q3
        go_upto_region 6 with fail
        refine wp_region_noPanic ?_
        refine wp_region_held_drew (S := (fun w' => (w'.cell? ⟨w.heap.size, 0, none⟩ = some (.int .i64 (X : Int)) ∧ w'.cell? ⟨w.heap.size, 1, none⟩ = some (.int .i64 (R : Int))) ∧ Below w4.heap.size w4 w')) (by kernel_rfl) ?_ (fun hHeld => ?_)
        · ((try dsimp only); exact ⟨⟨h0, h1⟩, (Below.refl _ _).drew⟩)
        refine wpAnyH_take (i := 0) (v := ?_) rfl (by kernel_rfl) (by kernel_rfl) (by kernel_rfl) (fun _ _ _ h => h) (Or.inl ⟨by rfl, ?_⟩) (by assumption) ?_
        rotate_left
        · (intro w hSw; (try dsimp only at hSw); go_simp; (try with_reducible rfl))
        (try simp only [Act.put, List.getElem_toArray, List.getElem_cons_zero, List.setIfInBounds_toArray, List.set_cons_zero, List.set_cons_succ])
        refine wpAnyH_take (i := 1) (v := ?_) rfl (by kernel_rfl) (by kernel_rfl) (by kernel_rfl) (fun _ _ _ h => h) (Or.inl ⟨by rfl, ?_⟩) (by assumption) ?_
        rotate_left
        · (intro w hSw; (try dsimp only at hSw); go_simp; (try with_reducible rfl))
        (try simp only [Act.put, List.getElem_toArray, List.getElem_cons_succ, List.getElem_cons_zero, List.setIfInBounds_toArray, List.set_cons_zero, List.set_cons_succ])
        refine wpAnyH_take (i := 2) (v := ?_) rfl (by kernel_rfl) (by kernel_rfl) (by kernel_rfl) (fun _ _ _ h => h) (Or.inl ⟨by rfl, ?_⟩) (by assumption) ?_
        rotate_left
        · (intro w hSw; (try dsimp only at hSw); go_simp; (try with_reducible rfl))
        (try simp only [Act.put, List.getElem_toArray, List.getElem_cons_succ, List.getElem_cons_zero, List.setIfInBounds_toArray, List.set_cons_zero, List.set_cons_succ])
        refine wpAnyH_take (i := 3) (v := ?_) rfl (by kernel_rfl) (by kernel_rfl) (by kernel_rfl) (fun _ _ _ h => h) (Or.inl ⟨by rfl, ?_⟩) (by assumption) ?_
        rotate_left
        · (intro w hSw; (try dsimp only at hSw); go_simp; (try with_reducible rfl))
        (try simp only [Act.put, List.getElem_toArray, List.getElem_cons_succ, List.getElem_cons_zero, List.setIfInBounds_toArray, List.set_cons_zero, List.set_cons_succ])
        refine wpAnyH_take (i := 4) (v := ?_) rfl (by kernel_rfl) (by kernel_rfl) (by kernel_rfl) (fun _ _ _ h => h) (Or.inl ⟨by rfl, ?_⟩) (by assumption) ?_
        rotate_left
        · (intro w hSw; (try dsimp only at hSw); go_simp; (try with_reducible rfl))
        (try simp only [Act.put, List.getElem_toArray, List.getElem_cons_succ, List.getElem_cons_zero, List.setIfInBounds_toArray, List.set_cons_zero, List.set_cons_succ])
        refine wpAnyH_take (i := 5) (v := ?_) rfl (by kernel_rfl) (by kernel_rfl) (by kernel_rfl) (fun _ _ _ h => h) (Or.inl ⟨by rfl, ?_⟩) (by assumption) ?_
        rotate_left
        · (intro w hSw; (try dsimp only at hSw); go_simp; (try with_reducible rfl))
        (try simp only [Act.put, List.getElem_toArray, List.getElem_cons_succ, List.getElem_cons_zero, List.setIfInBounds_toArray, List.set_cons_zero, List.set_cons_succ])
        refine wpAnyH_done (by kernel_rfl) ?_ _
        refine NoPanic.normal ?_
        have HB6 := Lib.hid hHeld.2
        clear hHeld
        (try rw [q1])
        cases hb : bitB X i with
        | false =>
          rw [hb] at hne HN
          have HX' := Lib.hid (show X = redN l R L (i + 1) from HN.out.symm)
          clear hb
          go_upto_region 7 with fail
          refine wp_region_noPanic ?_
          refine wp_region_held_drew (S := (fun w' => (w'.cell? ⟨w.heap.size, 0, none⟩ = some (.int .i64 (X : Int)) ∧ w'.cell? ⟨w.heap.size, 1, none⟩ = some (.int .i64 (R : Int))) ∧ Below w4.heap.size w4 w')) (by kernel_rfl) ?_ (fun hHeld => ?_)
          · ((try dsimp only); exact ⟨⟨keep_in h0 HB6.out.drew, keep_in h1 HB6.out.drew⟩, HB6.out.drew⟩)
          refine wpAnyH_take (i := 0) (v := ?_) rfl (by kernel_rfl) (by kernel_rfl) (by kernel_rfl) (fun _ _ _ h => h) (Or.inl ⟨by rfl, ?_⟩) (by assumption) ?_
          rotate_left
          · (intro w hSw; (try dsimp only at hSw); go_simp; (try with_reducible rfl))
          (try simp only [Act.put, List.getElem_toArray, List.getElem_cons_zero, List.setIfInBounds_toArray, List.set_cons_zero, List.set_cons_succ])
          refine wpAnyH_take (i := 1) (v := ?_) rfl (by kernel_rfl) (by kernel_rfl) (by kernel_rfl) (fun _ _ _ h => h) (Or.inl ⟨by rfl, ?_⟩) (by assumption) ?_
          rotate_left
          · (intro w hSw; (try dsimp only at hSw); go_simp; (try with_reducible rfl))
          (try simp only [Act.put, List.getElem_toArray, List.getElem_cons_succ, List.getElem_cons_zero, List.setIfInBounds_toArray, List.set_cons_zero, List.set_cons_succ])
          refine wpAnyH_take (i := 2) (v := ?_) rfl (by kernel_rfl) (by kernel_rfl) (by kernel_rfl) (fun _ _ _ h => h) (Or.inl ⟨by rfl, ?_⟩) (by assumption) ?_
          rotate_left
          · (intro w hSw; (try dsimp only at hSw); go_simp; (try with_reducible rfl))
          (try simp only [Act.put, List.getElem_toArray, List.getElem_cons_succ, List.getElem_cons_zero, List.setIfInBounds_toArray, List.set_cons_zero, List.set_cons_succ])
          refine wpAnyH_take (i := 3) (v := ?_) rfl (by kernel_rfl) (by kernel_rfl) (by kernel_rfl) (fun _ _ _ h => h) (Or.inl ⟨by rfl, ?_⟩) (by assumption) ?_
          rotate_left
          · (intro w hSw; (try dsimp only at hSw); go_simp; (try with_reducible rfl))
          (try simp only [Act.put, List.getElem_toArray, List.getElem_cons_succ, List.getElem_cons_zero, List.setIfInBounds_toArray, List.set_cons_zero, List.set_cons_succ])
          refine wpAnyH_take (i := 4) (v := ?_) rfl (by kernel_rfl) (by kernel_rfl) (by kernel_rfl) (fun _ _ _ h => h) (Or.inl ⟨by rfl, ?_⟩) (by assumption) ?_
          rotate_left
          · (intro w hSw; (try dsimp only at hSw); go_simp; (try with_reducible rfl))
          (try simp only [Act.put, List.getElem_toArray, List.getElem_cons_succ, List.getElem_cons_zero, List.setIfInBounds_toArray, List.set_cons_zero, List.set_cons_succ])
          refine wpAnyH_take (i := 5) (v := undef) rfl (by kernel_rfl) (by kernel_rfl) (by kernel_rfl) (fun _ _ _ h => h) (Or.inr ⟨by rfl, rfl⟩) (by assumption) ?_
          (try simp only [Act.put, List.getElem_toArray, List.getElem_cons_succ, List.getElem_cons_zero, List.setIfInBounds_toArray, List.set_cons_zero, List.set_cons_succ])
          refine wpAnyH_take (i := 6) (v := undef) rfl (by kernel_rfl) (by kernel_rfl) (by kernel_rfl) (fun _ _ _ h => h) (Or.inr ⟨by rfl, rfl⟩) (by assumption) ?_
          (try simp only [Act.put, List.getElem_toArray, List.getElem_cons_succ, List.getElem_cons_zero, List.setIfInBounds_toArray, List.set_cons_zero, List.set_cons_succ])
          refine wpAnyH_take (i := 7) (v := undef) rfl (by kernel_rfl) (by kernel_rfl) (by kernel_rfl) (fun _ _ _ h => h) (Or.inr ⟨by rfl, rfl⟩) (by assumption) ?_
          (try simp only [Act.put, List.getElem_toArray, List.getElem_cons_succ, List.getElem_cons_zero, List.setIfInBounds_toArray, List.set_cons_zero, List.set_cons_succ])
          refine wpAnyH_take (i := 8) (v := undef) rfl (by kernel_rfl) (by kernel_rfl) (by kernel_rfl) (fun _ _ _ h => h) (Or.inr ⟨by rfl, rfl⟩) (by assumption) ?_
          (try simp only [Act.put, List.getElem_toArray, List.getElem_cons_succ, List.getElem_cons_zero, List.setIfInBounds_toArray, List.set_cons_zero, List.set_cons_succ])
          refine wpAnyH_take (i := 9) (v := undef) rfl (by kernel_rfl) (by kernel_rfl) (by kernel_rfl) (fun _ _ _ h => h) (Or.inr ⟨by rfl, rfl⟩) (by assumption) ?_
          (try simp only [Act.put, List.getElem_toArray, List.getElem_cons_succ, List.getElem_cons_zero, List.setIfInBounds_toArray, List.set_cons_zero, List.set_cons_succ])
          refine wpAnyH_take (i := 10) (v := undef) rfl (by kernel_rfl) (by kernel_rfl) (by kernel_rfl) (fun _ _ _ h => h) (Or.inr ⟨by rfl, rfl⟩) (by assumption) ?_
          (try simp only [Act.put, List.getElem_toArray, List.getElem_cons_succ, List.getElem_cons_zero, List.setIfInBounds_toArray, List.set_cons_zero, List.set_cons_succ])
          refine wpAnyH_take (i := 11) (v := undef) rfl (by kernel_rfl) (by kernel_rfl) (by kernel_rfl) (fun _ _ _ h => h) (Or.inr ⟨by rfl, rfl⟩) (by assumption) ?_
          (try simp only [Act.put, List.getElem_toArray, List.getElem_cons_succ, List.getElem_cons_zero, List.setIfInBounds_toArray, List.set_cons_zero, List.set_cons_succ])
          refine wpAnyH_take (i := 12) (v := undef) rfl (by kernel_rfl) (by kernel_rfl) (by kernel_rfl) (fun _ _ _ h => h) (Or.inr ⟨by rfl, rfl⟩) (by assumption) ?_
          (try simp only [Act.put, List.getElem_toArray, List.getElem_cons_succ, List.getElem_cons_zero, List.setIfInBounds_toArray, List.set_cons_zero, List.set_cons_succ])
          refine wpAnyH_take (i := 13) (v := ?_) rfl (by kernel_rfl) (by kernel_rfl) (by kernel_rfl) (fun _ _ _ h => h) (Or.inl ⟨by rfl, ?_⟩) (by assumption) ?_
          rotate_left
          · (intro w hSw; (try dsimp only at hSw); go_simp; (try with_reducible rfl))
          (try simp only [Act.put, List.getElem_toArray, List.getElem_cons_succ, List.getElem_cons_zero, List.setIfInBounds_toArray, List.set_cons_zero, List.set_cons_succ])
          refine wpAnyH_done (by kernel_rfl) ?_ _
          refine NoPanic.normal ?_
          have HB7 := Lib.hid hHeld.2
          clear hHeld h0 h1
          go_wp2_with fail
          go_roundw
          case rel => exact ⟨i + 1, X, by omega, hX, by go_num, HX', Lib.hid (HBX.out.keep HB7.out), Lib.hid (HBY.out.keep HB7.out), Lib.hid (HB4.out.trans (HB7.out.mono HB4.out.size))⟩
          case measure => simp [intOf]; omega
        | true =>
          rw [hb] at hne HN
          clear hb
          go_upto_region 7 with fail
          refine wp_region_noPanic ?_
          refine wp_region_held_drew (S := (fun w' => (w'.cell? ⟨w.heap.size, 0, none⟩ = some (.int .i64 (X : Int)) ∧ w'.cell? ⟨w.heap.size, 1, none⟩ = some (.int .i64 (R : Int))) ∧ Below w4.heap.size w4 w')) (by kernel_rfl) ?_ (fun hHeld => ?_)
          · ((try dsimp only); exact ⟨⟨keep_in h0 HB6.out.drew, keep_in h1 HB6.out.drew⟩, HB6.out.drew⟩)
          refine wpAnyH_take (i := 0) (v := ?_) rfl (by kernel_rfl) (by kernel_rfl) (by kernel_rfl) (fun _ _ _ h => h) (Or.inl ⟨by rfl, ?_⟩) (by assumption) ?_
          rotate_left
          · (intro w hSw; (try dsimp only at hSw); go_simp; (try with_reducible rfl))
          (try simp only [Act.put, List.getElem_toArray, List.getElem_cons_zero, List.setIfInBounds_toArray, List.set_cons_zero, List.set_cons_succ])
          refine wpAnyH_take (i := 1) (v := ?_) rfl (by kernel_rfl) (by kernel_rfl) (by kernel_rfl) (fun _ _ _ h => h) (Or.inl ⟨by rfl, ?_⟩) (by assumption) ?_
          rotate_left
          · (intro w hSw; (try dsimp only at hSw); go_simp; (try with_reducible rfl))
          (try simp only [Act.put, List.getElem_toArray, List.getElem_cons_succ, List.getElem_cons_zero, List.setIfInBounds_toArray, List.set_cons_zero, List.set_cons_succ])
          refine wpAnyH_take (i := 2) (v := ?_) rfl (by kernel_rfl) (by kernel_rfl) (by kernel_rfl) (fun _ _ _ h => h) (Or.inl ⟨by rfl, ?_⟩) (by assumption) ?_
          rotate_left
          · (intro w hSw; (try dsimp only at hSw); go_simp; (try with_reducible rfl))
          (try simp only [Act.put, List.getElem_toArray, List.getElem_cons_succ, List.getElem_cons_zero, List.setIfInBounds_toArray, List.set_cons_zero, List.set_cons_succ])
          refine wpAnyH_take (i := 3) (v := ?_) rfl (by kernel_rfl) (by kernel_rfl) (by kernel_rfl) (fun _ _ _ h => h) (Or.inl ⟨by rfl, ?_⟩) (by assumption) ?_
          rotate_left
          · (intro w hSw; (try dsimp only at hSw); go_simp; (try with_reducible rfl))
          (try simp only [Act.put, List.getElem_toArray, List.getElem_cons_succ, List.getElem_cons_zero, List.setIfInBounds_toArray, List.set_cons_zero, List.set_cons_succ])
          refine wpAnyH_take (i := 4) (v := ?_) rfl (by kernel_rfl) (by kernel_rfl) (by kernel_rfl) (fun _ _ _ h => h) (Or.inl ⟨by rfl, ?_⟩) (by assumption) ?_
          rotate_left
          · (intro w hSw; (try dsimp only at hSw); go_simp; (try with_reducible rfl))
          (try simp only [Act.put, List.getElem_toArray, List.getElem_cons_succ, List.getElem_cons_zero, List.setIfInBounds_toArray, List.set_cons_zero, List.set_cons_succ])
          refine wpAnyH_take (i := 5) (v := ?_) rfl (by kernel_rfl) (by kernel_rfl) (by kernel_rfl) (fun _ _ _ h => h) (Or.inl ⟨by rfl, ?_⟩) (by assumption) ?_
          rotate_left
          · (intro w hSw; (try dsimp only at hSw); go_simp; (try with_reducible rfl))
          (try simp only [Act.put, List.getElem_toArray, List.getElem_cons_succ, List.getElem_cons_zero, List.setIfInBounds_toArray, List.set_cons_zero, List.set_cons_succ])
          refine wpAnyH_take (i := 6) (v := ?_) rfl (by kernel_rfl) (by kernel_rfl) (by kernel_rfl) (fun _ _ _ h => h) (Or.inl ⟨by rfl, ?_⟩) (by assumption) ?_
          rotate_left
          · (intro w hSw; (try dsimp only at hSw); go_simp; (try with_reducible rfl))
          (try simp only [Act.put, List.getElem_toArray, List.getElem_cons_succ, List.getElem_cons_zero, List.setIfInBounds_toArray, List.set_cons_zero, List.set_cons_succ])
          refine wpAnyH_take (i := 8) (v := ?_) rfl (by kernel_rfl) (by kernel_rfl) (by kernel_rfl) (fun _ _ _ h => h) (Or.inl ⟨by rfl, ?_⟩) (by assumption) ?_
          rotate_left
          · (intro w hSw; (try dsimp only at hSw); go_simp; (try with_reducible rfl))
          (try simp only [Act.put, List.getElem_toArray, List.getElem_cons_succ, List.getElem_cons_zero, List.setIfInBounds_toArray, List.set_cons_zero, List.set_cons_succ])
          refine wpAnyH_take (i := 9) (v := ?_) rfl (by kernel_rfl) (by kernel_rfl) (by kernel_rfl) (fun _ _ _ h => h) (Or.inl ⟨by rfl, ?_⟩) (by assumption) ?_
          rotate_left
          · (intro w hSw; (try dsimp only at hSw); go_simp; (try with_reducible rfl))
          (try simp only [Act.put, List.getElem_toArray, List.getElem_cons_succ, List.getElem_cons_zero, List.setIfInBounds_toArray, List.set_cons_zero, List.set_cons_succ])
          refine wpAnyH_ready (rs := [7]) (by kernel_rfl) (by simp) (AllReadyH.cons rfl (fun K hK => ?_) AllReadyH.nil)
          (first | (go_at_call 48; refine (HC.out _ (HB4.out.trans (hHeld.2.mono HB4.out.size))).mono ?_; rintro e w93 ⟨rfl, b93⟩) | (go_simp; go_at_call 48; refine (HC.out _ (HB4.out.trans (hHeld.2.mono HB4.out.size))).mono ?_; rintro e w93 ⟨rfl, b93⟩))
          (try (go_wp2_with fail))
          refine hK.out _ _ ?_ (fun hHeld => ?_)
          · ((try dsimp only); exact ⟨⟨keep_in hHeld.1.1 b93, keep_in hHeld.1.2 b93⟩, hHeld.2.trans (b93.mono hHeld.2.size)⟩)
          clear hK K
          (try simp only [Act.put, List.getElem_toArray, List.getElem_cons_succ, List.getElem_cons_zero, List.setIfInBounds_toArray, List.set_cons_zero, List.set_cons_succ])
          refine wpAnyH_take (i := 10) (v := ?_) rfl (by kernel_rfl) (by kernel_rfl) (by kernel_rfl) (fun _ _ _ h => h) (Or.inl ⟨by rfl, ?_⟩) (by assumption) ?_
          rotate_left
          · (intro w hSw; (try dsimp only at hSw); go_simp; (try with_reducible rfl))
          (try simp only [Act.put, List.getElem_toArray, List.getElem_cons_succ, List.getElem_cons_zero, List.setIfInBounds_toArray, List.set_cons_zero, List.set_cons_succ])
          refine wpAnyH_take (i := 11) (v := ?_) rfl (by kernel_rfl) (by kernel_rfl) (by kernel_rfl) (fun _ _ _ h => h) (Or.inl ⟨by rfl, ?_⟩) (by assumption) ?_
          rotate_left
          · (intro w hSw; (try dsimp only at hSw); go_simp; (try with_reducible rfl))
          (try simp only [Act.put, List.getElem_toArray, List.getElem_cons_succ, List.getElem_cons_zero, List.setIfInBounds_toArray, List.set_cons_zero, List.set_cons_succ])
          refine wpAnyH_take (i := 12) (v := ?_) rfl (by kernel_rfl) (by kernel_rfl) (by kernel_rfl) (fun _ _ _ h => h) (Or.inl ⟨by rfl, ?_⟩) (by assumption) ?_
          rotate_left
          · (intro w hSw; (try dsimp only at hSw); go_simp; (try with_reducible rfl))
          (try simp only [Act.put, List.getElem_toArray, List.getElem_cons_succ, List.getElem_cons_zero, List.setIfInBounds_toArray, List.set_cons_zero, List.set_cons_succ])
          refine wpAnyH_take (i := 13) (v := ?_) rfl (by kernel_rfl) (by kernel_rfl) (by kernel_rfl) (fun _ _ _ h => h) (Or.inl ⟨by rfl, ?_⟩) (by assumption) ?_
          rotate_left
          · (intro w hSw; (try dsimp only at hSw); go_simp; (try with_reducible rfl))
          (try simp only [Act.put, List.getElem_toArray, List.getElem_cons_succ, List.getElem_cons_zero, List.setIfInBounds_toArray, List.set_cons_zero, List.set_cons_succ])
          refine wpAnyH_done (by kernel_rfl) ?_ _
          refine NoPanic.normal ?_
          have HB7 := Lib.hid hHeld.2
          have HBX7 := Lib.hid (HBX.out.keep HB7.out)
          have HBY7 := Lib.hid (HBY.out.keep HB7.out)
          have HBB7 := Lib.hid (HB4.out.trans (HB7.out.mono HB4.out.size))
          clear hHeld h0 h1 b93
          cases hc : bitB (clo l Z) R with
          | false =>
            rw [hc] at hbt HN
            have HX' := Lib.hid (show X = redN l R L (i + 1) from HN.out.symm)
            clear hc
            go_wp2_with fail
            go_roundw
            case rel => exact ⟨i + 1, X, by omega, hX, by go_num, HX', HBX7, HBY7, HBB7⟩
            case measure => simp [intOf]; omega
          | true =>
            rw [hc] at hbt HN
            have HX' := Lib.hid (show Z = redN l R L (i + 1) from HN.out.symm)
            have h0 := HBX7.out.c0
            have f0 := HBX7.out.f0
            clear hc
            go_wp2_with fail
            go_roundw
            case rel => exact ⟨i + 1, Z, by omega, q2, by go_num, HX', Lib.hid (HBX7.out.set0 _), Lib.hid (HBY7.out.far (by omega)), Lib.hid (HBB7.out.setCell (p := ⟨w.heap.size, 0, none⟩) (Nat.le_refl _) _)⟩
            case measure => simp [intOf]; omega
      · obtain rfl : i = 5 := by omega
        have d0 := HBY.out.c0
        have d1 := HBY.out.c1
        have e0 := HBY.out.f0
        have e1 := HBY.out.f1
        go_wp2_with fail
        rw [← HX.out]
        exact bodyPost_ret (v := .agg #[.int .i64 (X : Int), .int .i64 (R : Int)]) (by simp [results, Tryz.results26, go_sem, d0, d1]) rfl ⟨rfl, (HB4.out.setCell (p := ⟨w.heap.size + 1, 0, none⟩) (by simp) _).setCell (p := ⟨w.heap.size + 1, 1, none⟩) (by simp) _⟩
end
end Go.Proofs.YtnbjcelfdppkcacGreat
namespace Go.Proofs.YtnbjcelfdppkcacGreat
open Go.RowKit

section
variable {P : Program} {w : World}
theorem run_append_all (base : Nat) (t ty e : TypeId) (i : TypeInfo) (z : Value) (size bytes : Nat) (ht : P.underlying t = some (.slice e)) (hi : P.info? e = some i) (hz : i.zero = some z)
    (hsize : i.size = size) (hby : i.bytes = bytes) (hzs : z.cells.size = size) (hsz : 0 < size)
    (v : Value) (n : Nat) (xs : List Value) (hown : w.ownsRow base e size v n xs)
    (a : Option Addr) (m c : Nat) (news : List Value) (hl : news.length = m * size) (hnews : ∀ j u, news[j]? = some u → ∃ x, a = some x ∧ w.cell? (x.add j) = some u) (h1 : ∀ u ∈ news, u.oneCell' = true)
    (h63 : n + m ≤ maxLen) (hbytes : (n + m) * bytes ≤ 140737488355328) (hbase : base ≤ w.heap.size) :
    ∃ v' w', (Builtin.append_ #[t, t] ty #[v, .slice a m c]).run P w = .ok v' w' ∧ w'.ownsRow base e size v' (n + m) (xs ++ news) ∧ w.grownBy w' v.ownBlock := by
  cases a with
  | some x =>
    obtain ⟨v', w', h2, h3, h4, -⟩ := run_append_own_at (P := P) w base t ty e i z size bytes ht hi hz hsize hby hzs hsz v n xs hown x m c news hl (fun j u hu => by
      obtain ⟨y, hy, hc⟩ := hnews j u hu
      cases hy
      exact hc) h1 h63 hbytes hbase
    exact ⟨v', w', h2, h3, h4⟩
  | none =>
    have hn : news = [] := by
      cases news with
      | nil => rfl
      | cons u us =>
        obtain ⟨y, hy, -⟩ := hnews 0 u rfl
        cases hy
    subst hn
    have hm : m = 0 := by
      rcases Nat.eq_zero_or_pos m with h | h
      · exact h
      · exfalso
        have := Nat.mul_pos h hsz
        rw [← hl] at this
        exact Nat.lt_irrefl 0 this
    subst hm
    refine ⟨v, w, ?_, by rw [Nat.add_zero, List.append_nil]; exact hown, ⟨rfl, rfl, rfl, Nat.le_refl _, fun _ _ _ => rfl⟩⟩
    rcases hown.2 with ⟨rfl, rfl⟩ | ⟨g, cap, cur, rfl, _, _, hnc, _⟩
    · simp [Builtin.append_, run_underlying ht, sizeOf, typeInfo, hi, Builtin.lenOf, Builtin.firstCells]
    · simp [Builtin.append_, run_underlying ht, sizeOf, typeInfo, hi, Builtin.lenOf, Builtin.firstCells, hnc, storeCells]
theorem wp_append_all {o : Oper} {a : Act} {K : Act → World → Prop} {Q : Exit → Act → World → Prop} (s x : Operand) (t : TypeId)
    (ho : o.op = .call { callee := .builtin .append, args := #[s, x], argTypes := #[t, t] })
    (base : Nat) (e : TypeId) (i : TypeInfo) (z : Value) (size bytes : Nat) (ht : P.underlying t = some (.slice e)) (hi : P.info? e = some i) (hz : i.zero = some z)
    (hsize : i.size = size) (hby : i.bytes = bytes) (hzs : z.cells.size = size) (hsz : 0 < size)
    (v : Value) (n : Nat) (xs : List Value) (hs : a.eval s = v) (hown : w.ownsRow base e size v n xs)
    (ad : Option Addr) (m c : Nat) (news : List Value) (hx : a.eval x = .slice ad m c) (hl : news.length = m * size) (hnews : ∀ j u, news[j]? = some u → ∃ x, ad = some x ∧ w.cell? (x.add j) = some u) (h1 : ∀ u ∈ news, u.oneCell' = true)
    (h63 : n + m ≤ maxLen) (hbytes : (n + m) * bytes ≤ 140737488355328) (hbase : base ≤ w.heap.size)
    (h : ∀ v' w', w'.ownsRow base e size v' (n + m) (xs ++ news) → w.grownBy w' v.ownBlock → K (a.put o.dst v') w') : o.wp P a w K Q := by
  obtain ⟨v', w', hr, h2, h3⟩ := run_append_all (P := P) (w := w) base t o.type e i z size bytes ht hi hz hsize hby hzs hsz v n xs hown ad m c news hl hnews h1 h63 hbytes hbase
  unfold Oper.wp execOp
  simp only [ho, resolve, invoke, builtin, Sem.run_bind, Sem.run_pure, Result.andThen_ok, List.map_toArray, List.map_cons, List.map_nil, hs, hx, hr]
  exact h v' w' h2 h3
theorem wpList_append_all {ops : Array Oper} {rest : List Oper} {o : Oper} {a : Act} {Q : Exit → Act → World → Prop} (hgd : o.guard = none) (s x : Operand) (t : TypeId)
    (ho : o.op = .call { callee := .builtin .append, args := #[s, x], argTypes := #[t, t] })
    (base : Nat) (e : TypeId) (i : TypeInfo) (z : Value) (size bytes : Nat) (ht : P.underlying t = some (.slice e)) (hi : P.info? e = some i) (hz : i.zero = some z)
    (hsize : i.size = size) (hby : i.bytes = bytes) (hzs : z.cells.size = size) (hsz : 0 < size)
    (v : Value) (n : Nat) (xs : List Value) (hs : a.eval s = v) (hown : w.ownsRow base e size v n xs)
    (ad : Option Addr) (m c : Nat) (news : List Value) (hx : a.eval x = .slice ad m c) (hl : news.length = m * size) (hnews : ∀ j u, news[j]? = some u → ∃ x, ad = some x ∧ w.cell? (x.add j) = some u) (h1 : ∀ u ∈ news, u.oneCell' = true)
    (h63 : n + m ≤ maxLen) (hbytes : (n + m) * bytes ≤ 140737488355328) (hbase : base ≤ w.heap.size)
    (h : ∀ v' w', w'.ownsRow base e size v' (n + m) (xs ++ news) → w.grownBy w' v.ownBlock → wpList P ops Q rest (a.put o.dst v') w') : wpList P ops Q (o :: rest) a w :=
  wpList_plain hgd fun _ hK => wp_append_all s x t ho base e i z size bytes ht hi hz hsize hby hzs hsz v n xs hs hown ad m c news hx hl hnews h1 h63 hbytes hbase fun v' w' h2 h3 => hK _ _ (h v' w' h2 h3)
theorem step_append_all {ops : Array Oper} {o : Oper} {a : Act} {K : Act → World → Prop} {Q : Exit → Act → World → Prop} {E : Prop} (hgd : o.guard = none) (s x : Operand) (t : TypeId)
    (ho : o.op = .call { callee := .builtin .append, args := #[s, x], argTypes := #[t, t] })
    (base : Nat) (e : TypeId) (i : TypeInfo) (z : Value) (size bytes : Nat) (ht : P.underlying t = some (.slice e)) (hi : P.info? e = some i) (hz : i.zero = some z)
    (hsize : i.size = size) (hby : i.bytes = bytes) (hzs : z.cells.size = size) (hsz : 0 < size)
    (v : Value) (n : Nat) (xs : List Value) (hs : a.eval s = v) (hown : w.ownsRow base e size v n xs)
    (ad : Option Addr) (m c : Nat) (news : List Value) (hx : a.eval x = .slice ad m c) (hl : news.length = m * size) (hnews : ∀ j u, news[j]? = some u → ∃ x, ad = some x ∧ w.cell? (x.add j) = some u) (h1 : ∀ u ∈ news, u.oneCell' = true)
    (h63 : n + m ≤ maxLen) (hbytes : (n + m) * bytes ≤ 140737488355328) (hbase : base ≤ w.heap.size)
    (h : ∀ v' w', w'.ownsRow base e size v' (n + m) (xs ++ news) → w.grownBy w' v.ownBlock → K (a.put o.dst v') w') :
    if Region.wanted o (yielded ops a.tmps) = true then Oper.wp P o a w K Q else E := by
  have hw : Region.wanted o (yielded ops a.tmps) = true := by simp [Region.wanted, hgd]
  rw [if_pos hw]
  exact wp_append_all s x t ho base e i z size bytes ht hi hz hsize hby hzs hsz v n xs hs hown ad m c news hx hl hnews h1 h63 hbytes hbase h
end
theorem intsV_each (l : List Int) : ∀ u ∈ intsV l, u.oneCell' = true := by intro u hu; unfold intsV at hu; rw [List.mem_map] at hu; obtain ⟨x, -, rfl⟩ := hu; rfl
/-- The cells that a whole slice brings. -/
theorem newsI {w : World} {a : Option Addr} {c : Nat} {l : List Int} (h : ReadI w (.slice a l.length c) l) : ∀ j u, (intsV l)[j]? = some u → ∃ x, a = some x ∧ w.cell? (x.add j) = some u := by
  intro j u hu
  have hj : j < l.length := by
    have := (List.getElem?_eq_some_iff.1 hu).1
    rwa [intsV_length] at this
  rw [intsV_get l j hj] at hu
  obtain ⟨a', cap, hv, hc⟩ := h
  cases hv
  obtain ⟨x, hx, hcell⟩ := hc j hj
  exact ⟨x, hx, by rw [hcell, ← hu]⟩
theorem depsV_one (l : List (Int × Int)) : ∀ u ∈ depsV l, u.oneCell' = true := by
  induction l with
  | nil => intro u hu; cases hu
  | cons d l ih =>
    intro u hu
    unfold depsV at hu
    rcases List.mem_cons.1 hu with rfl | hu
    · rfl
    · rcases List.mem_cons.1 hu with rfl | hu
      · rfl
      · exact ih u hu
theorem cell_inB {w w' : World} {p : Addr} {v : Value} (h : w.cell? p = some v) (b : Below w.heap.size w w') : w'.cell? p = some v := (b.cell (World.block_lt_of_cell? w _ h)).trans h
theorem add_off (b o j : Nat) : (⟨b, o, none⟩ : Addr).add j = ⟨b, o + j, none⟩ := by unfold Addr.add; split <;> simp_all
theorem newsD {w : World} {a : Option Addr} {c : Nat} {l : List (Int × Int)} (h : ReadD w (.slice a l.length c) l) : ∀ j u, (depsV l)[j]? = some u → ∃ x, a = some x ∧ w.cell? (x.add j) = some u := by
  intro j u hu
  have hj : j < l.length * 2 := by
    have := (List.getElem?_eq_some_iff.1 hu).1
    rwa [depsV_len] at this
  obtain ⟨a', cap, hv, hc⟩ := h
  cases hv
  have hi : j / 2 < l.length := by omega
  obtain ⟨b, o, ha, h0, h1⟩ := hc (j / 2) hi
  obtain ⟨g0, g1⟩ := depsV_get l (j / 2) hi
  refine ⟨⟨b, o, none⟩, ha, ?_⟩
  rw [add_off]
  rcases Nat.mod_two_eq_zero_or_one j with hm | hm
  · have e : j / 2 * 2 = j := by omega
    rw [e] at h0 g0
    rw [h0, ← hu, g0]
  · have e : j / 2 * 2 + 1 = j := by omega
    have e2 : o + j / 2 * 2 + 1 = o + j := by omega
    rw [e2] at h1
    rw [e] at g1
    rw [h1, ← hu, g1]
/-- The value of a row of a slice of rows. -/
def rowV (w : World) (a : Option Addr) (i : Nat) : Value := match a with | some x => (w.cell? (x.add i)).getD (.slice none 0 0) | none => .slice none 0 0
theorem rowV_at {w : World} {v : Value} {ll : List (List Int)} (h : ReadSS w v ll) : ∃ a c, v = .slice a ll.length c ∧ ∀ i, i < ll.length → ReadI w (rowV w a i) (ll.getD i []) ∧ ∃ x, a = some x ∧ w.cell? (x.add i) = some (rowV w a i) := by
  obtain ⟨a, c, hv, hc⟩ := h
  refine ⟨a, c, hv, fun i hi => ?_⟩
  obtain ⟨x, u, rfl, hx, hr⟩ := hc i hi
  have e : rowV w (some x) i = u := by simp only [rowV, hx]; rfl
  rw [e]
  exact ⟨hr, x, rfl, hx⟩
theorem newsR {w : World} {a : Option Addr} {n : Nat} (h : ∀ i, i < n → ∃ x, a = some x ∧ w.cell? (x.add i) = some (rowV w a i)) : ∀ j u, ((List.range n).map (rowV w a))[j]? = some u → ∃ x, a = some x ∧ w.cell? (x.add j) = some u := by
  intro j u hu
  have hj : j < n := by simpa using (List.getElem?_eq_some_iff.1 hu).1
  obtain ⟨x, hx, hc⟩ := h j hj
  rw [List.getElem?_map, List.getElem?_range hj] at hu
  simp only [Option.map_some, Option.some.injEq] at hu
  exact ⟨x, hx, by rw [hc, hu]⟩
theorem rowV_one {w : World} {a : Option Addr} {n : Nat} {ll : List (List Int)} (h : ∀ i, i < n → ReadI w (rowV w a i) (ll.getD i [])) : ∀ u ∈ (List.range n).map (rowV w a), u.oneCell' = true := by
  intro u hu
  rw [List.mem_map] at hu
  obtain ⟨i, hi, rfl⟩ := hu
  obtain ⟨b, c, e, -⟩ := h i (List.mem_range.1 hi)
  rw [e]
  rfl
/-- A new row of the call's own without cells. -/
theorem own_made (w : World) (B : Nat) (T : TypeId) (n : Nat) (hB : B ≤ w.heap.size) : (w.alloc (.cells #[] T)).ownsRow B T n (.slice (some ⟨w.heap.size, 0, none⟩) 0 0) 0 [] := World.ownsRow_made w #[] 0 hB (by unfold maxLen; omega) (by simp)
end Go.Proofs.YtnbjcelfdppkcacGreat
namespace Go.Proofs.YtnbjcelfdppkcacGreat
open Go.RowKit

set_option maxHeartbeats 800000 in
theorem l2Ints_any (v v' : Value) (l l' : List Int) (w : World) (hr : ReadI w v l) (hr' : ReadI w v' l') (hl : l.length ≤ 1000000000) :
    Calls Tryz.prog 67 #[v, v'] w fun e w' => e = .returned (.bool (eqB l l')) ∧ ∃ m, w' = w.drewN m := by
  obtain ⟨a, cap, rfl, ha⟩ := hr
  obtain ⟨a', cap', rfl, ha'⟩ := hr'
  have HA := Lib.hid ha
  have HA' := Lib.hid ha'
  clear ha ha'
  by_cases hlen : l.length = l'.length
  · have hne : ((l.length : Int) != (l'.length : Int)) = false := by simp [hlen]
    have HL := Lib.hid hlen
    clear hlen
    go_enter Tryz.func67, Tryz.ntmps67
    go_wp2_with fail
    go_loopw [5] (fun iv wr => ∃ (k n : Nat), k ≤ l.length ∧ iv = .int .i64 (k : Int) ∧ Hid (l.take k = l'.take k) ∧ wr = w.drewN n) (fun iv _ => l.length - (intOf iv).toNat)
    case atStart => exact ⟨0, 0, by omega, rfl, Lib.hid rfl, rfl⟩
    case round =>
      obtain ⟨k, n, hk, rfl, hsame, rfl⟩ := hrel
      by_cases hlt : k < l.length
      · have hlt' : k < l'.length := by have := HL.out; omega
        obtain ⟨x, rfl, hx⟩ := HA.out k hlt
        obtain ⟨x', rfl, hx'⟩ := HA'.out k hlt'
        have z0 : (0 : Int) ≤ (k : Int) := by omega
        have z1 : (k : Int) < (l.length : Int) := by omega
        have z2 : (k : Int) < (l'.length : Int) := by omega
        by_cases he : l[k] = l'[k]
        · have hb : (l[k] != l'[k]) = false := by simp [he]
          have HE := Lib.hid he
          clear he
          go_wp2_with fail
          go_quiet (fail)
          go_wp2_with fail
          go_roundw
          case rel => exact ⟨k + 1, _, by omega, by go_num, Lib.hid (by rw [List.take_succ_eq_append_getElem hlt, List.take_succ_eq_append_getElem hlt', hsame.out, HE.out]), rfl⟩
          case measure => simp [intOf]; omega
        · have hb : (l[k] != l'[k]) = true := by simpa using he
          have HE := Lib.hid he
          clear he
          go_wp2_with fail
          go_quiet (fail)
          go_wp2_with fail
          go_ret
          exact ⟨ret_b (by unfold eqB; rw [decide_eq_false]; intro e; apply HE.out; simp only [e]), _, World.drewN_drewN _ _ _⟩
      · go_wp2_with fail
        go_ret
        exact ⟨ret_b (by
          unfold eqB
          rw [decide_eq_true]
          have := hsame.out
          rwa [List.take_of_length_le (by omega), List.take_of_length_le (by have := HL.out; omega)] at this), _, rfl⟩
  · have hne : ((l.length : Int) != (l'.length : Int)) = true := by simp; omega
    have HL := Lib.hid hlen
    clear hlen
    go_enter Tryz.func67, Tryz.ntmps67
    go_wp2_with fail
    go_ret
    exact ⟨ret_b (by unfold eqB; rw [decide_eq_false]; intro e; exact HL.out (by rw [e])), 0, rfl⟩

/-- The cells of two boxed tables, later. -/
theorem box4 {w wr : World} {c c' : Int} {v v' : Value} {T : TypeId} (hb : Below ((w.alloc (.cells #[.int .i64 c, v] T)).alloc (.cells #[.int .i64 c', v'] T)).heap.size ((w.alloc (.cells #[.int .i64 c, v] T)).alloc (.cells #[.int .i64 c', v'] T)) wr) :
    (wr.cell? ⟨w.heap.size, 0, none⟩ = some (.int .i64 c) ∧ wr.cell? ⟨w.heap.size, 1, none⟩ = some v) ∧ wr.cell? ⟨w.heap.size + 1, 0, none⟩ = some (.int .i64 c') ∧ wr.cell? ⟨w.heap.size + 1, 1, none⟩ = some v' := by
  have h1 := box2 (w := w) ((Below.refl _ _).alloc (Nat.le_refl _) (.cells #[.int .i64 c', v'] T) |>.trans (hb.mono (by simp)))
  have h2 := box2 (w := w.alloc (.cells #[.int .i64 c, v] T)) hb
  exact ⟨h1, by simpa using h2⟩
/-- What is held of a region in which tables are loaded and copied: the cells of two boxes, and the second table's rows. -/
theorem keepT {w5 w6 w7 : World} {p q r t : Addr} {u0 u1 u2 u3 : Value} {vx : Value} {ll : List (List Int)} (h : (w6.cell? p = some u0 ∧ w6.cell? q = some u1) ∧ (w6.cell? r = some u2 ∧ w6.cell? t = some u3) ∧ ReadSS w6 vx ll ∧ Below w5.heap.size w5 w6) (hb : Below w6.heap.size w6 w7) :
    (w7.cell? p = some u0 ∧ w7.cell? q = some u1) ∧ (w7.cell? r = some u2 ∧ w7.cell? t = some u3) ∧ ReadSS w7 vx ll ∧ Below w5.heap.size w5 w7 := by
  have k : ∀ {a : Addr} {u : Value}, w6.cell? a = some u → w7.cell? a = some u := fun e => (hb.cell (World.block_lt_of_cell? w6 _ e)).trans e
  exact ⟨⟨k h.1.1, k h.1.2⟩, ⟨k h.2.1.1, k h.2.1.2⟩, h.2.2.1.kept hb, h.2.2.2.trans (hb.mono h.2.2.2.size)⟩
theorem keepQ {w5 w6 w7 : World} {p q r t : Addr} {u0 u1 u2 u3 : Value} (h : ((w6.cell? p = some u0 ∧ w6.cell? q = some u1) ∧ w6.cell? r = some u2 ∧ w6.cell? t = some u3) ∧ Below w5.heap.size w5 w6) (hb : Below w6.heap.size w6 w7) :
    ((w7.cell? p = some u0 ∧ w7.cell? q = some u1) ∧ w7.cell? r = some u2 ∧ w7.cell? t = some u3) ∧ Below w5.heap.size w5 w7 := by
  have k : ∀ {a : Addr} {u : Value}, w6.cell? a = some u → w7.cell? a = some u := fun e => (hb.cell (World.block_lt_of_cell? w6 _ e)).trans e
  exact ⟨⟨⟨k h.1.1.1, k h.1.1.2⟩, k h.1.2.1, k h.1.2.2⟩, h.2.trans (hb.mono h.2.size)⟩
end Go.Proofs.YtnbjcelfdppkcacGreat
