/- Texts of this claim, merged: ClL, ClH, ClR, OwnDs. Conditions: as stated. -/
import Derived.Test.YtcgkfbjdlhapkaaClDm
import Derived.Test.YtcgkfbjdlhapkaaYa12
namespace Go.Proofs.Ytcgkfbjdlhapkaa
open Go.RowKit

def clrN (x i : Nat) : Nat := if bitB x i = true then x - 2 ^ i else x
theorem clrN_fin : ∀ (x : Fin 32) (i : Fin 5), bits .andNot .i64 ((x.val : Nat) : Int) (IntKind.i64.wrap (2 ^ i.val)) = ((clrN x.val i.val : Nat) : Int) ∧ clrN x.val i.val < 32 ∧ subN (clrN x.val i.val) x.val = true := by decide +kernel
theorem clrN_eq : ∀ (x : Fin 32) (i : Fin 5), (clrN x.val i.val == x.val) = !bitB x.val i.val := by decide +kernel
def redAt (l : List (Int × Int)) (R x i : Nat) : Nat := if bitB x i = true then (if bitB (clo l (clrN x i)) R = true then clrN x i else x) else x
def redN (l : List (Int × Int)) (R x : Nat) : Nat → Nat
  | 0 => x
  | i + 1 => redAt l R (redN l R x i) i
def redD (n : Int) (l : List (Int × Int)) (d : Int × Int) : Int × Int := if impB n l d = true then (((redN l d.2.toNat d.1.toNat 5 : Nat) : Int), d.2) else d
def Bx (w : World) (b : Nat) (x y : Int) : Prop := w.heap[b]? = some (.cells #[.int .i64 x, .int .i64 y] 44 (0, 0))
theorem Bx.c0 {w : World} {b : Nat} {x y : Int} (h : Bx w b x y) : w.cell? ⟨b, 0, none⟩ = some (.int .i64 x) := by rw [cell_of_row w b 0 _ _ _ h]; rfl
theorem Bx.c1 {w : World} {b : Nat} {x y : Int} (h : Bx w b x y) : w.cell? ⟨b, 1, none⟩ = some (.int .i64 y) := by rw [cell_of_row w b 1 _ _ _ h]; rfl
theorem Bx.f0 {w : World} {b : Nat} {x y : Int} (h : Bx w b x y) : w.frozen? ⟨b, 0, none⟩ = false := frozen_of_row w b 0 _ _ h
theorem Bx.f1 {w : World} {b : Nat} {x y : Int} (h : Bx w b x y) : w.frozen? ⟨b, 1, none⟩ = false := frozen_of_row w b 1 _ _ h
theorem Bx.keep {w w' : World} {b : Nat} {x y : Int} (h : Bx w b x y) (hb : Below w.heap.size w w') : Bx w' b x y := (hb.block b (World.block_lt_of_cell? w _ h.c0)).trans h
theorem Bx.set0 {w : World} {b : Nat} {x y : Int} (h : Bx w b x y) (z : Int) : Bx (w.setCell ⟨b, 0, none⟩ (.int .i64 z)) b z y := heap_setCell_same w b 0 _ _ _ h
theorem Bx.far {w : World} {b c k : Nat} {x y : Int} {v : Value} (h : Bx w b x y) (hc : b ≠ c) : Bx (w.setCell ⟨c, k, none⟩ v) b x y := (Below.heap_setCell w ⟨c, k, none⟩ v b hc).trans h
theorem bx_new (w : World) (x y : Int) : Bx (w.alloc (.cells #[.int .i64 x, .int .i64 y] 44)) w.heap.size x y := heap_alloc_new w _
section
set_option maxRecDepth 20000
set_option maxHeartbeats 3200000
theorem reduceLeft11_any (v : Value) (n x y : Int) (l : List (Int × Int)) (w : World) (hr : ReadD w v l) (hl : l.length ≤ 1048576) :
    Calls Try.prog 106 #[.int .i64 n, v, .agg #[.int .i64 x, .int .i64 y]] w fun e w' => e = .returned (.agg #[.int .i64 (redD n l (x, y)).1, .int .i64 (redD n l (x, y)).2]) ∧ Below w.heap.size w w' := by
  have hb1 := (Below.refl w.heap.size w).alloc (Nat.le_refl _) (.cells #[.int .i64 x, .int .i64 y] 44)
  have hb2 := hb1.alloc hb1.size (.cells #[.int .i64 0, .int .i64 0] 44)
  have HIM := Lib.hid (impliesDep10_any v n x y l _ (hr.kept hb2) hl)
  have HB2 := Lib.hid hb2
  have hba := (Below.refl (w.alloc (.cells #[.int .i64 x, .int .i64 y] 44)).heap.size _).alloc (Nat.le_refl _) (.cells #[.int .i64 0, .int .i64 0] 44)
  have HX0 := Lib.hid ((bx_new w x y).keep hba)
  have hx1 := bx_new (w.alloc (.cells #[.int .i64 x, .int .i64 y] 44)) 0 0
  rw [World.size_alloc] at hx1
  have HX1 := Lib.hid hx1
  clear hb1 hb2 hba hx1
  cases him : impB n l (x, y) with
  | false =>
    rw [him] at HIM
    have HE : Hid (redD n l (x, y) = (x, y)) := Lib.hid (by unfold redD; rw [him]; rfl)
    rw [HE.out]
    obtain ⟨a, cap, rfl, -⟩ := hr
    clear him
    go_enter Try.func106, Try.ntmps106
    have c0 := HX0.out.c0
    have c1 := HX0.out.c1
    go_wp2_with fail
    refine HIM.out.mono ?_
    rintro e w3 ⟨rfl, b3⟩
    have HB3 := Lib.hid (HB2.out.trans (b3.mono HB2.out.size))
    have HX3 := Lib.hid (HX0.out.keep b3)
    have HY3 := Lib.hid (HX1.out.keep b3)
    clear b3 c0 c1
    have c0 := HX3.out.c0
    have c1 := HX3.out.c1
    have d0 := HY3.out.c0
    have d1 := HY3.out.c1
    have e0 := HY3.out.f0
    have e1 := HY3.out.f1
    go_wp2_with fail
    exact bodyPost_ret (v := .agg #[.int .i64 x, .int .i64 y]) (by simp [results, Try.results106, go_sem, d0, d1]) rfl ⟨rfl, (HB3.out.setCell (p := ⟨w.heap.size + 1, 0, none⟩) (by simp) _).setCell (p := ⟨w.heap.size + 1, 1, none⟩) (by simp) _⟩
  | true =>
    rw [him] at HIM
    have him2 := him
    unfold impB at him2
    rw [Bool.and_eq_true, Bool.and_eq_true] at him2
    obtain ⟨ha, hdp, -⟩ := him2
    obtain ⟨C, rfl, hC1, hC5, -, hd⟩ := arD_n ha
    obtain ⟨-, k1, k2, k3⟩ := depB_iff.1 hdp
    simp only at k1 k2 k3
    obtain ⟨L, rfl, hL, -⟩ := isA_lt hC5 k1
    obtain ⟨R, rfl⟩ : ∃ R : Nat, y = (R : Int) := ⟨y.toNat, by omega⟩
    have hR5 : R < 5 := by omega
    have hR64 : R ≤ 64 := by omega
    have HE : Hid (redD (C : Int) l ((L : Int), (R : Int)) = (((redN l R L 5 : Nat) : Int), (R : Int))) := Lib.hid (by unfold redD; rw [if_pos him]; rfl)
    rw [HE.out]
    have HCC := Lib.hid (fun (X : Nat) (hX : X < 32) w' (hb : Below w.heap.size w w') => close10_any C hC5 v l hd X hX w' (hr.kept hb) hl)
    obtain ⟨a, cap, rfl, -⟩ := hr
    clear him hdp k1 k3 ha hd HE
    go_enter Try.func106, Try.ntmps106
    have c0 := HX0.out.c0
    have c1 := HX0.out.c1
    go_wp2_with fail
    refine HIM.out.mono ?_
    rintro e w3 ⟨rfl, b3⟩
    have HB3 := Lib.hid (HB2.out.trans (b3.mono HB2.out.size))
    have HX3 := Lib.hid (HX0.out.keep b3)
    have HY3 := Lib.hid (HX1.out.keep b3)
    clear b3 c0 c1 HX0 HX1 HB2 HIM
    go_wp2_with fail
    go_loopw [7, 8] (fun iv yv wr => ∃ i X : Nat, i ≤ 5 ∧ X < 32 ∧ iv = .int .i64 (i : Int) ∧ Hid (X = redN l R L i) ∧ Hid (Bx wr w.heap.size (X : Int) (R : Int)) ∧ Hid (Bx wr (w.heap.size + 1) 0 0) ∧ Hid (Below w.heap.size w wr)) (fun iv _ _ => 5 - (intOf iv).toNat)
    case atStart => exact ⟨0, L, by omega, hL, rfl, Lib.hid rfl, HX3, HY3, HB3⟩
    case round =>
      clear HX3 HY3 HB3
      obtain ⟨i, X, hi, hX, rfl, HX, HBX, HBY, HB⟩ := hrel
      obtain ⟨w4, hw⟩ : ∃ w', w' = wr := ⟨_, rfl⟩
      rw [← hw] at HBX HBY HB ⊢
      clear hw
      have HB4 := Lib.hid HB.out
      have h0 := HBX.out.c0
      have h1 := HBX.out.c1
      by_cases hlt : i < 5
      · have z0 : (0 : Int) ≤ (i : Int) := by omega
        have z1 : (i : Int) < 5 := by omega
        have hi64 : i ≤ 64 := by omega
        obtain ⟨q1, q2, -⟩ := clrN_fin ⟨X, hX⟩ ⟨i, hlt⟩
        have q3 := clrN_eq ⟨X, hX⟩ ⟨i, hlt⟩
        simp only at q1 q2 q3
        have HN : Hid (redN l R L (i + 1) = redAt l R X i) := Lib.hid (by rw [HX.out]; rfl)
        unfold redAt at HN
        obtain ⟨Z, hZ⟩ : ∃ Z, Z = clrN X i := ⟨_, rfl⟩
        rw [← hZ] at q1 q2 q3 HN
        have hne : ((Z : Int) == (X : Int)) = (Z == X) := by rw [Bool.eq_iff_iff, beq_iff_eq, beq_iff_eq]; omega
        rw [q3] at hne
        replace hne : ((Z : Int) != (X : Int)) = bitB X i := by rw [bne, hne, Bool.not_not]
        have HC := Lib.hid (HCC.out Z q2)
        have hbt := bit_test (clo l Z) R
        clear hZ q3
        go_upto_region 6 with fail
        refine wp_region_noPanic ?_
        refine wp_region_held_drew (S := (fun w' => (w'.cell? ⟨w.heap.size, 0, none⟩ = some (.int .i64 (X : Int)) ∧ w'.cell? ⟨w.heap.size, 1, none⟩ = some (.int .i64 (R : Int))) ∧ Below w4.heap.size w4 w')) (by kernel_rfl) ?_ (fun hHeld => ?_)
        · ((try dsimp only); exact ⟨⟨h0, h1⟩, (Below.refl _ _).drew⟩)
        refine wpAnyH_take (i := 0) (v := ?_) rfl (by kernel_rfl) (by kernel_rfl) (by kernel_rfl) (fun _ _ _ h => h) (Or.inl ⟨by rfl, ?_⟩) (by assumption) ?_
        rotate_left
        · (intro w hSw; (try dsimp only at hSw); go_simp; (try with_reducible rfl))
        (try simp only [Act.put, List.getElem_toArray, List.getElem_cons_zero, List.setIfInBounds_toArray, List.set_cons_zero, List.set_cons_succ])
        refine wpAnyH_take (i := 1) (v := ?_) rfl (by kernel_rfl) (by kernel_rfl) (by kernel_rfl) (fun _ _ _ h => h) (Or.inl ⟨by rfl, ?_⟩) (by assumption) ?_
        rotate_left
        · (intro w hSw; (try dsimp only at hSw); go_simp; (try with_reducible rfl))
        (try simp only [Act.put, List.getElem_toArray, List.getElem_cons_succ, List.getElem_cons_zero, List.setIfInBounds_toArray, List.set_cons_zero, List.set_cons_succ])
        refine wpAnyH_take (i := 2) (v := ?_) rfl (by kernel_rfl) (by kernel_rfl) (by kernel_rfl) (fun _ _ _ h => h) (Or.inl ⟨by rfl, ?_⟩) (by assumption) ?_
        rotate_left
        · (intro w hSw; (try dsimp only at hSw); go_simp; (try with_reducible rfl))
        (try simp only [Act.put, List.getElem_toArray, List.getElem_cons_succ, List.getElem_cons_zero, List.setIfInBounds_toArray, List.set_cons_zero, List.set_cons_succ])
        refine wpAnyH_take (i := 3) (v := ?_) rfl (by kernel_rfl) (by kernel_rfl) (by kernel_rfl) (fun _ _ _ h => h) (Or.inl ⟨by rfl, ?_⟩) (by assumption) ?_
        rotate_left
        · (intro w hSw; (try dsimp only at hSw); go_simp; (try with_reducible rfl))
        (try simp only [Act.put, List.getElem_toArray, List.getElem_cons_succ, List.getElem_cons_zero, List.setIfInBounds_toArray, List.set_cons_zero, List.set_cons_succ])
        refine wpAnyH_take (i := 4) (v := ?_) rfl (by kernel_rfl) (by kernel_rfl) (by kernel_rfl) (fun _ _ _ h => h) (Or.inl ⟨by rfl, ?_⟩) (by assumption) ?_
        rotate_left
        · (intro w hSw; (try dsimp only at hSw); go_simp; (try with_reducible rfl))
        (try simp only [Act.put, List.getElem_toArray, List.getElem_cons_succ, List.getElem_cons_zero, List.setIfInBounds_toArray, List.set_cons_zero, List.set_cons_succ])
        refine wpAnyH_take (i := 5) (v := ?_) rfl (by kernel_rfl) (by kernel_rfl) (by kernel_rfl) (fun _ _ _ h => h) (Or.inl ⟨by rfl, ?_⟩) (by assumption) ?_
        rotate_left
        · (intro w hSw; (try dsimp only at hSw); go_simp; (try with_reducible rfl))
        (try simp only [Act.put, List.getElem_toArray, List.getElem_cons_succ, List.getElem_cons_zero, List.setIfInBounds_toArray, List.set_cons_zero, List.set_cons_succ])
        refine wpAnyH_done (by kernel_rfl) ?_ _
        refine NoPanic.normal ?_
        have HB6 := Lib.hid hHeld.2
        clear hHeld
        (try rw [q1])
        cases hb : bitB X i with
        | false =>
          rw [hb] at hne HN
          have HX' := Lib.hid (show X = redN l R L (i + 1) from HN.out.symm)
          clear hb
          go_upto_region 7 with fail
          refine wp_region_noPanic ?_
          refine wp_region_held_drew (S := (fun w' => (w'.cell? ⟨w.heap.size, 0, none⟩ = some (.int .i64 (X : Int)) ∧ w'.cell? ⟨w.heap.size, 1, none⟩ = some (.int .i64 (R : Int))) ∧ Below w4.heap.size w4 w')) (by kernel_rfl) ?_ (fun hHeld => ?_)
          · ((try dsimp only); exact ⟨⟨keep_in h0 HB6.out.drew, keep_in h1 HB6.out.drew⟩, HB6.out.drew⟩)
          refine wpAnyH_take (i := 0) (v := ?_) rfl (by kernel_rfl) (by kernel_rfl) (by kernel_rfl) (fun _ _ _ h => h) (Or.inl ⟨by rfl, ?_⟩) (by assumption) ?_
          rotate_left
          · (intro w hSw; (try dsimp only at hSw); go_simp; (try with_reducible rfl))
          (try simp only [Act.put, List.getElem_toArray, List.getElem_cons_zero, List.setIfInBounds_toArray, List.set_cons_zero, List.set_cons_succ])
          refine wpAnyH_take (i := 1) (v := ?_) rfl (by kernel_rfl) (by kernel_rfl) (by kernel_rfl) (fun _ _ _ h => h) (Or.inl ⟨by rfl, ?_⟩) (by assumption) ?_
          rotate_left
          · (intro w hSw; (try dsimp only at hSw); go_simp; (try with_reducible rfl))
          (try simp only [Act.put, List.getElem_toArray, List.getElem_cons_succ, List.getElem_cons_zero, List.setIfInBounds_toArray, List.set_cons_zero, List.set_cons_succ])
          refine wpAnyH_take (i := 2) (v := ?_) rfl (by kernel_rfl) (by kernel_rfl) (by kernel_rfl) (fun _ _ _ h => h) (Or.inl ⟨by rfl, ?_⟩) (by assumption) ?_
          rotate_left
          · (intro w hSw; (try dsimp only at hSw); go_simp; (try with_reducible rfl))
          (try simp only [Act.put, List.getElem_toArray, List.getElem_cons_succ, List.getElem_cons_zero, List.setIfInBounds_toArray, List.set_cons_zero, List.set_cons_succ])
          refine wpAnyH_take (i := 3) (v := ?_) rfl (by kernel_rfl) (by kernel_rfl) (by kernel_rfl) (fun _ _ _ h => h) (Or.inl ⟨by rfl, ?_⟩) (by assumption) ?_
          rotate_left
          · (intro w hSw; (try dsimp only at hSw); go_simp; (try with_reducible rfl))
          (try simp only [Act.put, List.getElem_toArray, List.getElem_cons_succ, List.getElem_cons_zero, List.setIfInBounds_toArray, List.set_cons_zero, List.set_cons_succ])
          refine wpAnyH_take (i := 4) (v := ?_) rfl (by kernel_rfl) (by kernel_rfl) (by kernel_rfl) (fun _ _ _ h => h) (Or.inl ⟨by rfl, ?_⟩) (by assumption) ?_
          rotate_left
          · (intro w hSw; (try dsimp only at hSw); go_simp; (try with_reducible rfl))
          (try simp only [Act.put, List.getElem_toArray, List.getElem_cons_succ, List.getElem_cons_zero, List.setIfInBounds_toArray, List.set_cons_zero, List.set_cons_succ])
          refine wpAnyH_take (i := 5) (v := undef) rfl (by kernel_rfl) (by kernel_rfl) (by kernel_rfl) (fun _ _ _ h => h) (Or.inr ⟨by rfl, rfl⟩) (by assumption) ?_
          (try simp only [Act.put, List.getElem_toArray, List.getElem_cons_succ, List.getElem_cons_zero, List.setIfInBounds_toArray, List.set_cons_zero, List.set_cons_succ])
          refine wpAnyH_take (i := 6) (v := undef) rfl (by kernel_rfl) (by kernel_rfl) (by kernel_rfl) (fun _ _ _ h => h) (Or.inr ⟨by rfl, rfl⟩) (by assumption) ?_
          (try simp only [Act.put, List.getElem_toArray, List.getElem_cons_succ, List.getElem_cons_zero, List.setIfInBounds_toArray, List.set_cons_zero, List.set_cons_succ])
          refine wpAnyH_take (i := 7) (v := undef) rfl (by kernel_rfl) (by kernel_rfl) (by kernel_rfl) (fun _ _ _ h => h) (Or.inr ⟨by rfl, rfl⟩) (by assumption) ?_
          (try simp only [Act.put, List.getElem_toArray, List.getElem_cons_succ, List.getElem_cons_zero, List.setIfInBounds_toArray, List.set_cons_zero, List.set_cons_succ])
          refine wpAnyH_take (i := 8) (v := undef) rfl (by kernel_rfl) (by kernel_rfl) (by kernel_rfl) (fun _ _ _ h => h) (Or.inr ⟨by rfl, rfl⟩) (by assumption) ?_
          (try simp only [Act.put, List.getElem_toArray, List.getElem_cons_succ, List.getElem_cons_zero, List.setIfInBounds_toArray, List.set_cons_zero, List.set_cons_succ])
          refine wpAnyH_take (i := 9) (v := undef) rfl (by kernel_rfl) (by kernel_rfl) (by kernel_rfl) (fun _ _ _ h => h) (Or.inr ⟨by rfl, rfl⟩) (by assumption) ?_
          (try simp only [Act.put, List.getElem_toArray, List.getElem_cons_succ, List.getElem_cons_zero, List.setIfInBounds_toArray, List.set_cons_zero, List.set_cons_succ])
          refine wpAnyH_take (i := 10) (v := undef) rfl (by kernel_rfl) (by kernel_rfl) (by kernel_rfl) (fun _ _ _ h => h) (Or.inr ⟨by rfl, rfl⟩) (by assumption) ?_
          (try simp only [Act.put, List.getElem_toArray, List.getElem_cons_succ, List.getElem_cons_zero, List.setIfInBounds_toArray, List.set_cons_zero, List.set_cons_succ])
          refine wpAnyH_take (i := 11) (v := undef) rfl (by kernel_rfl) (by kernel_rfl) (by kernel_rfl) (fun _ _ _ h => h) (Or.inr ⟨by rfl, rfl⟩) (by assumption) ?_
          (try simp only [Act.put, List.getElem_toArray, List.getElem_cons_succ, List.getElem_cons_zero, List.setIfInBounds_toArray, List.set_cons_zero, List.set_cons_succ])
          refine wpAnyH_take (i := 12) (v := undef) rfl (by kernel_rfl) (by kernel_rfl) (by kernel_rfl) (fun _ _ _ h => h) (Or.inr ⟨by rfl, rfl⟩) (by assumption) ?_
          (try simp only [Act.put, List.getElem_toArray, List.getElem_cons_succ, List.getElem_cons_zero, List.setIfInBounds_toArray, List.set_cons_zero, List.set_cons_succ])
          refine wpAnyH_take (i := 13) (v := ?_) rfl (by kernel_rfl) (by kernel_rfl) (by kernel_rfl) (fun _ _ _ h => h) (Or.inl ⟨by rfl, ?_⟩) (by assumption) ?_
          rotate_left
          · (intro w hSw; (try dsimp only at hSw); go_simp; (try with_reducible rfl))
          (try simp only [Act.put, List.getElem_toArray, List.getElem_cons_succ, List.getElem_cons_zero, List.setIfInBounds_toArray, List.set_cons_zero, List.set_cons_succ])
          refine wpAnyH_done (by kernel_rfl) ?_ _
          refine NoPanic.normal ?_
          have HB7 := Lib.hid hHeld.2
          clear hHeld h0 h1
          go_wp2_with fail
          go_roundw
          case rel => exact ⟨i + 1, X, by omega, hX, by go_num, HX', Lib.hid (HBX.out.keep HB7.out), Lib.hid (HBY.out.keep HB7.out), Lib.hid (HB4.out.trans (HB7.out.mono HB4.out.size))⟩
          case measure => simp [intOf]; omega
        | true =>
          rw [hb] at hne HN
          clear hb
          go_upto_region 7 with fail
          refine wp_region_noPanic ?_
          refine wp_region_held_drew (S := (fun w' => (w'.cell? ⟨w.heap.size, 0, none⟩ = some (.int .i64 (X : Int)) ∧ w'.cell? ⟨w.heap.size, 1, none⟩ = some (.int .i64 (R : Int))) ∧ Below w4.heap.size w4 w')) (by kernel_rfl) ?_ (fun hHeld => ?_)
          · ((try dsimp only); exact ⟨⟨keep_in h0 HB6.out.drew, keep_in h1 HB6.out.drew⟩, HB6.out.drew⟩)
          refine wpAnyH_take (i := 0) (v := ?_) rfl (by kernel_rfl) (by kernel_rfl) (by kernel_rfl) (fun _ _ _ h => h) (Or.inl ⟨by rfl, ?_⟩) (by assumption) ?_
          rotate_left
          · (intro w hSw; (try dsimp only at hSw); go_simp; (try with_reducible rfl))
          (try simp only [Act.put, List.getElem_toArray, List.getElem_cons_zero, List.setIfInBounds_toArray, List.set_cons_zero, List.set_cons_succ])
          refine wpAnyH_take (i := 1) (v := ?_) rfl (by kernel_rfl) (by kernel_rfl) (by kernel_rfl) (fun _ _ _ h => h) (Or.inl ⟨by rfl, ?_⟩) (by assumption) ?_
          rotate_left
          · (intro w hSw; (try dsimp only at hSw); go_simp; (try with_reducible rfl))
          (try simp only [Act.put, List.getElem_toArray, List.getElem_cons_succ, List.getElem_cons_zero, List.setIfInBounds_toArray, List.set_cons_zero, List.set_cons_succ])
          refine wpAnyH_take (i := 2) (v := ?_) rfl (by kernel_rfl) (by kernel_rfl) (by kernel_rfl) (fun _ _ _ h => h) (Or.inl ⟨by rfl, ?_⟩) (by assumption) ?_
          rotate_left
          · (intro w hSw; (try dsimp only at hSw); go_simp; (try with_reducible rfl))
          (try simp only [Act.put, List.getElem_toArray, List.getElem_cons_succ, List.getElem_cons_zero, List.setIfInBounds_toArray, List.set_cons_zero, List.set_cons_succ])
          refine wpAnyH_take (i := 3) (v := ?_) rfl (by kernel_rfl) (by kernel_rfl) (by kernel_rfl) (fun _ _ _ h => h) (Or.inl ⟨by rfl, ?_⟩) (by assumption) ?_
          rotate_left
          · (intro w hSw; (try dsimp only at hSw); go_simp; (try with_reducible rfl))
          (try simp only [Act.put, List.getElem_toArray, List.getElem_cons_succ, List.getElem_cons_zero, List.setIfInBounds_toArray, List.set_cons_zero, List.set_cons_succ])
          refine wpAnyH_take (i := 4) (v := ?_) rfl (by kernel_rfl) (by kernel_rfl) (by kernel_rfl) (fun _ _ _ h => h) (Or.inl ⟨by rfl, ?_⟩) (by assumption) ?_
          rotate_left
          · (intro w hSw; (try dsimp only at hSw); go_simp; (try with_reducible rfl))
          (try simp only [Act.put, List.getElem_toArray, List.getElem_cons_succ, List.getElem_cons_zero, List.setIfInBounds_toArray, List.set_cons_zero, List.set_cons_succ])
          refine wpAnyH_take (i := 5) (v := ?_) rfl (by kernel_rfl) (by kernel_rfl) (by kernel_rfl) (fun _ _ _ h => h) (Or.inl ⟨by rfl, ?_⟩) (by assumption) ?_
          rotate_left
          · (intro w hSw; (try dsimp only at hSw); go_simp; (try with_reducible rfl))
          (try simp only [Act.put, List.getElem_toArray, List.getElem_cons_succ, List.getElem_cons_zero, List.setIfInBounds_toArray, List.set_cons_zero, List.set_cons_succ])
          refine wpAnyH_take (i := 6) (v := ?_) rfl (by kernel_rfl) (by kernel_rfl) (by kernel_rfl) (fun _ _ _ h => h) (Or.inl ⟨by rfl, ?_⟩) (by assumption) ?_
          rotate_left
          · (intro w hSw; (try dsimp only at hSw); go_simp; (try with_reducible rfl))
          (try simp only [Act.put, List.getElem_toArray, List.getElem_cons_succ, List.getElem_cons_zero, List.setIfInBounds_toArray, List.set_cons_zero, List.set_cons_succ])
          refine wpAnyH_take (i := 8) (v := ?_) rfl (by kernel_rfl) (by kernel_rfl) (by kernel_rfl) (fun _ _ _ h => h) (Or.inl ⟨by rfl, ?_⟩) (by assumption) ?_
          rotate_left
          · (intro w hSw; (try dsimp only at hSw); go_simp; (try with_reducible rfl))
          (try simp only [Act.put, List.getElem_toArray, List.getElem_cons_succ, List.getElem_cons_zero, List.setIfInBounds_toArray, List.set_cons_zero, List.set_cons_succ])
          refine wpAnyH_take (i := 9) (v := ?_) rfl (by kernel_rfl) (by kernel_rfl) (by kernel_rfl) (fun _ _ _ h => h) (Or.inl ⟨by rfl, ?_⟩) (by assumption) ?_
          rotate_left
          · (intro w hSw; (try dsimp only at hSw); go_simp; (try with_reducible rfl))
          (try simp only [Act.put, List.getElem_toArray, List.getElem_cons_succ, List.getElem_cons_zero, List.setIfInBounds_toArray, List.set_cons_zero, List.set_cons_succ])
          refine wpAnyH_ready (rs := [7]) (by kernel_rfl) (by simp) (AllReadyH.cons rfl (fun K hK => ?_) AllReadyH.nil)
          (first | (go_at_call 38; refine (HC.out _ (HB4.out.trans (hHeld.2.mono HB4.out.size))).mono ?_; rintro e w93 ⟨rfl, b93⟩) | (go_simp; go_at_call 38; refine (HC.out _ (HB4.out.trans (hHeld.2.mono HB4.out.size))).mono ?_; rintro e w93 ⟨rfl, b93⟩))
          (try (go_wp2_with fail))
          refine hK.out _ _ ?_ (fun hHeld => ?_)
          · ((try dsimp only); exact ⟨⟨keep_in hHeld.1.1 b93, keep_in hHeld.1.2 b93⟩, hHeld.2.trans (b93.mono hHeld.2.size)⟩)
          clear hK K
          (try simp only [Act.put, List.getElem_toArray, List.getElem_cons_succ, List.getElem_cons_zero, List.setIfInBounds_toArray, List.set_cons_zero, List.set_cons_succ])
          refine wpAnyH_take (i := 10) (v := ?_) rfl (by kernel_rfl) (by kernel_rfl) (by kernel_rfl) (fun _ _ _ h => h) (Or.inl ⟨by rfl, ?_⟩) (by assumption) ?_
          rotate_left
          · (intro w hSw; (try dsimp only at hSw); go_simp; (try with_reducible rfl))
          (try simp only [Act.put, List.getElem_toArray, List.getElem_cons_succ, List.getElem_cons_zero, List.setIfInBounds_toArray, List.set_cons_zero, List.set_cons_succ])
          refine wpAnyH_take (i := 11) (v := ?_) rfl (by kernel_rfl) (by kernel_rfl) (by kernel_rfl) (fun _ _ _ h => h) (Or.inl ⟨by rfl, ?_⟩) (by assumption) ?_
          rotate_left
          · (intro w hSw; (try dsimp only at hSw); go_simp; (try with_reducible rfl))
          (try simp only [Act.put, List.getElem_toArray, List.getElem_cons_succ, List.getElem_cons_zero, List.setIfInBounds_toArray, List.set_cons_zero, List.set_cons_succ])
          refine wpAnyH_take (i := 12) (v := ?_) rfl (by kernel_rfl) (by kernel_rfl) (by kernel_rfl) (fun _ _ _ h => h) (Or.inl ⟨by rfl, ?_⟩) (by assumption) ?_
          rotate_left
          · (intro w hSw; (try dsimp only at hSw); go_simp; (try with_reducible rfl))
          (try simp only [Act.put, List.getElem_toArray, List.getElem_cons_succ, List.getElem_cons_zero, List.setIfInBounds_toArray, List.set_cons_zero, List.set_cons_succ])
          refine wpAnyH_take (i := 13) (v := ?_) rfl (by kernel_rfl) (by kernel_rfl) (by kernel_rfl) (fun _ _ _ h => h) (Or.inl ⟨by rfl, ?_⟩) (by assumption) ?_
          rotate_left
          · (intro w hSw; (try dsimp only at hSw); go_simp; (try with_reducible rfl))
          (try simp only [Act.put, List.getElem_toArray, List.getElem_cons_succ, List.getElem_cons_zero, List.setIfInBounds_toArray, List.set_cons_zero, List.set_cons_succ])
          refine wpAnyH_done (by kernel_rfl) ?_ _
          refine NoPanic.normal ?_
          have HB7 := Lib.hid hHeld.2
          have HBX7 := Lib.hid (HBX.out.keep HB7.out)
          have HBY7 := Lib.hid (HBY.out.keep HB7.out)
          have HBB7 := Lib.hid (HB4.out.trans (HB7.out.mono HB4.out.size))
          clear hHeld h0 h1 b93
          cases hc : bitB (clo l Z) R with
          | false =>
            rw [hc] at hbt HN
            have HX' := Lib.hid (show X = redN l R L (i + 1) from HN.out.symm)
            clear hc
            go_wp2_with fail
            go_roundw
            case rel => exact ⟨i + 1, X, by omega, hX, by go_num, HX', HBX7, HBY7, HBB7⟩
            case measure => simp [intOf]; omega
          | true =>
            rw [hc] at hbt HN
            have HX' := Lib.hid (show Z = redN l R L (i + 1) from HN.out.symm)
            have h0 := HBX7.out.c0
            have f0 := HBX7.out.f0
            clear hc
            go_wp2_with fail
            go_roundw
            case rel => exact ⟨i + 1, Z, by omega, q2, by go_num, HX', Lib.hid (HBX7.out.set0 _), Lib.hid (HBY7.out.far (by omega)), Lib.hid (HBB7.out.setCell (p := ⟨w.heap.size, 0, none⟩) (Nat.le_refl _) _)⟩
            case measure => simp [intOf]; omega
      · obtain rfl : i = 5 := by omega
        have d0 := HBY.out.c0
        have d1 := HBY.out.c1
        have e0 := HBY.out.f0
        have e1 := HBY.out.f1
        go_wp2_with fail
        rw [← HX.out]
        exact bodyPost_ret (v := .agg #[.int .i64 (X : Int), .int .i64 (R : Int)]) (by simp [results, Try.results106, go_sem, d0, d1]) rfl ⟨rfl, (HB4.out.setCell (p := ⟨w.heap.size + 1, 0, none⟩) (by simp) _).setCell (p := ⟨w.heap.size + 1, 1, none⟩) (by simp) _⟩
end
end Go.Proofs.Ytcgkfbjdlhapkaa
namespace Go.Proofs.Ytcgkfbjdlhapkaa
open Go.RowKit

theorem chkX_cons (l : List (Int × Int)) (x : Nat) (t : Int × Int × Int) (s : List (Int × Int × Int)) : ∀ j, chkX l x (t :: s) (j + 1) = chkX l (orN x (l.getD t.1.toNat (0, 0)).2.toNat) s j
  | 0 => rfl
  | j + 1 => by
    have ih := chkX_cons l x t s j
    show orN (chkX l x (t :: s) (j + 1)) _ = orN (chkX l _ s j) _
    rw [ih]
    rfl
theorem chkTo_cons (l : List (Int × Int)) (x : Nat) (t : Int × Int × Int) (s : List (Int × Int × Int)) : ∀ j, chkTo l x (t :: s) (j + 1) = (chkAt l x t && chkTo l (orN x (l.getD t.1.toNat (0, 0)).2.toNat) s j)
  | 0 => by
    show (true && chkAt l x t) = (chkAt l x t && true)
    rw [Bool.true_and, Bool.and_true]
  | j + 1 => by
    have ih := chkTo_cons l x t s j
    have hx := chkX_cons l x t s j
    show (chkTo l x (t :: s) (j + 1) && chkAt l (chkX l x (t :: s) (j + 1)) (s.getD j (0, 0, 0))) = (chkAt l x t && (chkTo l _ s j && chkAt l (chkX l _ s j) (s.getD j (0, 0, 0))))
    rw [ih, hx, Bool.and_assoc]
/-- What is derived is right. -/
theorem drv_right {C : Nat} {l : List (Int × Int)} (hC : C ≤ 5) (hl : DepsN C l) {L R : Nat} (hL : L < 32) (hR : R < 5) (himp : bitB (clo l L) R = true) : ∀ k x, x < 32 → subN L x = true → subN x (clo l L) = true → 6 ≤ popN x + k → chkTo l x (drv l R k x) (drv l R k x).length = true ∧ bitB (chkX l x (drv l R k x) (drv l R k x).length) R = true
  | k, x, hx, h1, h2, h3 => by
    cases hb : bitB x R with
    | true =>
      rw [drv_end hb]
      exact ⟨rfl, hb⟩
    | false =>
      obtain ⟨k', y, hk, hf, hy, hd, hk', hy32, hLy, hyc⟩ := drv_step hC hl hL hR hx h1 h2 himp hb h3
      obtain ⟨i1, i2⟩ := drv_right hC hl hL hR himp k' y hy32 hLy hyc hk'
      have ht : orN x (l.getD ((frst l x : Int), (x : Int), (y : Int)).1.toNat (0, 0)).2.toNat = y := hy.symm
      have ha := frst_app hf
      unfold appN at ha
      rw [Bool.and_eq_true] at ha
      have hat : chkAt l x ((frst l x : Int), (x : Int), (y : Int)) = true := by
        unfold chkAt
        rw [ht]
        simp only
        rw [decide_eq_true (show 0 ≤ (frst l x : Int) ∧ (frst l x : Int) < (l.length : Int) by omega), show ((frst l x : Int)).toNat = frst l x from rfl, ha.1]
        simp
      rw [hd, List.length_cons, chkTo_cons, chkX_cons, ht, hat, i1, i2]
      exact ⟨rfl, rfl⟩
termination_by k => k
decreasing_by all_goals omega
theorem der_right {n : Int} {l : List (Int × Int)} {d : Int × Int} (h : impB n l d = true) : chkB n l d (derL n l d) = true := by
  have h2 := h
  unfold impB at h2
  rw [Bool.and_eq_true, Bool.and_eq_true] at h2
  obtain ⟨ha, hd, hb⟩ := h2
  obtain ⟨C, rfl, -, hC, -, hl⟩ := arD_n ha
  obtain ⟨-, k1, k2, k3⟩ := depB_iff.1 hd
  have hL : d.1.toNat < 32 := by
    unfold isA at k1
    rw [decide_eq_true_iff, show ((C : Int)).toNat = C from rfl] at k1
    have hz : ((2 ^ C : Nat) : Int) = (2 : Int) ^ C := by rw [Int.natCast_pow]; rfl
    have h32 := two5 hC
    omega
  obtain ⟨i1, i2⟩ := drv_right hC hl hL (by omega) hb 6 d.1.toNat hL (subN_refl _) (clo_spec hC hl hL).2.1 (by omega)
  unfold chkB derL
  rw [if_pos h, ha, hd, i1, i2]
  rfl
theorem drv_short {C : Nat} {l : List (Int × Int)} (hC : C ≤ 5) (hl : DepsN C l) (R : Nat) : ∀ k x, x < 32 → popN x + (drv l R k x).length ≤ 5
  | 0, x, _ => popN_le x
  | k + 1, x, hx => by
    unfold drv
    split
    · exact popN_le x
    · split
      · rename_i hf
        have ha := frst_app hf
        unfold appN at ha
        rw [Bool.and_eq_true, Bool.not_eq_true'] at ha
        obtain ⟨Ld, Rd, e, hLd, hRd⟩ := hl _ (memD hf)
        have eR : (l.getD (frst l x) (0, 0)).2.toNat = Rd := by rw [e]; rfl
        rw [eR] at ha ⊢
        have h1 := orN_not ⟨x, hx⟩ ⟨Rd, by omega⟩ ha.2
        have h2 := drv_short hC hl R k (orN x Rd) (orN_fin ⟨x, hx⟩ ⟨Rd, by omega⟩).1
        simp only at h1
        rw [List.length_cons]
        omega
      · exact popN_le x
theorem der_short (n : Int) (l : List (Int × Int)) (d : Int × Int) : (derL n l d).length ≤ 5 := by
  unfold derL
  split
  · rename_i h
    unfold impB at h
    rw [Bool.and_eq_true, Bool.and_eq_true] at h
    obtain ⟨ha, hd, -⟩ := h
    obtain ⟨C, rfl, -, hC, -, hl⟩ := arD_n ha
    obtain ⟨-, k1, -⟩ := depB_iff.1 hd
    have hL : d.1.toNat < 32 := by
      unfold isA at k1
      rw [decide_eq_true_iff, show ((C : Int)).toNat = C from rfl] at k1
      have hz : ((2 ^ C : Nat) : Int) = (2 : Int) ^ C := by rw [Int.natCast_pow]; rfl
      have h32 := two5 hC
      omega
    have := drv_short hC hl d.2.toNat 6 d.1.toNat hL
    omega
  · exact Nat.zero_le _
theorem andN_sub : ∀ a b : Fin 32, subN (a.val &&& b.val) a.val = true ∧ subN (a.val &&& b.val) b.val = true ∧ a.val &&& b.val ≤ a.val := by decide +kernel
theorem andN_bit : ∀ (a b : Fin 32) (R : Fin 5), bitB (a.val &&& b.val) R.val = (bitB a.val R.val && bitB b.val R.val) := by decide +kernel
theorem andN_int : ∀ a b : Fin 32, bits .and .i64 ((a.val : Nat) : Int) ((b.val : Nat) : Int) = ((a.val &&& b.val : Nat) : Int) := by decide +kernel
/-- What two closed sets have in common is closed. -/
theorem closed_and {C : Nat} {l : List (Int × Int)} (hC : C ≤ 5) (hl : DepsN C l) {a b : Nat} (ha : a < 32) (hb : b < 32) (h1 : ClosedN l a) (h2 : ClosedN l b) : ClosedN l (a &&& b) := by
  intro d hd hs
  obtain ⟨Ld, Rd, e, hLd, hRd⟩ := hl d hd
  obtain ⟨s1, s2, -⟩ := andN_sub ⟨a, ha⟩ ⟨b, hb⟩
  have q1 := h1 d hd (subN_trans hs s1)
  have q2 := h2 d hd (subN_trans hs s2)
  have eR : d.2.toNat = Rd := by rw [e]; rfl
  rw [eR] at q1 q2 ⊢
  rw [andN_bit ⟨a, ha⟩ ⟨b, hb⟩ ⟨Rd, by omega⟩]
  simp only
  rw [q1, q2]
  rfl
theorem brd_mem (f : Nat → Bool) (y : Int) : ∀ n, (y ∈ brdTo f n ↔ ∃ x : Nat, x < n ∧ f x = true ∧ y = (x : Int))
  | 0 => by
    constructor
    · intro h; cases h
    · rintro ⟨x, h, -⟩; omega
  | n + 1 => by
    have ih := brd_mem f y n
    have h : brdTo f (n + 1) = if f n = true then brdTo f n ++ [(n : Int)] else brdTo f n := rfl
    rw [h]
    split
    · rename_i hf
      rw [List.mem_append, ih, List.mem_singleton]
      constructor
      · rintro (⟨x, h1, h2, h3⟩ | h3)
        · exact ⟨x, by omega, h2, h3⟩
        · exact ⟨n, by omega, hf, h3⟩
      · rintro ⟨x, h1, h2, h3⟩
        by_cases e : x = n
        · rw [e] at h3; exact .inr h3
        · exact .inl ⟨x, by omega, h2, h3⟩
    · rename_i hf
      rw [ih]
      constructor
      · rintro ⟨x, h1, h2⟩; exact ⟨x, by omega, h2⟩
      · rintro ⟨x, h1, h2, h3⟩
        by_cases e : x = n
        · rw [e] at h2; exact absurd h2 hf
        · exact ⟨x, by omega, h2, h3⟩
theorem cls_mem {C : Nat} {l : List (Int × Int)} (ha : arD (C : Int) l = true) (y : Int) : y ∈ clsL (C : Int) l ↔ ∃ x : Nat, x < 2 ^ C ∧ ClosedN l x ∧ y = (x : Int) := by
  unfold clsL
  rw [if_pos ha, show ((C : Int)).toNat = C from rfl, brd_mem]
  refine exists_congr fun x => and_congr_right fun _ => and_congr_left fun _ => clB_iff l x
/-- Closed sets hold what they have in common. -/
theorem cls_and {C : Nat} {l : List (Int × Int)} (hC : C ≤ 5) (hl : DepsN C l) (ha : arD (C : Int) l = true) {y z : Int} (hy : y ∈ clsL (C : Int) l) (hz : z ∈ clsL (C : Int) l) : bits .and .i64 y z ∈ clsL (C : Int) l := by
  obtain ⟨a, ha1, ha2, rfl⟩ := (cls_mem ha y).1 hy
  obtain ⟨b, hb1, hb2, rfl⟩ := (cls_mem ha z).1 hz
  have h32 := two5 hC
  refine (cls_mem ha _).2 ⟨a &&& b, ?_, closed_and hC hl (by omega) (by omega) ha2 hb2, andN_int ⟨a, by omega⟩ ⟨b, by omega⟩⟩
  have := (andN_sub ⟨a, by omega⟩ ⟨b, by omega⟩).2.2
  simp only at this
  omega
/-- An implied dependency holds in every closed set. -/
theorem cls_imp {C : Nat} {l : List (Int × Int)} (hC : C ≤ 5) (hl : DepsN C l) {L R x : Nat} (hL : L < 32) (hR : R < 5) (hx : x < 32) (himp : bitB (clo l L) R = true) (hc : ClosedN l x) (hs : subN L x = true) : bitB x R = true := by
  obtain ⟨c1, -, -, -, c4⟩ := clo_spec hC hl hL
  exact sub_bitN c1 hx (c4 x hx hs hc) hR himp
/-- The closure of a closure. -/
theorem clo_clo {C : Nat} {l : List (Int × Int)} (hC : C ≤ 5) (hl : DepsN C l) {x : Nat} (hx : x < 32) : clo l (clo l x) = clo l x := by
  obtain ⟨c1, -, -, c3, -⟩ := clo_spec hC hl hx
  exact (clo_id hC hl c1).2 c3
end Go.Proofs.Ytcgkfbjdlhapkaa
namespace Go.Proofs.Ytcgkfbjdlhapkaa
open Go.RowKit

theorem clrN_mono : ∀ (a b : Fin 32) (i : Fin 5), subN a.val b.val = true → subN (clrN a.val i.val) (clrN b.val i.val) = true := by decide +kernel
theorem clrN_bits : ∀ (x : Fin 32) (i : Fin 5), bitB (clrN x.val i.val) i.val = false ∧ clrN x.val i.val < 32 ∧ subN (clrN x.val i.val) x.val = true := by decide +kernel
theorem clrN_low : ∀ (C : Fin 6) (x : Fin 32) (i : Fin 5), x.val < 2 ^ C.val → clrN x.val i.val < 2 ^ C.val := by decide +kernel
section
variable {C : Nat} {l : List (Int × Int)} (hC : C ≤ 5) (hl : DepsN C l)
include hC hl
theorem clo_mono {x y : Nat} (hx : x < 32) (hy : y < 32) (h : subN x y = true) : subN (clo l x) (clo l y) = true := by
  obtain ⟨h1, h2, -, h4, -⟩ := clo_spec hC hl hy
  obtain ⟨-, -, -, -, h5⟩ := clo_spec hC hl hx
  exact h5 _ h1 (subN_trans h h2) h4
theorem clo_fewer {l' : List (Int × Int)} (hl' : DepsN C l') (h : ∀ y, y < 32 → ClosedN l y → ClosedN l' y) {x : Nat} (hx : x < 32) : subN (clo l' x) (clo l x) = true := by
  obtain ⟨h1, h2, -, h4, -⟩ := clo_spec hC hl hx
  obtain ⟨-, -, -, -, h5⟩ := clo_spec hC hl' hx
  exact h5 _ h1 h2 (h _ h1 h4)
theorem clo_same {l' : List (Int × Int)} (hl' : DepsN C l') (h : ∀ y, y < 32 → (ClosedN l y ↔ ClosedN l' y)) {x : Nat} (hx : x < 32) : clo l x = clo l' x :=
  subN_anti' (clo_fewer hC hl' hl (fun y hy => (h y hy).2) hx) (clo_fewer hC hl hl' (fun y hy => (h y hy).1) hx)
omit hl in
theorem redAt_facts {R x i : Nat} (hx : x < 32) (hi : i < 5) : redAt l R x i < 32 ∧ subN (redAt l R x i) x = true ∧ (bitB (clo l x) R = true → bitB (clo l (redAt l R x i)) R = true) ∧ (bitB (redAt l R x i) i = true → bitB (clo l (clrN x i)) R = false) ∧ (x < 2 ^ C → redAt l R x i < 2 ^ C) := by
  obtain ⟨h1, h2, h3⟩ := clrN_bits ⟨x, hx⟩ ⟨i, hi⟩
  have h4 := clrN_low ⟨C, by omega⟩ ⟨x, hx⟩ ⟨i, hi⟩
  simp only at h1 h2 h3 h4
  unfold redAt
  cases hb : bitB x i with
  | false =>
    rw [if_neg (by decide)]
    exact ⟨hx, subN_refl _, fun h => h, fun h => (by rw [hb] at h; cases h), fun h => h⟩
  | true =>
    rw [if_pos rfl]
    cases hc : bitB (clo l (clrN x i)) R with
    | false =>
      rw [if_neg (by decide)]
      exact ⟨hx, subN_refl _, fun h => h, fun _ => rfl, fun h => h⟩
    | true =>
      rw [if_pos rfl]
      exact ⟨h2, h3, fun _ => hc, fun h => (by rw [h1] at h; cases h), h4⟩
theorem redN_facts {R L : Nat} (hL : L < 32) (hR : R < 5) : ∀ i, i ≤ 5 → redN l R L i < 32 ∧ subN (redN l R L i) L = true ∧ (bitB (clo l L) R = true → bitB (clo l (redN l R L i)) R = true) ∧ (∀ j, j < i → bitB (redN l R L i) j = true → bitB (clo l (clrN (redN l R L i) j)) R = false) ∧ (L < 2 ^ C → redN l R L i < 2 ^ C) := by
  intro i
  induction i with
  | zero => exact fun _ => ⟨hL, subN_refl _, fun h => h, fun j h => absurd h (Nat.not_lt_zero _), fun h => h⟩
  | succ i ih =>
    intro hi
    obtain ⟨a1, a2, a3, a4, a5⟩ := ih (by omega)
    obtain ⟨b1, b2, b3, b4, b5⟩ := redAt_facts hC (l := l) (R := R) a1 (show i < 5 by omega)
    have e : redN l R L (i + 1) = redAt l R (redN l R L i) i := rfl
    rw [e]
    refine ⟨b1, subN_trans b2 a2, fun h => b3 (a3 h), fun j hj hb => ?_, fun h => b5 (a5 h)⟩
    have hj5 : j < 5 := by omega
    have k1 := clrN_mono ⟨_, b1⟩ ⟨_, a1⟩ ⟨j, hj5⟩ b2
    simp only at k1
    have c1 := (clrN_bits ⟨_, b1⟩ ⟨j, hj5⟩).2.1
    have c2 := (clrN_bits ⟨_, a1⟩ ⟨j, hj5⟩).2.1
    have hm := clo_mono hC hl c1 c2 k1
    have d1 := (clo_spec hC hl c1).1
    have d2 := (clo_spec hC hl c2).1
    have hno : bitB (clo l (clrN (redN l R L i) j)) R = false := by
      by_cases ej : j = i
      · subst ej; exact b4 hb
      · exact a4 j (by omega) (sub_bitN b1 a1 b2 hj5 hb)
    cases hx : bitB (clo l (clrN (redAt l R (redN l R L i) i) j)) R with
    | false => rfl
    | true => rw [sub_bitN d1 d2 hm hR hx] at hno; cases hno
omit hC hl in
/-- A left side from which nothing can go is left as it is. -/
theorem redN_stay {R X : Nat} (h : ∀ j, j < 5 → bitB X j = true → bitB (clo l (clrN X j)) R = false) : ∀ i, i ≤ 5 → redN l R X i = X := by
  intro i
  induction i with
  | zero => exact fun _ => rfl
  | succ i ih =>
    intro hi
    have e : redN l R X (i + 1) = redAt l R (redN l R X i) i := rfl
    rw [e, ih (by omega)]
    unfold redAt
    cases hb : bitB X i with
    | false => rfl
    | true => rw [h i (by omega) hb]; rfl
theorem redN_twice {R L : Nat} (hL : L < 32) (hR : R < 5) : redN l R (redN l R L 5) 5 = redN l R L 5 :=
  redN_stay (redN_facts hC hl hL hR 5 (Nat.le_refl _)).2.2.2.1 5 (Nat.le_refl _)
end
end Go.Proofs.Ytcgkfbjdlhapkaa
namespace Go.Proofs.Ytcgkfbjdlhapkaa
open Go.RowKit

theorem depsV_append (a b : List (Int × Int)) : depsV (a ++ b) = depsV a ++ depsV b := by
  induction a with
  | nil => rfl
  | cons x t ih => simp [depsV, ih]
theorem cell_two_new (w : World) (x y : Value) (t : TypeId) : ∀ j u, [x, y][j]? = some u → (w.alloc (.cells #[x, y] t)).cell? ((⟨w.heap.size, 0, none⟩ : Addr).add j) = some u := by
  intro j u hj
  match j, hj with
  | 0, hj =>
    simp at hj
    subst hj
    simp [Addr.add]
  | 1, hj =>
    simp at hj
    subst hj
    simp [Addr.add]
theorem two_i64 (x y : Int) : ∀ u ∈ [Value.int .i64 x, Value.int .i64 y], u.oneCell' = true := by
  intro u hu
  simp at hu
  rcases hu with rfl | rfl <;> rfl
theorem OwnD.nil (w : World) (B : Nat) : OwnD w B (.slice .none 0 0) [] := World.ownsRow_nil _ _ _ _
theorem OwnD.snoc {w : World} {B : Nat} {v : Value} {ds : List (Int × Int)} {x y : Int} (h : w.ownsRow B 44 2 v (ds.length + 1) (depsV ds ++ [.int .i64 x, .int .i64 y])) : OwnD w B v (ds ++ [(x, y)]) := by
  unfold OwnD
  rw [List.length_append, List.length_singleton, depsV_append]; exact h
theorem OwnD.base {w : World} {B B' : Nat} {v : Value} {ds : List (Int × Int)} (h : OwnD w B v ds) (hB : B' ≤ B) : OwnD w B' v ds := by
  refine ⟨h.1, ?_⟩
  rcases h.2 with hn | ⟨g, cap, cur, rfl, hb, rest⟩
  · exact .inl hn
  · exact .inr ⟨g, cap, cur, rfl, by omega, rest⟩
theorem OwnD.shape {w : World} {B : Nat} {v : Value} {ds : List (Int × Int)} (h : OwnD w B v ds) : ∃ a c, v = .slice a ds.length c := by
  rcases h.2 with ⟨rfl, h0⟩ | ⟨g, cap, cur, rfl, -⟩
  · exact ⟨_, _, by rw [h0]⟩
  · exact ⟨_, _, rfl⟩
/-- Blocks of rows of dependencies and blocks of rows of ints differ. -/
theorem dep_apart {w : World} {B B' : Nat} {v v' : Value} {n : Nat} {xs : List Value} {l : List Int} (h : w.ownsRow B 44 2 v n xs) (h' : OwnI w B' v' l) : ∀ g, v.ownBlock = some g → v'.ownBlock ≠ some g := by
  intro g hg hg'
  rcases h.2 with ⟨rfl, _⟩ | ⟨g1, cap, cur, rfl, hB, hgg, rest⟩
  · cases hg
  · rcases h'.2 with ⟨rfl, _⟩ | ⟨g2, cap2, cur2, rfl, hB2, hgg2, rest2⟩
    · cases hg'
    · simp [Value.ownBlock] at hg hg'
      subst hg hg'
      rw [hgg] at hgg2
      simp at hgg2
theorem one_at (w : World) (T : TypeId) (a : Value) : (w.alloc (.cells #[a] T)).cell? ⟨w.heap.size, 0, none⟩ = some a := World.cell?_alloc_mark w #[a] T (0, 0) 0
/-- A cell of a block that no row from B on holds is as it was, when a row grew. -/
theorem kept_cell {w w' : World} {row : Option Nat} {B : Nat} {p : Addr} (hg : w.grownBy w' row) (hB : ∀ g, row = some g → B < g) (hp : p.block < w.heap.size) (hlt : p.block ≤ B) : w'.cell? p = w.cell? p :=
  World.cell?_of_block (hg.block p.block hp (fun e => by have := hB p.block e.symm; omega))
end Go.Proofs.Ytcgkfbjdlhapkaa
