/- The program's chapter 11: a column of Left, ReduceLeft, by contract. Conditions: as stated. -/
import Derived.Test.YtcgkfbjdlhapkaaYa26
import Derived.Test.YtcgkfbjdlhapkaaPcCm
namespace Go.Proofs.Ytcgkfbjdlhapkaa
open Go.RowKit

def BxL (w : World) (b : Nat) (x y z : Int) : Prop := w.heap[b]? = some (.cells #[.int .i64 x, .int .i64 y, .int .i64 z] 115 (0, 0))
theorem BxL.c0 {w : World} {b : Nat} {x y z : Int} (h : BxL w b x y z) : w.cell? ⟨b, 0, none⟩ = some (.int .i64 x) := by rw [cell_of_row w b 0 _ _ _ h]; rfl
theorem BxL.c1 {w : World} {b : Nat} {x y z : Int} (h : BxL w b x y z) : w.cell? ⟨b, 1, none⟩ = some (.int .i64 y) := by rw [cell_of_row w b 1 _ _ _ h]; rfl
theorem BxL.c2 {w : World} {b : Nat} {x y z : Int} (h : BxL w b x y z) : w.cell? ⟨b, 2, none⟩ = some (.int .i64 z) := by rw [cell_of_row w b 2 _ _ _ h]; rfl
theorem BxL.keep {w w' : World} {b : Nat} {x y z : Int} (h : BxL w b x y z) (hb : Below w.heap.size w w') : BxL w' b x y z := (hb.block b (World.block_lt_of_cell? w _ h.c0)).trans h
theorem bxl_new (w : World) (x y z : Int) : BxL (w.alloc (.cells #[.int .i64 x, .int .i64 y, .int .i64 z] 115)) w.heap.size x y z := heap_alloc_new w _
section
set_option maxRecDepth 20000
set_option maxHeartbeats 3200000
theorem rest_any (l r : Int) (y : Nat) (hy : y ≤ 62) (w : World) :
    Calls Try.prog 139 #[.agg #[.int .i64 l, .int .i64 r, .int .i64 (y : Int)]] w fun e w' => e = .returned (.agg #[.int .i64 (bits .andNot .i64 l (IntKind.i64.wrap (2 ^ y))), .int .i64 r]) ∧ Below w.heap.size w w' := by
  have hb1 := (Below.refl w.heap.size w).alloc (Nat.le_refl _) (.cells #[.int .i64 l, .int .i64 r, .int .i64 (y : Int)] 115)
  have hb2 := hb1.alloc hb1.size (.cells #[.int .i64 0, .int .i64 0] 44)
  have hba := (Below.refl (w.alloc (.cells #[.int .i64 l, .int .i64 r, .int .i64 (y : Int)] 115)).heap.size _).alloc (Nat.le_refl _) (.cells #[.int .i64 0, .int .i64 0] 44)
  have hx0 := (bxl_new w l r y).keep hba
  have hx1 := bxw_new (w.alloc (.cells #[.int .i64 l, .int .i64 r, .int .i64 (y : Int)] 115)) 0 0
  rw [World.size_alloc] at hx1
  have HB2 := Lib.hid hb2
  have HX1 := Lib.hid hx1
  have HW := Lib.hid (fun w' => without_any l r y hy w')
  have c0 := hx0.c0
  have c1 := hx0.c1
  have c2 := hx0.c2
  clear hb1 hba hb2 hx0 hx1
  obtain ⟨z, hz⟩ : ∃ z, z = bits .andNot .i64 l (IntKind.i64.wrap (2 ^ y)) := ⟨_, rfl⟩
  rw [← hz] at HW ⊢
  clear hz
  go_enter Try.func139, Try.ntmps139
  go_wp2_with fail
  refine (HW.out _).mono ?_
  rintro e w3 ⟨rfl, b3⟩
  have HB3 := Lib.hid (HB2.out.trans (b3.mono HB2.out.size))
  have hx3 := HX1.out.keep b3
  have d0 := hx3.c0
  have d1 := hx3.c1
  have e0 := hx3.f0
  have e1 := hx3.f1
  have hz := (hx3.set0 (z := z)).set1 (z := r)
  have HR := Lib.hid (And.intro hz.c0 hz.c1)
  clear hz hx3 b3 c0 c1 c2
  go_wp2_with fail
  exact bodyPost_ret (v := .agg #[.int .i64 z, .int .i64 r]) (by simp [results, Try.results139, go_sem, HR.out.1, HR.out.2]) rfl ⟨rfl, (HB3.out.setCell (p := ⟨w.heap.size + 1, 0, none⟩) (by simp) _).setCell (p := ⟨w.heap.size + 1, 1, none⟩) (by simp) _⟩
theorem wf_r5 {R : Nat} (h : R < 32) : (Lit.int .i64 (R : Int)).wf = true := wf_small11 R h
theorem spareLeft_any (v : Value) (n : Int) (l : List (Int × Int)) (_w0 : (Lit.int .i64 n).wf = true) (bd : ∀ d ∈ l, (Lit.int .i64 d.1).wf = true ∧ (Lit.int .i64 d.2).wf = true) (L R y : Nat) (hL : L < 32) (hR : R < 32) (hy : y < 5) (w : World) (hr : ReadD w v l) (hl : l.length ≤ 1048576) :
    Calls Try.prog 138 #[.agg #[.int .i64 (L : Int), .int .i64 (R : Int), .int .i64 (y : Int)], .int .i64 n, v] w fun e w' => e = .returned (.bool (impB n l (((clrN L y : Nat) : Int), (R : Int)))) ∧ Below w.heap.size w w' := by
  have hb1 := (Below.refl w.heap.size w).alloc (Nat.le_refl _) (.cells #[.int .i64 (L : Int), .int .i64 (R : Int), .int .i64 (y : Int)] 115)
  have hx0 := bxl_new w L R y
  have hc := clrN_fin ⟨L, hL⟩ ⟨y, hy⟩
  simp only at hc
  have HW := Lib.hid (fun w' => rest_any (L : Int) (R : Int) y (by omega) w')
  rw [hc.1] at HW
  obtain ⟨Z, hZ⟩ : ∃ Z, Z = clrN L y := ⟨_, rfl⟩
  rw [← hZ] at HW hc ⊢
  have HIM := Lib.hid (fun w' (hb : Below w.heap.size w w') => implImpliesDep_any v n (Z : Int) (R : Int) l _w0 bd (wf_small11 Z hc.2.1) (wf_small11 R hR) w' (hr.kept hb) hl)
  have HB1 := Lib.hid hb1
  have c0 := hx0.c0
  have c1 := hx0.c1
  have c2 := hx0.c2
  obtain ⟨q, hq⟩ : ∃ q, q = impB n l ((Z : Int), (R : Int)) := ⟨_, rfl⟩
  rw [← hq] at HIM ⊢
  obtain ⟨a, cap, rfl, -⟩ := hr
  clear hb1 hx0 hc hZ hq bd
  go_enter Try.func138, Try.ntmps138
  go_wp2_with fail
  refine (HW.out _).mono ?_
  rintro e w3 ⟨rfl, b3⟩
  have HB3 := Lib.hid (HB1.out.trans (b3.mono HB1.out.size))
  clear b3 c0 c1 c2
  go_wp2_with fail
  refine (HIM.out _ HB3.out).mono ?_
  rintro e w4 ⟨rfl, b4⟩
  have HB4 := Lib.hid (HB3.out.trans (b4.mono HB3.out.size))
  clear b4
  go_wp2_with fail
  go_ret
  exact ⟨rfl, HB4.out⟩
theorem BxW.far {w : World} {b c k : Nat} {x y : Int} {v : Value} (h : BxW w b x y) (hc : b ≠ c) : BxW (w.setCell ⟨c, k, none⟩ v) b x y := (Below.heap_setCell w ⟨c, k, none⟩ v b hc).trans h
theorem OwnI.set11 {w : World} {B : Nat} {v u : Value} {l : List Int} {p : Addr} (h : OwnI w B v l) (hp : p.block < B) : OwnI (w.setCell p u) B v l :=
  h.keptBy (row := some p.block) ⟨rfl, rfl, rfl, by simp, fun j _ hne => Below.heap_setCell _ _ _ _ (fun e => hne (by rw [e]))⟩ (fun g e1 e2 => by cases e1; have := (h.lt _ e2).1; omega)
/-- What ReduceLeft holds: the dependency, the result's cell, the columns. -/
structure RLs (w wr : World) (x : Int) (r : Int) (vm : Value) (ms : List Int) : Prop where
  d : BxW wr w.heap.size x r
  z : BxW wr (w.heap.size + 1) 0 0
  b : Below w.heap.size w wr
  m : OwnI wr (w.heap.size + 2) vm ms
theorem RLs.keep {w wr w' : World} {x r : Int} {vm : Value} {ms : List Int} (h : RLs w wr x r vm ms) (hb : Below wr.heap.size wr w') : RLs w w' x r vm ms :=
  ⟨h.d.keep hb, h.z.keep hb, h.b.trans (hb.mono h.b.size), h.m.kept hb (fun k hk => (h.m.lt k hk).2)⟩
theorem RLs.put {w wr : World} {x r x' r' : Int} {vm : Value} {ms : List Int} (h : RLs w wr x r vm ms) : RLs w ((wr.setCell ⟨w.heap.size, 0, none⟩ (.int .i64 x')).setCell ⟨w.heap.size, 1, none⟩ (.int .i64 r')) x' r' vm ms :=
  ⟨(h.d.set0).set1, (h.z.far (by omega)).far (by omega), (h.b.setCell (p := ⟨w.heap.size, 0, none⟩) (Nat.le_refl _) _).setCell (p := ⟨w.heap.size, 1, none⟩) (Nat.le_refl _) _, (h.m.set11 (p := ⟨w.heap.size, 0, none⟩) (by show w.heap.size < _; omega)).set11 (p := ⟨w.heap.size, 1, none⟩) (by show w.heap.size < _; omega)⟩
theorem implReduceLeft_any (v : Value) (n x y : Int) (l : List (Int × Int)) (_w0 : (Lit.int .i64 n).wf = true) (bd : ∀ d ∈ l, (Lit.int .i64 d.1).wf = true ∧ (Lit.int .i64 d.2).wf = true) (_wx : (Lit.int .i64 x).wf = true) (_wy : (Lit.int .i64 y).wf = true) (w : World) (hr : ReadD w v l) (hl : l.length ≤ 1048576) :
    Calls Try.prog 131 #[.int .i64 n, v, .agg #[.int .i64 x, .int .i64 y]] w fun e w' => e = .returned (.agg #[.int .i64 (redD n l (x, y)).1, .int .i64 (redD n l (x, y)).2]) ∧ Below w.heap.size w w' := by
  have hb1 := (Below.refl w.heap.size w).alloc (Nat.le_refl _) (.cells #[.int .i64 x, .int .i64 y] 44)
  have hb2 := hb1.alloc hb1.size (.cells #[.int .i64 0, .int .i64 0] 44)
  have HIM := Lib.hid (implImpliesDep_any v n x y l _w0 bd _wx _wy _ (hr.kept hb2) hl)
  have HB2 := Lib.hid hb2
  have hba := (Below.refl (w.alloc (.cells #[.int .i64 x, .int .i64 y] 44)).heap.size _).alloc (Nat.le_refl _) (.cells #[.int .i64 0, .int .i64 0] 44)
  have HX0 := Lib.hid ((bxw_new w x y).keep hba)
  have hx1 := bxw_new (w.alloc (.cells #[.int .i64 x, .int .i64 y] 44)) 0 0
  rw [World.size_alloc] at hx1
  have HX1 := Lib.hid hx1
  clear hb1 hb2 hba hx1
  cases him : impB n l (x, y) with
  | false =>
    rw [him] at HIM
    have HE : Hid (redD n l (x, y) = (x, y)) := Lib.hid (by unfold redD; rw [him]; rfl)
    rw [HE.out]
    obtain ⟨a, cap, rfl, -⟩ := hr
    clear him bd
    go_enter Try.func131, Try.ntmps131
    have c0 := HX0.out.c0
    have c1 := HX0.out.c1
    go_wp2_with fail
    refine HIM.out.mono ?_
    rintro e w3 ⟨rfl, b3⟩
    have HB3 := Lib.hid (HB2.out.trans (b3.mono HB2.out.size))
    have hx3 := HX0.out.keep b3
    have hy3 := HX1.out.keep b3
    clear c0 c1
    have c0 := hx3.c0
    have c1 := hx3.c1
    have d0 := hy3.c0
    have d1 := hy3.c1
    have e0 := hy3.f0
    have e1 := hy3.f1
    have hz := (hy3.set0 (z := x)).set1 (z := y)
    have HR := Lib.hid (And.intro hz.c0 hz.c1)
    clear hz hx3 hy3 b3
    go_wp2_with fail
    exact bodyPost_ret (v := .agg #[.int .i64 x, .int .i64 y]) (by simp [results, Try.results131, go_sem, HR.out.1, HR.out.2]) rfl ⟨rfl, (HB3.out.setCell (p := ⟨w.heap.size + 1, 0, none⟩) (by simp) _).setCell (p := ⟨w.heap.size + 1, 1, none⟩) (by simp) _⟩
  | true =>
    rw [him] at HIM
    obtain ⟨C, L, R, rfl, hC1, hC5, he, hL, hLC, hRC, ha, hd, -⟩ := impB_parts him
    obtain ⟨rfl, rfl⟩ := Prod.mk.inj he
    have HE : Hid (redD (C : Int) l ((L : Int), (R : Int)) = (((redK l R L (mems (L : Int)) (mems (L : Int)).length : Nat) : Int), (R : Int))) := Lib.hid (by rw [redK_mems l R hL]; unfold redD; rw [if_pos him]; rfl)
    rw [HE.out]
    have HME := Lib.hid (fun w' => members_any L hL w')
    have HMB := Lib.hid (fun y hy => mems_bits11 ⟨L, hL⟩ y hy)
    have hml := mems_len (L : Int)
    simp only at HMB
    obtain ⟨ms, hms⟩ : ∃ ms, ms = mems (L : Int) := ⟨_, rfl⟩
    rw [← hms] at HME HMB hml ⊢
    have HLO := Lib.hid (redK_low hC5 l R hLC (ms := ms) (fun y hy => ⟨(HMB.out y hy).1, (HMB.out y hy).2.1⟩))
    have h32 := two5 hC5
    have HSP := Lib.hid (fun (X j : Nat) (hX : X < 2 ^ C) (hj : j < 5) w' (hb : Below w.heap.size w w') => (spareLeft_any v (C : Int) l _w0 bd X R j (by omega) (by omega) hj w' (hr.kept hb) hl).mono (fun e w'' h => show e = .returned (.bool (bitB (clo l (clrN X j)) R)) ∧ Below w'.heap.size w' w'' from ⟨by rw [h.1, imp_clr ha hC1 hC5 hX hj hRC], h.2⟩))
    have HRS := Lib.hid (fun (X j : Nat) (hX : X < 2 ^ C) (hj : j < 5) w' => (rest_any (X : Int) (R : Int) j (by omega) w').mono (fun e w'' h => show e = .returned (.agg #[.int .i64 ((clrN X j : Nat) : Int), .int .i64 (R : Int)]) ∧ Below w'.heap.size w' w'' from ⟨by rw [h.1, (clrN_fin ⟨X, by omega⟩ ⟨j, hj⟩).1], h.2⟩))
    obtain ⟨a, cap, rfl, -⟩ := hr
    clear him ha hd HE bd hms he
    go_enter Try.func131, Try.ntmps131
    have c0 := HX0.out.c0
    have c1 := HX0.out.c1
    go_wp2_with fail
    refine HIM.out.mono ?_
    rintro e w3 ⟨rfl, b3⟩
    have HB3 := Lib.hid (HB2.out.trans (b3.mono HB2.out.size))
    have HX3 := Lib.hid (HX0.out.keep b3)
    have HY3 := Lib.hid (HX1.out.keep b3)
    have HS3 : Hid (w.heap.size + 2 ≤ w3.heap.size) := Lib.hid (by have := b3.size; simp at this; omega)
    clear b3 c0 c1 HX0 HX1 HB2 HIM
    have c0 := HX3.out.c0
    have c1 := HX3.out.c1
    go_wp2_with fail
    refine (HME.out _).mono ?_
    rintro e w4 ⟨vm, rfl, om, b4⟩
    have HQ4 : Hid (RLs w w4 (L : Int) (R : Int) vm ms) := Lib.hid ⟨HX3.out.keep b4, HY3.out.keep b4, HB3.out.trans (b4.mono HB3.out.size), om.base HS3.out⟩
    obtain ⟨am, capm, rfl, -⟩ := om.read
    clear om b4 c0 c1 HX3 HY3 HB3 HS3
    go_wp2_with fail
    go_loopw [20] (fun iv wr => ∃ k : Nat, k ≤ ms.length ∧ iv = .int .i64 (k : Int) ∧ Hid (RLs w wr ((redK l R L ms k : Nat) : Int) (R : Int) (.slice am ms.length capm) ms)) (fun iv _ => ms.length - (intOf iv).toNat)
    case atStart => exact ⟨0, by omega, rfl, HQ4⟩
    case round =>
      clear HQ4
      obtain ⟨k, hk, rfl, HQ⟩ := hrel
      obtain ⟨w5, hw⟩ : ∃ w', w' = wr := ⟨_, rfl⟩
      rw [← hw] at HQ ⊢
      clear hw
      have c0 := HQ.out.d.c0
      have c1 := HQ.out.d.c1
      by_cases hlt : k < ms.length
      · obtain ⟨a', cap', e', hcm⟩ := HQ.out.m.read
        cases e'
        obtain ⟨xm, rfl, hx⟩ := hcm k hlt
        rw [get_getD ms k hlt] at hx
        obtain ⟨y0, y5, yb⟩ := HMB.out (ms.getD k 0) (by rw [← get_getD ms k hlt]; exact List.getElem_mem hlt)
        obtain ⟨Y, hY⟩ : ∃ Y : Nat, ms.getD k 0 = (Y : Int) := ⟨(ms.getD k 0).toNat, by omega⟩
        have hY5 : Y < 5 := by omega
        have hX := HLO.out k hk
        have HN : Hid (redK l R L ms (k + 1) = if bitB (clo l (clrN (redK l R L ms k) Y)) R = true then clrN (redK l R L ms k) Y else redK l R L ms k) := Lib.hid (by
          have : redK l R L ms (k + 1) = if bitB (clo l (clrN (redK l R L ms k) (ms.getD k 0).toNat)) R = true then clrN (redK l R L ms k) (ms.getD k 0).toNat else redK l R L ms k := rfl
          rw [this, hY]; rfl)
        rw [hY] at hx
        obtain ⟨X, hXe⟩ : ∃ X, X = redK l R L ms k := ⟨_, rfl⟩
        rw [← hXe] at hX HN HQ c0
        have HS5 := Lib.hid (HSP.out X Y hX hY5)
        have HR5 := Lib.hid (HRS.out X Y hX hY5)
        have z0 : (0 : Int) ≤ (k : Int) := by omega
        have z1 : (k : Int) < (ms.length : Int) := by omega
        have hba := (Below.refl w5.heap.size w5).alloc (Nat.le_refl _) (.cells #[.int .i64 (X : Int), .int .i64 (R : Int), .int .i64 (Y : Int)] 115)
        have HQ6 := Lib.hid (HQ.out.keep hba)
        have HL6 := Lib.hid (bxl_new w5 X R Y)
        clear hba hX y0 y5 yb hY hXe hcm HQ
        cases hq : bitB (clo l (clrN X Y)) R with
        | true =>
          rw [hq] at HS5 HN
          have HN2 : Hid (redK l R L ms (k + 1) = clrN X Y) := Lib.hid (by rw [HN.out]; rfl)
          obtain ⟨Z, hZ⟩ : ∃ Z, Z = clrN X Y := ⟨_, rfl⟩
          rw [← hZ] at HN2 HR5
          clear hq HN hZ
          go_wp2_with fail
          have l0 := HL6.out.c0
          have l1 := HL6.out.c1
          have l2 := HL6.out.c2
          go_wp2_with fail
          refine (HS5.out _ HQ6.out.b).mono ?_
          rintro e w7 ⟨rfl, b7⟩
          have HQ7 := Lib.hid (HQ6.out.keep b7)
          have HL7 := Lib.hid (HL6.out.keep b7)
          clear b7 l0 l1 l2 c0 c1 hx HL6 HQ6
          have l0 := HL7.out.c0
          have l1 := HL7.out.c1
          have l2 := HL7.out.c2
          go_wp2_with fail
          refine (HR5.out _).mono ?_
          rintro e w8 ⟨rfl, b8⟩
          have HQ8 := Lib.hid (HQ7.out.keep b8)
          clear b8 l0 l1 l2 HL7 HQ7
          have d0 := HQ8.out.d.c0
          have d1 := HQ8.out.d.c1
          have e0 := HQ8.out.d.f0
          have e1 := HQ8.out.d.f1
          have HQ9 := Lib.hid (HQ8.out.put (x' := (Z : Int)) (r' := (R : Int)))
          go_wp2_with fail
          go_roundw
          case rel => exact ⟨k + 1, by omega, by go_num, by rw [HN2.out]; exact HQ9⟩
          case measure => simp [intOf]; omega
        | false =>
          rw [hq] at HS5 HN
          have HN2 : Hid (redK l R L ms (k + 1) = X) := Lib.hid (by rw [HN.out]; rfl)
          clear hq HN HR5
          go_wp2_with fail
          have l0 := HL6.out.c0
          have l1 := HL6.out.c1
          have l2 := HL6.out.c2
          go_wp2_with fail
          refine (HS5.out _ HQ6.out.b).mono ?_
          rintro e w7 ⟨rfl, b7⟩
          have HQ7 := Lib.hid (HQ6.out.keep b7)
          clear b7 l0 l1 l2 c0 c1 hx HL6 HQ6
          go_wp2_with fail
          go_roundw
          case rel => exact ⟨k + 1, by omega, by go_num, by rw [HN2.out]; exact HQ7⟩
          case measure => simp [intOf]; omega
      · obtain rfl : k = ms.length := by omega
        obtain ⟨Z, hZ⟩ : ∃ Z, Z = redK l R L ms ms.length := ⟨_, rfl⟩
        rw [← hZ] at HQ c0
        have HZ := Lib.hid hZ
        clear hZ
        have d0 := HQ.out.z.c0
        have d1 := HQ.out.z.c1
        have e0 := HQ.out.z.f0
        have e1 := HQ.out.z.f1
        have hz := (HQ.out.z.set0 (z := (Z : Int))).set1 (z := (R : Int))
        have HR := Lib.hid (And.intro hz.c0 hz.c1)
        clear hz
        go_wp2_with fail
        exact bodyPost_ret (v := .agg #[.int .i64 (Z : Int), .int .i64 (R : Int)]) (by simp [results, Try.results131, go_sem, HR.out.1, HR.out.2]) rfl ⟨by rw [HZ.out], (HQ.out.b.setCell (p := ⟨w.heap.size + 1, 0, none⟩) (by simp) _).setCell (p := ⟨w.heap.size + 1, 1, none⟩) (by simp) _⟩
end
end Go.Proofs.Ytcgkfbjdlhapkaa
