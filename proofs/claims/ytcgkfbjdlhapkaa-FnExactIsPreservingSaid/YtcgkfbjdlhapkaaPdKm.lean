/- The program's chapter 11: keysWithin, union, KeysOf, PrimeColumns, by contract. Conditions: as stated. -/
import Derived.Test.YtcgkfbjdlhapkaaPdBm
import Derived.Test.YtcgkfbjdlhapkaaYa30
import Derived.Test.YtcgkfbjdlhapkaaYa23
namespace Go.Proofs.Ytcgkfbjdlhapkaa
open Go.RowKit

set_option maxHeartbeats 1600000 in
theorem filtKO_any (c1 c2 c3 : Value) (p : Int → Bool) (v : Value) (l : List Int) (w : World) (hr : ReadI w v l) (hl : l.length ≤ 1048576)
    (HP : ∀ x, x ∈ l → ∀ w', Below w.heap.size w w' → Calls Try.prog 87 #[.int .i64 x, c1, c2, c3] w' fun e w'' => e = .returned (.bool (p x)) ∧ Below w'.heap.size w' w'') :
    Calls Try.prog 85 #[v, .func (.func 87) #[] #[c1, c2, c3]] w (RetI (l.filter p) w) := by
  obtain ⟨i0, hi, hz0, hz1, hz2⟩ := info_parts info3i
  have HI : Hid (_ ∧ _ ∧ _ ∧ _) := Lib.hid ⟨hi, hz0, hz1, hz2⟩
  clear hi hz0 hz1 hz2
  have HQ := Lib.hid HP
  have HN := Lib.hid (fun k hk => filter_next p l 0 k hk)
  have HL := Lib.hid (fun k => List.length_filter_le p (l.take k))
  obtain ⟨a, cap, rfl, ha⟩ := hr
  have HA := Lib.hid ha
  clear ha HP
  go_enter Try.func85, Try.ntmps85
  go_wp2_with (at_make; refine wpList_make_own _ rfl _ _ 24 rfl w.heap.size 3 i0 (.int .i64 0) 1 Try.underlying24 HI.out.1 HI.out.2.1 HI.out.2.2.1 .i64 .i64 _ l.length rfl rfl rfl (by rw [HI.out.2.2.2]; omega) (by unfold maxLen; omega) (Nat.le_refl _) ?_; intro w0 hown0 hgrow0)
  have hb0 := (Below.refl w.heap.size w).grown hgrow0 (Nat.le_refl _) (by simp)
  have hown := OwnI.made hown0
  clear hown0 hgrow0
  go_loopw [5, 13] (fun ov iv wr => ∃ (k : Nat) (q : List Int), k ≤ l.length ∧ iv = .int .i64 (k : Int) ∧ Hid (q = (l.take k).filter p) ∧ OwnI wr w.heap.size ov q ∧ Below w.heap.size w wr) (fun _ iv _ => l.length - (intOf iv).toNat)
  case atStart => exact ⟨0, [], by omega, rfl, Lib.hid rfl, hown, hb0⟩
  case round =>
    clear hown hb0
    obtain ⟨k, q, hk, rfl, hq, ho, hb⟩ := hrel
    by_cases hlt : k < l.length
    · obtain ⟨x, rfl, hx⟩ := HA.out k hlt
      replace hx := (hb.cell (World.block_lt_of_cell? w _ hx)).trans hx
      rw [get_getD l k hlt] at hx
      have hm : l.getD k 0 ∈ l := by rw [← get_getD l k hlt]; exact List.getElem_mem hlt
      have hll : q.length ≤ 1048576 := by rw [hq.out]; have := HL.out k; rw [List.length_take] at this; omega
      have HS := Lib.hid (HN.out k hlt)
      obtain ⟨y, hy⟩ : ∃ y, y = l.getD k 0 := ⟨_, rfl⟩
      rw [← hy] at hx HS hm
      have HC := Lib.hid (HQ.out y hm)
      have HB := Lib.hid hb
      have HO := Lib.hid ho
      clear hy hm ho
      have z0 : (0 : Int) ≤ (k : Int) := by omega
      have z1 : (k : Int) < (l.length : Int) := by omega
      cases hp : p y with
      | true =>
        rw [hp] at HC HS
        rw [if_pos rfl] at HS
        clear hp
        go_wp2_with fail
        refine (HC.out _ HB.out).mono ?_
        rintro e w1 ⟨rfl, b1⟩
        have ho1 := HO.out.kept b1 (fun k hk => (HO.out.lt k hk).2)
        have hb1 := HB.out.trans (b1.mono HB.out.size)
        clear b1
        go_wp2_with (at_builtin; refine wpList_append_own _ rfl _ _ 24 rfl w.heap.size 3 i0 (.int .i64 0) 1 8 Try.underlying24 HI.out.1 HI.out.2.1 HI.out.2.2.1 HI.out.2.2.2 rfl (by decide) _ _ _ rfl (World.ownsRow.alloc ho1 _) ⟨w1.heap.size, 0, none⟩ 1 1 [.int .i64 y] rfl rfl (cell_one_new _ _ _) (one_i64 _) (by unfold maxLen; omega) (by omega) (le_alloc hb1 (Nat.le_refl _) _) ?_; intro v1 w2 hown1 hgrow1 _)
        have ho2 := OwnI.snoc hown1
        have hb2 := (hb1.alloc hb1.size (.cells #[.int .i64 y] 3)).grown hgrow1 (by simp; have := hb1.size; omega) (fun k hk => (OwnI.lt ho1 k hk).1)
        clear hown1 hgrow1
        go_wp2_with fail
        go_roundw
        case rel => exact ⟨k + 1, _, by omega, by go_num, Lib.hid (by rw [HS.out, ← hq.out]), ho2, hb2⟩
        case measure => simp [intOf]; omega
      | false =>
        rw [hp] at HC HS
        rw [if_neg (by decide)] at HS
        clear hp
        go_wp2_with fail
        refine (HC.out _ HB.out).mono ?_
        rintro e w1 ⟨rfl, b1⟩
        have ho1 := HO.out.kept b1 (fun k hk => (HO.out.lt k hk).2)
        have hb1 := HB.out.trans (b1.mono HB.out.size)
        clear b1
        go_wp2_with fail
        go_roundw
        case rel => exact ⟨k + 1, _, by omega, by go_num, Lib.hid (by rw [HS.out, ← hq.out]), ho1, hb1⟩
        case measure => simp [intOf]; omega
    · obtain rfl : k = l.length := by omega
      go_wp2_with fail
      go_ret
      exact ⟨_, rfl, by have := hq.out; rw [List.take_length] at this; rw [← this]; exact ho, hb⟩
theorem parts_len11 (n : Int) : (parts n).length ≤ 1048576 := by
  by_cases hn : 0 ≤ n ∧ n ≤ 5
  · obtain ⟨C, rfl⟩ : ∃ C : Nat, n = (C : Int) := ⟨n.toNat, by omega⟩
    have := parts_len32 (C := C) (by omega)
    omega
  · unfold parts
    rw [if_neg hn]
    simp
theorem filt_I6411 (n : Int) (p : Int → Bool) : I64s ((parts n).filter p) := by
  intro x hx
  obtain ⟨X, rfl, hX⟩ := parts_small n x (List.mem_filter.1 hx).1
  omega
/-- Whether a set is a part of a set whose closure contains it. -/
def kwG (l : List (Int × Int)) (W x : Nat) : Bool := subN x W && subN W (clo l x)
def kwL (l : List (Int × Int)) (C W : Nat) : List Int := minS (brdTo (kwG l W) (2 ^ C))
theorem sub_full11 : ∀ (C : Fin 6) (x : Fin 32), x.val < 2 ^ C.val → subN x.val (2 ^ C.val - 1) = true ∧ subN (2 ^ C.val - 1) x.val = (x.val == 2 ^ C.val - 1) := by decide +kernel
theorem kwG_full {C : Nat} (hC : C ≤ 5) {l : List (Int × Int)} (hd : DepsN C l) {x : Nat} (hx : x < 2 ^ C) : kwG l (2 ^ C - 1) x = spn l C x := by
  have h32 := two5 hC
  obtain ⟨c1, -, c3, -⟩ := clo_spec hC hd (x := x) (by omega)
  have h1 := (sub_full11 ⟨C, by omega⟩ ⟨x, by omega⟩ hx).1
  have h2 := (sub_full11 ⟨C, by omega⟩ ⟨clo l x, c1⟩ (c3 hx)).2
  simp only at h1 h2
  unfold kwG spn
  rw [h1, h2, Bool.true_and]
theorem kwL_full {C : Nat} (hC : C ≤ 5) {l : List (Int × Int)} (ha : arD (C : Int) l = true) (hd : DepsN C l) : kwL l C (2 ^ C - 1) = koL (C : Int) l := by
  have h1 := min_filt hC (g := fun S => kwG l (2 ^ C - 1) S.toNat) (f := kwG l (2 ^ C - 1)) (fun x _ => rfl)
  have h2 := min_filt hC (g := fun S => kwG l (2 ^ C - 1) S.toNat) (f := spn l C) (fun x hx => kwG_full hC hd hx)
  unfold kwL koL koC
  rw [if_pos ha, ← h1, h2]
  rfl
section
set_option maxRecDepth 20000
set_option maxHeartbeats 3200000
theorem partB_sub {L X : Nat} (hL : L < 32) (hX : X < 32) (w : World) : Calls Try.prog 88 #[.int .i64 (L : Int), .int .i64 (X : Int)] w fun e w' => e = .returned (.bool (subN L X)) ∧ Below w.heap.size w w' :=
  (partP_sub hL hX w).mono fun _ _ h => ⟨h.1, h.2 ▸ Below.refl _ _⟩
theorem keysFun_any (v : Value) (C : Nat) (hC1 : 1 ≤ C) (hC : C ≤ 5) (l : List (Int × Int)) (ha : arD (C : Int) l = true) (_w0 : (Lit.int .i64 (C : Int)).wf = true) (bd : ∀ d ∈ l, (Lit.int .i64 d.1).wf = true ∧ (Lit.int .i64 d.2).wf = true) (W X : Nat) (hW : W < 32) (hX : X < 2 ^ C) (b : Nat) (w : World) (h0 : w.cell? ⟨b, 0, none⟩ = some (.int .i64 (C : Int))) (h1 : w.cell? ⟨b + 1, 0, none⟩ = some v) (h2 : w.cell? ⟨b + 2, 0, none⟩ = some (.int .i64 (W : Int))) (hr : ReadD w v l) (hl : l.length ≤ 1048576) :
    Calls Try.prog 87 #[.int .i64 (X : Int), .pointer (some ⟨b + 2, 0, none⟩), .pointer (some ⟨b, 0, none⟩), .pointer (some ⟨b + 1, 0, none⟩)] w fun e w' => e = .returned (.bool (kwG l W X)) ∧ Below w.heap.size w w' := by
  have h32 := two5 hC
  have hcz : cloZ (C : Int) l (X : Int) = (clo l X : Int) := by
    have hi := (depB_iff.1 (dep_of (R := 0) hC1 hC hX (by omega))).2.1
    unfold cloZ; rw [ha, hi]; rfl
  obtain ⟨C', e', -, -, -, hd⟩ := arD_n ha
  obtain rfl : C = C' := by omega
  have hc32 := (clo_spec hC hd (x := X) (by omega)).1
  have HCL := Lib.hid (fun w' (hb : Below w.heap.size w w') => implClosureOf_any v (C : Int) (X : Int) l _w0 bd (wf_small11 X (by omega)) w' (hr.kept hb) hl)
  rw [hcz] at HCL
  have HP1 := Lib.hid (fun w' => partB_sub (L := X) (X := W) (by omega) hW w')
  have HP2 := Lib.hid (fun w' => partB_sub (L := W) (X := clo l X) hW hc32 w')
  have hq : kwG l W X = (subN X W && subN W (clo l X)) := rfl
  rw [hq]
  obtain ⟨Z, hZ⟩ : ∃ Z, Z = clo l X := ⟨_, rfl⟩
  rw [← hZ] at HCL HP2 ⊢
  obtain ⟨p1, hp1⟩ : ∃ q, q = subN X W := ⟨_, rfl⟩
  rw [← hp1] at HP1 ⊢
  obtain ⟨p2, hp2⟩ : ∃ q, q = subN W Z := ⟨_, rfl⟩
  rw [← hp2] at HP2 ⊢
  have HB0 := Lib.hid (Below.refl w.heap.size w)
  obtain ⟨a, cap, rfl, -⟩ := hr
  clear hZ hcz bd ha h32 hX hc32 hd hq hp1 hp2 e'
  cases p1 with
  | false =>
    go_enter Try.func87, Try.ntmps87
    go_upto_region 1 with fail
    refine wp_region_noPanic ?_
    refine wp_region_held_drew (S := (fun w' => (w'.cell? ⟨b, 0, none⟩ = some (.int .i64 (C : Int)) ∧ w'.cell? ⟨b + 1, 0, none⟩ = some (.slice a l.length cap) ∧ w'.cell? ⟨b + 2, 0, none⟩ = some (.int .i64 (W : Int))) ∧ Below w.heap.size w w')) (by kernel_rfl) ?_ (fun hHeld => ?_)
    · ((try dsimp only); (first | exact ⟨⟨keep_in hHeld.1.1 b92, keep_in hHeld.1.2.1 b92, keep_in hHeld.1.2.2 b92⟩, hHeld.2.trans (b92.mono hHeld.2.size)⟩ | exact ⟨⟨keep_in hHeld.1.1 b91, keep_in hHeld.1.2.1 b91, keep_in hHeld.1.2.2 b91⟩, hHeld.2.trans (b91.mono hHeld.2.size)⟩ | exact ⟨⟨h0, h1, h2⟩, HB0.out.drew⟩))
    refine wpAnyH_take (i := 0) (v := ?_) rfl (by kernel_rfl) (by kernel_rfl) (by kernel_rfl) (fun _ _ _ h => h) (Or.inl ⟨by rfl, ?_⟩) (by assumption) ?_
    rotate_left
    · (intro w hSw; (try dsimp only at hSw); go_simp; (try with_reducible rfl))
    (try simp only [Act.put, List.getElem_toArray, List.getElem_cons_zero, List.setIfInBounds_toArray, List.set_cons_zero, List.set_cons_succ])
    refine wpAnyH_take (i := 1) (v := ?_) rfl (by kernel_rfl) (by kernel_rfl) (by kernel_rfl) (fun _ _ _ h => h) (Or.inl ⟨by rfl, ?_⟩) (by assumption) ?_
    rotate_left
    · (intro w hSw; (try dsimp only at hSw); go_simp; (try with_reducible rfl))
    (try simp only [Act.put, List.getElem_toArray, List.getElem_cons_succ, List.getElem_cons_zero, List.setIfInBounds_toArray, List.set_cons_zero, List.set_cons_succ])
    refine wpAnyH_ready (rs := [2]) (by kernel_rfl) (by simp) (AllReadyH.cons rfl (fun K hK => ?_) AllReadyH.nil)
    (first | ((first | (go_at_call 89; refine (HCL.out _ hHeld.2).mono ?_; rintro e w91 ⟨rfl, b91⟩) | (go_at_call 88; refine (HP1.out _).mono ?_; rintro e w92 ⟨rfl, b92⟩) | (go_at_call 88; refine (HP2.out _).mono ?_; rintro e w92 ⟨rfl, b92⟩))) | (go_simp; (first | (go_at_call 89; refine (HCL.out _ hHeld.2).mono ?_; rintro e w91 ⟨rfl, b91⟩) | (go_at_call 88; refine (HP1.out _).mono ?_; rintro e w92 ⟨rfl, b92⟩) | (go_at_call 88; refine (HP2.out _).mono ?_; rintro e w92 ⟨rfl, b92⟩))))
    (try (go_wp2_with fail))
    refine hK.out _ _ ?_ (fun hHeld => ?_)
    · ((try dsimp only); (first | exact ⟨⟨keep_in hHeld.1.1 b92, keep_in hHeld.1.2.1 b92, keep_in hHeld.1.2.2 b92⟩, hHeld.2.trans (b92.mono hHeld.2.size)⟩ | exact ⟨⟨keep_in hHeld.1.1 b91, keep_in hHeld.1.2.1 b91, keep_in hHeld.1.2.2 b91⟩, hHeld.2.trans (b91.mono hHeld.2.size)⟩ | exact ⟨⟨h0, h1, h2⟩, HB0.out.drew⟩))
    clear hK K
    (try simp only [Act.put, List.getElem_toArray, List.getElem_cons_succ, List.getElem_cons_zero, List.setIfInBounds_toArray, List.set_cons_zero, List.set_cons_succ])
    refine wpAnyH_take (i := 3) (v := ?_) rfl (by kernel_rfl) (by kernel_rfl) (by kernel_rfl) (fun _ _ _ h => h) (Or.inl ⟨by rfl, ?_⟩) (by assumption) ?_
    rotate_left
    · (intro w hSw; (try dsimp only at hSw); go_simp; (try with_reducible rfl))
    (try simp only [Act.put, List.getElem_toArray, List.getElem_cons_succ, List.getElem_cons_zero, List.setIfInBounds_toArray, List.set_cons_zero, List.set_cons_succ])
    refine wpAnyH_take (i := 4) (v := undef) rfl (by kernel_rfl) (by kernel_rfl) (by kernel_rfl) (fun _ _ _ h => h) (Or.inr ⟨by rfl, rfl⟩) (by assumption) ?_
    (try simp only [Act.put, List.getElem_toArray, List.getElem_cons_succ, List.getElem_cons_zero, List.setIfInBounds_toArray, List.set_cons_zero, List.set_cons_succ])
    refine wpAnyH_take (i := 5) (v := undef) rfl (by kernel_rfl) (by kernel_rfl) (by kernel_rfl) (fun _ _ _ h => h) (Or.inr ⟨by rfl, rfl⟩) (by assumption) ?_
    (try simp only [Act.put, List.getElem_toArray, List.getElem_cons_succ, List.getElem_cons_zero, List.setIfInBounds_toArray, List.set_cons_zero, List.set_cons_succ])
    refine wpAnyH_take (i := 6) (v := undef) rfl (by kernel_rfl) (by kernel_rfl) (by kernel_rfl) (fun _ _ _ h => h) (Or.inr ⟨by rfl, rfl⟩) (by assumption) ?_
    (try simp only [Act.put, List.getElem_toArray, List.getElem_cons_succ, List.getElem_cons_zero, List.setIfInBounds_toArray, List.set_cons_zero, List.set_cons_succ])
    refine wpAnyH_take (i := 7) (v := undef) rfl (by kernel_rfl) (by kernel_rfl) (by kernel_rfl) (fun _ _ _ h => h) (Or.inr ⟨by rfl, rfl⟩) (by assumption) ?_
    (try simp only [Act.put, List.getElem_toArray, List.getElem_cons_succ, List.getElem_cons_zero, List.setIfInBounds_toArray, List.set_cons_zero, List.set_cons_succ])
    refine wpAnyH_take (i := 8) (v := undef) rfl (by kernel_rfl) (by kernel_rfl) (by kernel_rfl) (fun _ _ _ h => h) (Or.inr ⟨by rfl, rfl⟩) (by assumption) ?_
    (try simp only [Act.put, List.getElem_toArray, List.getElem_cons_succ, List.getElem_cons_zero, List.setIfInBounds_toArray, List.set_cons_zero, List.set_cons_succ])
    refine wpAnyH_take (i := 9) (v := undef) rfl (by kernel_rfl) (by kernel_rfl) (by kernel_rfl) (fun _ _ _ h => h) (Or.inr ⟨by rfl, rfl⟩) (by assumption) ?_
    (try simp only [Act.put, List.getElem_toArray, List.getElem_cons_succ, List.getElem_cons_zero, List.setIfInBounds_toArray, List.set_cons_zero, List.set_cons_succ])
    refine wpAnyH_take (i := 10) (v := ?_) rfl (by kernel_rfl) (by kernel_rfl) (by kernel_rfl) (fun _ _ _ h => h) (Or.inl ⟨by rfl, ?_⟩) (by assumption) ?_
    rotate_left
    · (intro w hSw; (try dsimp only at hSw); go_simp; (try with_reducible rfl))
    (try simp only [Act.put, List.getElem_toArray, List.getElem_cons_succ, List.getElem_cons_zero, List.setIfInBounds_toArray, List.set_cons_zero, List.set_cons_succ])
    refine wpAnyH_take (i := 11) (v := ?_) rfl (by kernel_rfl) (by kernel_rfl) (by kernel_rfl) (fun _ _ _ h => h) (Or.inl ⟨by rfl, ?_⟩) (by assumption) ?_
    rotate_left
    · (intro w hSw; (try dsimp only at hSw); go_simp; (try with_reducible rfl))
    (try simp only [Act.put, List.getElem_toArray, List.getElem_cons_succ, List.getElem_cons_zero, List.setIfInBounds_toArray, List.set_cons_zero, List.set_cons_succ])
    refine wpAnyH_done (by kernel_rfl) ?_ _
    refine NoPanic.normal ?_
    have HBE := Lib.hid hHeld.2
    clear hHeld h0 h1 h2
    go_wp2_with fail
    go_ret
    exact ⟨ret_b (by rw [Bool.false_and]), HBE.out⟩
  | true =>
    go_enter Try.func87, Try.ntmps87
    go_upto_region 1 with fail
    refine wp_region_noPanic ?_
    refine wp_region_held_drew (S := (fun w' => (w'.cell? ⟨b, 0, none⟩ = some (.int .i64 (C : Int)) ∧ w'.cell? ⟨b + 1, 0, none⟩ = some (.slice a l.length cap) ∧ w'.cell? ⟨b + 2, 0, none⟩ = some (.int .i64 (W : Int))) ∧ Below w.heap.size w w')) (by kernel_rfl) ?_ (fun hHeld => ?_)
    · ((try dsimp only); (first | exact ⟨⟨keep_in hHeld.1.1 b92, keep_in hHeld.1.2.1 b92, keep_in hHeld.1.2.2 b92⟩, hHeld.2.trans (b92.mono hHeld.2.size)⟩ | exact ⟨⟨keep_in hHeld.1.1 b91, keep_in hHeld.1.2.1 b91, keep_in hHeld.1.2.2 b91⟩, hHeld.2.trans (b91.mono hHeld.2.size)⟩ | exact ⟨⟨h0, h1, h2⟩, HB0.out.drew⟩))
    refine wpAnyH_take (i := 0) (v := ?_) rfl (by kernel_rfl) (by kernel_rfl) (by kernel_rfl) (fun _ _ _ h => h) (Or.inl ⟨by rfl, ?_⟩) (by assumption) ?_
    rotate_left
    · (intro w hSw; (try dsimp only at hSw); go_simp; (try with_reducible rfl))
    (try simp only [Act.put, List.getElem_toArray, List.getElem_cons_zero, List.setIfInBounds_toArray, List.set_cons_zero, List.set_cons_succ])
    refine wpAnyH_take (i := 1) (v := ?_) rfl (by kernel_rfl) (by kernel_rfl) (by kernel_rfl) (fun _ _ _ h => h) (Or.inl ⟨by rfl, ?_⟩) (by assumption) ?_
    rotate_left
    · (intro w hSw; (try dsimp only at hSw); go_simp; (try with_reducible rfl))
    (try simp only [Act.put, List.getElem_toArray, List.getElem_cons_succ, List.getElem_cons_zero, List.setIfInBounds_toArray, List.set_cons_zero, List.set_cons_succ])
    refine wpAnyH_ready (rs := [2]) (by kernel_rfl) (by simp) (AllReadyH.cons rfl (fun K hK => ?_) AllReadyH.nil)
    (first | ((first | (go_at_call 89; refine (HCL.out _ hHeld.2).mono ?_; rintro e w91 ⟨rfl, b91⟩) | (go_at_call 88; refine (HP1.out _).mono ?_; rintro e w92 ⟨rfl, b92⟩) | (go_at_call 88; refine (HP2.out _).mono ?_; rintro e w92 ⟨rfl, b92⟩))) | (go_simp; (first | (go_at_call 89; refine (HCL.out _ hHeld.2).mono ?_; rintro e w91 ⟨rfl, b91⟩) | (go_at_call 88; refine (HP1.out _).mono ?_; rintro e w92 ⟨rfl, b92⟩) | (go_at_call 88; refine (HP2.out _).mono ?_; rintro e w92 ⟨rfl, b92⟩))))
    (try (go_wp2_with fail))
    refine hK.out _ _ ?_ (fun hHeld => ?_)
    · ((try dsimp only); (first | exact ⟨⟨keep_in hHeld.1.1 b92, keep_in hHeld.1.2.1 b92, keep_in hHeld.1.2.2 b92⟩, hHeld.2.trans (b92.mono hHeld.2.size)⟩ | exact ⟨⟨keep_in hHeld.1.1 b91, keep_in hHeld.1.2.1 b91, keep_in hHeld.1.2.2 b91⟩, hHeld.2.trans (b91.mono hHeld.2.size)⟩ | exact ⟨⟨h0, h1, h2⟩, HB0.out.drew⟩))
    clear hK K
    (try simp only [Act.put, List.getElem_toArray, List.getElem_cons_succ, List.getElem_cons_zero, List.setIfInBounds_toArray, List.set_cons_zero, List.set_cons_succ])
    refine wpAnyH_take (i := 3) (v := ?_) rfl (by kernel_rfl) (by kernel_rfl) (by kernel_rfl) (fun _ _ _ h => h) (Or.inl ⟨by rfl, ?_⟩) (by assumption) ?_
    rotate_left
    · (intro w hSw; (try dsimp only at hSw); go_simp; (try with_reducible rfl))
    (try simp only [Act.put, List.getElem_toArray, List.getElem_cons_succ, List.getElem_cons_zero, List.setIfInBounds_toArray, List.set_cons_zero, List.set_cons_succ])
    refine wpAnyH_take (i := 4) (v := ?_) rfl (by kernel_rfl) (by kernel_rfl) (by kernel_rfl) (fun _ _ _ h => h) (Or.inl ⟨by rfl, ?_⟩) (by assumption) ?_
    rotate_left
    · (intro w hSw; (try dsimp only at hSw); go_simp; (try with_reducible rfl))
    (try simp only [Act.put, List.getElem_toArray, List.getElem_cons_succ, List.getElem_cons_zero, List.setIfInBounds_toArray, List.set_cons_zero, List.set_cons_succ])
    refine wpAnyH_take (i := 5) (v := ?_) rfl (by kernel_rfl) (by kernel_rfl) (by kernel_rfl) (fun _ _ _ h => h) (Or.inl ⟨by rfl, ?_⟩) (by assumption) ?_
    rotate_left
    · (intro w hSw; (try dsimp only at hSw); go_simp; (try with_reducible rfl))
    (try simp only [Act.put, List.getElem_toArray, List.getElem_cons_succ, List.getElem_cons_zero, List.setIfInBounds_toArray, List.set_cons_zero, List.set_cons_succ])
    refine wpAnyH_take (i := 6) (v := ?_) rfl (by kernel_rfl) (by kernel_rfl) (by kernel_rfl) (fun _ _ _ h => h) (Or.inl ⟨by rfl, ?_⟩) (by assumption) ?_
    rotate_left
    · (intro w hSw; (try dsimp only at hSw); go_simp; (try with_reducible rfl))
    (try simp only [Act.put, List.getElem_toArray, List.getElem_cons_succ, List.getElem_cons_zero, List.setIfInBounds_toArray, List.set_cons_zero, List.set_cons_succ])
    refine wpAnyH_take (i := 7) (v := ?_) rfl (by kernel_rfl) (by kernel_rfl) (by kernel_rfl) (fun _ _ _ h => h) (Or.inl ⟨by rfl, ?_⟩) (by assumption) ?_
    rotate_left
    · (intro w hSw; (try dsimp only at hSw); go_simp; (try with_reducible rfl))
    (try simp only [Act.put, List.getElem_toArray, List.getElem_cons_succ, List.getElem_cons_zero, List.setIfInBounds_toArray, List.set_cons_zero, List.set_cons_succ])
    refine wpAnyH_ready (rs := [8]) (by kernel_rfl) (by simp) (AllReadyH.cons rfl (fun K hK => ?_) AllReadyH.nil)
    (first | ((first | (go_at_call 89; refine (HCL.out _ hHeld.2).mono ?_; rintro e w91 ⟨rfl, b91⟩) | (go_at_call 88; refine (HP1.out _).mono ?_; rintro e w92 ⟨rfl, b92⟩) | (go_at_call 88; refine (HP2.out _).mono ?_; rintro e w92 ⟨rfl, b92⟩))) | (go_simp; (first | (go_at_call 89; refine (HCL.out _ hHeld.2).mono ?_; rintro e w91 ⟨rfl, b91⟩) | (go_at_call 88; refine (HP1.out _).mono ?_; rintro e w92 ⟨rfl, b92⟩) | (go_at_call 88; refine (HP2.out _).mono ?_; rintro e w92 ⟨rfl, b92⟩))))
    (try (go_wp2_with fail))
    refine hK.out _ _ ?_ (fun hHeld => ?_)
    · ((try dsimp only); (first | exact ⟨⟨keep_in hHeld.1.1 b92, keep_in hHeld.1.2.1 b92, keep_in hHeld.1.2.2 b92⟩, hHeld.2.trans (b92.mono hHeld.2.size)⟩ | exact ⟨⟨keep_in hHeld.1.1 b91, keep_in hHeld.1.2.1 b91, keep_in hHeld.1.2.2 b91⟩, hHeld.2.trans (b91.mono hHeld.2.size)⟩ | exact ⟨⟨h0, h1, h2⟩, HB0.out.drew⟩))
    clear hK K
    (try simp only [Act.put, List.getElem_toArray, List.getElem_cons_succ, List.getElem_cons_zero, List.setIfInBounds_toArray, List.set_cons_zero, List.set_cons_succ])
    refine wpAnyH_ready (rs := [9]) (by kernel_rfl) (by simp) (AllReadyH.cons rfl (fun K hK => ?_) AllReadyH.nil)
    (first | ((first | (go_at_call 89; refine (HCL.out _ hHeld.2).mono ?_; rintro e w91 ⟨rfl, b91⟩) | (go_at_call 88; refine (HP1.out _).mono ?_; rintro e w92 ⟨rfl, b92⟩) | (go_at_call 88; refine (HP2.out _).mono ?_; rintro e w92 ⟨rfl, b92⟩))) | (go_simp; (first | (go_at_call 89; refine (HCL.out _ hHeld.2).mono ?_; rintro e w91 ⟨rfl, b91⟩) | (go_at_call 88; refine (HP1.out _).mono ?_; rintro e w92 ⟨rfl, b92⟩) | (go_at_call 88; refine (HP2.out _).mono ?_; rintro e w92 ⟨rfl, b92⟩))))
    (try (go_wp2_with fail))
    refine hK.out _ _ ?_ (fun hHeld => ?_)
    · ((try dsimp only); (first | exact ⟨⟨keep_in hHeld.1.1 b92, keep_in hHeld.1.2.1 b92, keep_in hHeld.1.2.2 b92⟩, hHeld.2.trans (b92.mono hHeld.2.size)⟩ | exact ⟨⟨keep_in hHeld.1.1 b91, keep_in hHeld.1.2.1 b91, keep_in hHeld.1.2.2 b91⟩, hHeld.2.trans (b91.mono hHeld.2.size)⟩ | exact ⟨⟨h0, h1, h2⟩, HB0.out.drew⟩))
    clear hK K
    (try simp only [Act.put, List.getElem_toArray, List.getElem_cons_succ, List.getElem_cons_zero, List.setIfInBounds_toArray, List.set_cons_zero, List.set_cons_succ])
    refine wpAnyH_take (i := 10) (v := ?_) rfl (by kernel_rfl) (by kernel_rfl) (by kernel_rfl) (fun _ _ _ h => h) (Or.inl ⟨by rfl, ?_⟩) (by assumption) ?_
    rotate_left
    · (intro w hSw; (try dsimp only at hSw); go_simp; (try with_reducible rfl))
    (try simp only [Act.put, List.getElem_toArray, List.getElem_cons_succ, List.getElem_cons_zero, List.setIfInBounds_toArray, List.set_cons_zero, List.set_cons_succ])
    refine wpAnyH_take (i := 11) (v := ?_) rfl (by kernel_rfl) (by kernel_rfl) (by kernel_rfl) (fun _ _ _ h => h) (Or.inl ⟨by rfl, ?_⟩) (by assumption) ?_
    rotate_left
    · (intro w hSw; (try dsimp only at hSw); go_simp; (try with_reducible rfl))
    (try simp only [Act.put, List.getElem_toArray, List.getElem_cons_succ, List.getElem_cons_zero, List.setIfInBounds_toArray, List.set_cons_zero, List.set_cons_succ])
    refine wpAnyH_done (by kernel_rfl) ?_ _
    refine NoPanic.normal ?_
    have HBE := Lib.hid hHeld.2
    clear hHeld h0 h1 h2
    go_wp2_with fail
    go_ret
    exact ⟨ret_b (by rw [Bool.true_and]), HBE.out⟩
theorem keysWithin_any (v : Value) (C W : Nat) (hC1 : 1 ≤ C) (hC : C ≤ 5) (hW : W < 32) (l : List (Int × Int)) (ha : arD (C : Int) l = true) (_w0 : (Lit.int .i64 (C : Int)).wf = true) (bd : ∀ d ∈ l, (Lit.int .i64 d.1).wf = true ∧ (Lit.int .i64 d.2).wf = true) (w : World) (hr : ReadD w v l) (hl : l.length ≤ 1048576) :
    Calls Try.prog 42 #[.int .i64 (C : Int), v, .int .i64 (W : Int)] w (RetI (kwL l C W) w) := by
  have hb1 := (Below.refl w.heap.size w).alloc (Nat.le_refl _) (.cells #[.int .i64 (C : Int)] 3)
  have hb2 := hb1.alloc hb1.size (.cells #[v] 26)
  have hb3 := hb2.alloc hb2.size (.cells #[.int .i64 (W : Int)] 48)
  obtain ⟨c0, c1⟩ := two_boxes (w := w) (T := 3) (T' := 26) (a := .int .i64 (C : Int)) (b := v)
  have c2 := one_at ((w.alloc (.cells #[.int .i64 (C : Int)] 3)).alloc (.cells #[v] 26)) 48 (.int .i64 (W : Int))
  have hba := (Below.refl ((w.alloc (.cells #[.int .i64 (C : Int)] 3)).alloc (.cells #[v] 26)).heap.size _).alloc (Nat.le_refl _) (.cells #[.int .i64 (W : Int)] 48)
  replace c0 := keep_in c0 hba
  replace c1 := keep_in c1 hba
  rw [World.size_alloc, World.size_alloc] at c2
  have HB3 := Lib.hid hb3
  have hE : minS ((parts (C : Int)).filter (fun S => kwG l W S.toNat)) = kwL l C W := min_filt hC (fun x _ => rfl)
  have hpl := parts_len11 (C : Int)
  have hfl := List.length_filter_le (fun S => kwG l W S.toNat) (parts (C : Int))
  have HPT := Lib.hid (fun w' => implParts_any (C : Int) w')
  have HFL := Lib.hid (fun vp w' (hb : Below w.heap.size w w') (k0 : w'.cell? ⟨w.heap.size, 0, none⟩ = some (.int .i64 (C : Int))) (k1 : w'.cell? ⟨w.heap.size + 1, 0, none⟩ = some v) (k2 : w'.cell? ⟨w.heap.size + 2, 0, none⟩ = some (.int .i64 (W : Int))) (hp : ReadI w' vp (parts (C : Int))) => filtKO_any (.pointer (some ⟨w.heap.size + 2, 0, none⟩)) (.pointer (some ⟨w.heap.size, 0, none⟩)) (.pointer (some ⟨w.heap.size + 1, 0, none⟩)) (fun S => kwG l W S.toNat) vp (parts (C : Int)) w' hp hpl
    (fun x hx w'' hb' => by
      obtain ⟨X, hX, rfl⟩ := (parts_mem hC x).1 hx
      exact keysFun_any v C hC1 hC l ha _w0 bd W X hW hX w.heap.size w'' (keep_in k0 hb') (keep_in k1 hb') (keep_in k2 hb') (hr.kept (hb.trans (hb'.mono hb.size))) hl))
  have HMS := Lib.hid (fun vp w' (hp : ReadI w' vp ((parts (C : Int)).filter (fun S => kwG l W S.toNat))) => implMinimalM_any vp _ w' hp (by omega) (filt_I6411 (C : Int) _))
  rw [hE] at HMS
  have HC3 := Lib.hid (And.intro c0 (And.intro c1 c2))
  obtain ⟨a, cap, rfl, -⟩ := hr
  clear ha bd hb1 hb2 hb3 hba hpl hfl hE
  go_enter Try.func42, Try.ntmps42
  go_wp2_with fail
  refine (HPT.out _).mono ?_
  rintro e w4 ⟨v4, rfl, o4, b4⟩
  have HB4 := Lib.hid (HB3.out.trans (b4.mono HB3.out.size))
  have HG := Lib.hid (HFL.out v4 w4 HB4.out (keep_in HC3.out.1 b4) (keep_in HC3.out.2.1 b4) (keep_in HC3.out.2.2 b4) o4.read)
  clear b4 c0 c1 c2 o4 HC3 HB3
  go_wp2_with fail
  refine HG.out.mono ?_
  rintro e w5 ⟨v5, rfl, o5, b5⟩
  have HB5 := Lib.hid (HB4.out.trans (b5.mono HB4.out.size))
  have HN := Lib.hid (HMS.out v5 w5 o5.read)
  clear b5 o5
  go_wp2_with fail
  refine HN.out.mono ?_
  rintro e w6 ⟨v6, rfl, o6, b6⟩
  have HB6 := Lib.hid (HB5.out.trans (b6.mono HB5.out.size))
  have HO6 := Lib.hid (o6.base HB5.out.size)
  clear b6 o6
  go_wp2_with fail
  go_ret
  exact ⟨_, rfl, HO6.out, HB6.out⟩
theorem full_any11 (C : Nat) (hC : C ≤ 5) (w : World) : Calls Try.prog 43 #[.int .i64 (C : Int)] w fun e w' => e = .returned (.int .i64 (((2 ^ C - 1 : Nat) : Int))) ∧ Below w.heap.size w w' :=
  (first_any (C : Int) w (by omega) (by omega)).mono (fun e w'' h => ⟨by
    rw [h.1]
    have e2 : ((2 ^ C : Nat) : Int) = (2 : Int) ^ C := by rw [Int.natCast_pow]; rfl
    have hp : 0 < 2 ^ C := Nat.pow_pos (by decide)
    have e3 : ((2 ^ C - 1 : Nat) : Int) = (2 : Int) ^ C - 1 := by omega
    rw [e3]; rfl, h.2 ▸ Below.refl _ _⟩)
theorem implKeysOf_any (v : Value) (n : Int) (l : List (Int × Int)) (_w0 : (Lit.int .i64 n).wf = true) (bd : ∀ d ∈ l, (Lit.int .i64 d.1).wf = true ∧ (Lit.int .i64 d.2).wf = true) (w : World) (hr : ReadD w v l) (hl : l.length ≤ 1048576) :
    Calls Try.prog 14 #[.int .i64 n, v] w (RetI (koL n l) w) := by
  have HAD := Lib.hid (implAreDeps_any v n l _w0 bd w hr hl)
  cases ha : arD n l with
  | false =>
    rw [ha] at HAD
    have HE : Hid (koL n l = []) := Lib.hid (by unfold koL koC; rw [ha]; rfl)
    rw [HE.out]
    obtain ⟨a, cap, rfl, -⟩ := hr
    clear ha bd
    go_enter Try.func14, Try.ntmps14
    go_wp2_with fail
    refine HAD.out.mono ?_
    rintro e w3 ⟨rfl, b3⟩
    have HB3 := Lib.hid b3
    clear b3
    go_wp2_with fail
    go_ret
    exact ⟨_, rfl, OwnI.none _ _, HB3.out⟩
  | true =>
    rw [ha] at HAD
    obtain ⟨C, rfl, h1C, hC, hl20, hd⟩ := arD_n ha
    have h32 := two5 hC
    have HKW := Lib.hid (fun w' (hb : Below w.heap.size w w') => keysWithin_any v C (2 ^ C - 1) h1C hC (by omega) l ha _w0 bd w' (hr.kept hb) hl)
    rw [kwL_full hC ha hd] at HKW
    have HFC := Lib.hid (fun w' => full_any11 C hC w')
    obtain ⟨F, hF⟩ : ∃ F, F = 2 ^ C - 1 := ⟨_, rfl⟩
    rw [← hF] at HFC HKW
    obtain ⟨a, cap, rfl, -⟩ := hr
    clear ha bd hd hF h32
    go_enter Try.func14, Try.ntmps14
    go_wp2_with fail
    refine HAD.out.mono ?_
    rintro e w3 ⟨rfl, b3⟩
    have HB3 := Lib.hid b3
    clear b3
    go_wp2_with fail
    refine (HFC.out _).mono ?_
    rintro e w4 ⟨rfl, b4⟩
    have HB4 := Lib.hid (HB3.out.trans (b4.mono HB3.out.size))
    clear b4
    go_wp2_with fail
    refine (HKW.out _ HB4.out).mono ?_
    rintro e w6 ⟨v6, rfl, o6, b6⟩
    have HB6 := Lib.hid (HB4.out.trans (b6.mono HB4.out.size))
    have HO6 := Lib.hid (o6.base HB4.out.size)
    clear b6 o6
    go_wp2_with fail
    go_ret
    exact ⟨_, rfl, HO6.out, HB6.out⟩
theorem union_any (v : Value) (q : List Int) (w : World) (hr : ReadI w v q) (hl : q.length ≤ 1048576) :
    Calls Try.prog 45 #[v] w fun e w' => e = .returned (.int .i64 (orL q q.length)) ∧ Below w.heap.size w w' := by
  obtain ⟨a1, c1, rfl, hat⟩ := hr
  have HAT := Lib.hid hat
  have HB := Lib.hid (Below.refl w.heap.size w)
  clear hat
  go_enter Try.func45, Try.ntmps45
  go_wp2_with fail
  go_loopw [3, 8] (fun xv iv wr => ∃ i : Nat, i ≤ q.length ∧ iv = .int .i64 (i : Int) ∧ xv = .int .i64 (orL q i) ∧ wr = w) (fun _ iv _ => q.length - (intOf iv).toNat)
  case atStart => exact ⟨0, by omega, rfl, rfl, rfl⟩
  case round =>
    obtain ⟨i, hi, rfl, rfl, rfl⟩ := hrel
    by_cases hlt : i < q.length
    · have hz : ((i : Nat) : Int) < ((q.length : Nat) : Int) := by omega
      have z0 : (0 : Int) ≤ (i : Int) := by omega
      obtain ⟨x0, rfl, hc⟩ := HAT.out i hlt
      have hs : orL q (i + 1) = bits .or .i64 (orL q i) (q.getD i 0) := rfl
      rw [List.getD_eq_getElem?_getD, List.getElem?_eq_getElem hlt, Option.getD_some] at hs
      obtain ⟨y, hy⟩ : ∃ y, y = q[i] := ⟨_, rfl⟩
      obtain ⟨z, hzz⟩ : ∃ z, z = orL q i := ⟨_, rfl⟩
      rw [← hy] at hc hs
      rw [← hzz] at hs ⊢
      have HS := Lib.hid hs
      clear hy hzz hs
      go_wp2_with fail
      go_roundw
      case rel => exact ⟨i + 1, by omega, by go_num, by rw [HS.out], trivial⟩
      case measure => simp [intOf]; omega
    · obtain rfl : i = q.length := by omega
      go_wp2_with fail
      go_ret
      exact ⟨rfl, HB.out⟩
theorem implPrimeColumns_any (v : Value) (n : Int) (l : List (Int × Int)) (_w0 : (Lit.int .i64 n).wf = true) (bd : ∀ d ∈ l, (Lit.int .i64 d.1).wf = true ∧ (Lit.int .i64 d.2).wf = true) (w : World) (hr : ReadD w v l) (hl : l.length ≤ 1048576) :
    Calls Try.prog 21 #[.int .i64 n, v] w fun e w' => e = .returned (.int .i64 (prZ n l)) ∧ Below w.heap.size w w' := by
  have HK := Lib.hid (implKeysOf_any v n l _w0 bd w hr hl)
  have HE : Hid (prZ n l = orL (koL n l) (koL n l).length) := Lib.hid rfl
  have hql := koL_len n l
  obtain ⟨q, hq⟩ : ∃ q, q = koL n l := ⟨_, rfl⟩
  rw [← hq] at HK HE hql
  have HU := Lib.hid (fun v' w' (h : ReadI w' v' q) => union_any v' q w' h (by omega))
  obtain ⟨a, cap, rfl, -⟩ := hr
  clear hq bd
  go_enter Try.func21, Try.ntmps21
  go_wp2_with fail
  refine HK.out.mono ?_
  rintro e w1 ⟨v1, rfl, o1, b1⟩
  have HB := Lib.hid b1
  have HG := Lib.hid (HU.out v1 w1 o1.read)
  clear o1 b1
  go_wp2_with fail
  refine HG.out.mono ?_
  rintro e w2 ⟨rfl, b2⟩
  have HB2 := Lib.hid (HB.out.trans (b2.mono HB.out.size))
  clear b2
  go_wp2_with fail
  go_ret
  exact ⟨ret_int HE.out.symm, HB2.out⟩
end
end Go.Proofs.Ytcgkfbjdlhapkaa
