/- The model's l7Holds, l7Minimal, IsMinimalDep, by contract. Conditions: as stated. -/
import Derived.Test.YtlecfkfcjhliiaaGreatWc27
import Derived.Test.YtlecfkfcjhliiaaGreatWc23
import Derived.Deep.Quiet
import Derived.Deep.RegionLaw
import Derived.Deep.RegionHeld3
namespace Go.Proofs.YtlecfkfcjhliiaaGreat
open Go.RowKit

section
set_option maxRecDepth 20000
set_option maxHeartbeats 1600000
theorem l7Holds_any (c m : Int) (L R : Nat) (v : Value) (ll : List (List Int)) (w : World) (hr : ReadSS w v ll) (hT : isT c ll = true) (hR : R < 5) :
    Calls Tryz.prog 35 #[.agg #[.int .i64 c, v], .int .i64 m, .agg #[.int .i64 (L : Int), .int .i64 (R : Int)]] w fun e w' => e = .returned (.bool (h7 c.toNat ll m L R)) ∧ Below w.heap.size w w' := by
  have HP := Lib.hid (fun w' (hb : Below w.heap.size w w') => pair6_any c m L R v ll w' (hr.kept hb) hT hR)
  obtain ⟨a, cap, rfl, -⟩ := hr
  have hb1 := (Below.refl w.heap.size w).alloc (Nat.le_refl _) (.cells #[.int .i64 c, .slice a ll.length cap] 26)
  have hb2 := hb1.alloc hb1.size (.cells #[.int .i64 (L : Int), .int .i64 (R : Int)] 37)
  have HB2 := Lib.hid hb2
  obtain ⟨⟨c0, c1⟩, d0, d1⟩ := boxTD (Below.refl ((w.alloc (.cells #[.int .i64 c, .slice a ll.length cap] 26)).alloc (.cells #[.int .i64 (L : Int), .int .i64 (R : Int)] 37)).heap.size _)
  have HE : Hid (h7 c.toNat ll m L R = decide ((pairI (badB c.toNat ll m L R) ll.length).1 < 0)) := Lib.hid rfl
  obtain ⟨x, hx⟩ : ∃ x, x = (pairI (badB c.toNat ll m L R) ll.length).1 := ⟨_, rfl⟩
  obtain ⟨y, hy⟩ : ∃ y, y = (pairI (badB c.toNat ll m L R) ll.length).2 := ⟨_, rfl⟩
  rw [← hx, ← hy] at HP
  rw [← hx] at HE
  clear hb1 hb2 hx hy
  go_enter Tryz.func35, Tryz.ntmps35
  go_wp2_with fail
  refine (HP.out _ HB2.out).mono ?_
  rintro e w3 ⟨rfl, b3⟩
  have hb3 := HB2.out.trans (b3.mono HB2.out.size)
  go_wp2_with fail
  go_ret
  exact ⟨ret_b HE.out, hb3⟩
theorem rng_snoc {p : Nat → Bool} {k : Nat} (h : (List.range k).all p = true) (hp : p k = true) : (List.range (k + 1)).all p = true := by
  rw [List.range_succ, List.all_append, h]; simp [hp]
theorem rng_not {p : Nat → Bool} {k n : Nat} (hk : k < n) (hp : p k = false) : (List.range n).all p = false := by
  cases h : (List.range n).all p with
  | false => rfl
  | true => have := List.all_eq_true.1 h k (List.mem_range.2 hk); rw [hp] at this; cases this
theorem drop_b : ∀ (L : Fin 32) (i : Fin 5), bitB L.val i.val = true → bits .andNot .i64 ((L.val : Nat) : Int) ((2 ^ i.val : Nat) : Int) = ((L.val - 2 ^ i.val : Nat) : Int) := by decide +kernel
theorem wrap_pw5 : ∀ i : Fin 5, IntKind.i64.wrap (2 ^ i.val) = ((2 ^ i.val : Nat) : Int) := by decide +kernel
/-- What the box of a table and the box of a dependency hold. -/
def TDc (w : World) (b : Nat) (c : Int) (v : Value) (l r : Int) : Prop :=
  (w.cell? ⟨b, 0, none⟩ = some (.int .i64 c) ∧ w.cell? ⟨b, 1, none⟩ = some v) ∧ w.cell? ⟨b + 1, 0, none⟩ = some (.int .i64 l) ∧ w.cell? ⟨b + 1, 1, none⟩ = some (.int .i64 r)
theorem TDc.kept {w w' : World} {b : Nat} {c l r : Int} {v : Value} (h : TDc w b c v l r) (hb : Below w.heap.size w w') : TDc w' b c v l r :=
  ⟨⟨(hb.cell (World.block_lt_of_cell? _ _ h.1.1)).trans h.1.1, (hb.cell (World.block_lt_of_cell? _ _ h.1.2)).trans h.1.2⟩, (hb.cell (World.block_lt_of_cell? _ _ h.2.1)).trans h.2.1, (hb.cell (World.block_lt_of_cell? _ _ h.2.2)).trans h.2.2⟩
theorem TDc.mk' (w : World) (T T' : TypeId) (c : Int) (v : Value) (l r : Int) : TDc ((w.alloc (.cells #[.int .i64 c, v] T)).alloc (.cells #[.int .i64 l, .int .i64 r] T')) w.heap.size c v l r := boxTD (Below.refl _ _)
theorem keepTc {w4 w' w'' : World} {b : Nat} {c l r : Int} {v : Value} (h : TDc w' b c v l r ∧ Below w4.heap.size w4 w') (hb : Below w'.heap.size w' w'') : TDc w'' b c v l r ∧ Below w4.heap.size w4 w'' := ⟨h.1.kept hb, h.2.trans (hb.mono h.2.size)⟩
end
section
set_option maxRecDepth 20000
set_option maxHeartbeats 3200000
theorem l7Minimal_any (C : Nat) (m : Int) (L R : Nat) (v : Value) (ll : List (List Int)) (w : World) (hr : ReadSS w v ll) (hT : isT (C : Int) ll = true) (hL : L < 32) (hR : R < 5) :
    Calls Tryz.prog 38 #[.agg #[.int .i64 (C : Int), v], .int .i64 m, .agg #[.int .i64 (L : Int), .int .i64 (R : Int)]] w fun e w' => e = .returned (.bool (minN C ll m L R)) ∧ Below w.heap.size w w' := by
  obtain ⟨hc1, hc5, h40⟩ := isT_bd hT
  have HH := Lib.hid (fun (X : Nat) w' (hb : Below w.heap.size w w') => l7Holds_any (C : Int) m X R v ll w' (hr.kept hb) hT hR)
  rw [show ((C : Int)).toNat = C from rfl] at HH
  obtain ⟨a, cap, rfl, -⟩ := hr
  have hb1 := (Below.refl w.heap.size w).alloc (Nat.le_refl _) (.cells #[.int .i64 (C : Int), .slice a ll.length cap] 26)
  have hb2 := hb1.alloc hb1.size (.cells #[.int .i64 (L : Int), .int .i64 (R : Int)] 37)
  have HB2 := Lib.hid hb2
  have HTD := Lib.hid (TDc.mk' w 26 37 (C : Int) (.slice a ll.length cap) (L : Int) (R : Int))
  obtain ⟨⟨c0, c1⟩, d0, d1⟩ := HTD.out
  have hbit : (bits BinOp.and IntKind.i64 ((L : Int) / 2 ^ R) 1 == 1) = bitB L R := bit_test L R
  have hE : minN C ll m L R = (!bitB L R && h7 C ll m L R && (List.range C).all (fun i => !(bitB L i && h7 C ll m (L - 2 ^ i) R))) := rfl
  clear hb1 hb2
  cases hB : bitB L R with
  | true =>
    rw [hB] at hbit hE
    have HE : Hid (minN C ll m L R = false) := Lib.hid (by rw [hE]; rfl)
    clear hE hB
    go_enter Tryz.func38, Tryz.ntmps38
    go_wp2_with fail
    go_ret
    exact ⟨ret_b HE.out, HB2.out⟩
  | false =>
    rw [hB] at hbit hE
    have H0 := Lib.hid (HH.out L)
    cases h0 : h7 C ll m L R with
    | false =>
      rw [h0] at hE H0
      have HE : Hid (minN C ll m L R = false) := Lib.hid (by rw [hE]; rfl)
      clear hE hB h0
      go_enter Tryz.func38, Tryz.ntmps38
      go_wp2_with fail
      refine (H0.out _ HB2.out).mono ?_
      rintro e w3 ⟨rfl, b3⟩
      have hb3 := HB2.out.trans (b3.mono HB2.out.size)
      go_wp2_with fail
      go_ret
      exact ⟨ret_b HE.out, hb3⟩
    | true =>
      rw [h0] at hE H0
      rw [show (!false && true) = true from rfl, Bool.true_and] at hE
      have HE := Lib.hid hE
      clear hE hB h0
      go_enter Tryz.func38, Tryz.ntmps38
      go_wp2_with fail
      refine (H0.out _ HB2.out).mono ?_
      rintro e w3 ⟨rfl, b3⟩
      have hb3 := HB2.out.trans (b3.mono HB2.out.size)
      have HT3 := Lib.hid (HTD.out.kept b3)
      clear b3 c0 c1 d0 d1 hbit
      go_wp2_with fail
      go_loopw [7] (fun iv wr => ∃ i : Nat, i ≤ C ∧ iv = .int .i64 (i : Int) ∧ Hid ((List.range i).all (fun i => !(bitB L i && h7 C ll m (L - 2 ^ i) R)) = true) ∧ Hid (TDc wr w.heap.size (C : Int) (.slice a ll.length cap) (L : Int) (R : Int)) ∧ Below w.heap.size w wr) (fun iv _ => C - (intOf iv).toNat)
      case atStart => exact ⟨0, by omega, rfl, Lib.hid rfl, HT3, hb3⟩
      case round =>
        clear HT3 hb3
        obtain ⟨i, hi, rfl, HALL, HTD4, hb⟩ := hrel
        obtain ⟨w4, hw4⟩ : ∃ w', w' = wr := ⟨_, rfl⟩
        rw [← hw4] at HTD4 hb ⊢
        clear hw4
        have HB := Lib.hid hb
        obtain ⟨⟨c0, c1⟩, d0, d1⟩ := HTD4.out
        clear hb
        by_cases hlt : i < C
        · have z0 : (0 : Int) ≤ (i : Int) := by omega
          have z1 : (i : Int) < (C : Int) := by omega
          have hbit : (bits BinOp.and IntKind.i64 ((L : Int) / 2 ^ i) 1 == 1) = bitB L i := bit_test L i
          cases hB : bitB L i with
          | false =>
            rw [hB] at hbit
            have HN := Lib.hid (rng_snoc HALL.out (show (!(bitB L i && h7 C ll m (L - 2 ^ i) R)) = true by rw [hB]; rfl))
            clear hB
            go_wp2_with fail
            go_quiet (fail)
            go_wp2_with fail
            go_roundw
            case rel => exact ⟨i + 1, by omega, by go_num, HN, Lib.hid (HTD4.out.kept (below_drewN (Below.refl _ _) _)), below_drewN HB.out _⟩
            case measure => simp [intOf]; omega
          | true =>
            rw [hB] at hbit
            have hD := drop_b ⟨L, hL⟩ ⟨i, by omega⟩ hB
            simp only at hD
            have hW : IntKind.i64.wrap (2 ^ i) = ((2 ^ i : Nat) : Int) := wrap_pw5 ⟨i, by omega⟩
            rw [← hW] at hD
            have HQ : Hid (∀ w', Below w.heap.size w w' → Calls Tryz.prog 35 #[.agg #[.int .i64 (C : Int), .slice a ll.length cap], .int .i64 m, .agg #[.int .i64 (bits .andNot .i64 (L : Int) (IntKind.i64.wrap (2 ^ i))), .int .i64 (R : Int)]] w' fun e w'' => e = .returned (.bool (h7 C ll m (L - 2 ^ i) R)) ∧ Below w'.heap.size w' w'') := Lib.hid (fun w' hb => by rw [hD]; exact HH.out (L - 2 ^ i) w' hb)
            obtain ⟨x, hx⟩ : ∃ x, x = h7 C ll m (L - 2 ^ i) R := ⟨_, rfl⟩
            have HX : Hid ((!(bitB L i && h7 C ll m (L - 2 ^ i) R)) = !x) := Lib.hid (by rw [hB, ← hx]; rfl)
            rw [← hx] at HQ
            clear hB hx hD hW
            cases x with
            | true =>
              have HN := Lib.hid (HE.out.trans (rng_not hlt HX.out))
              clear HX
              go_wp2_with fail
              refine wp_region_noPanic ?_
              refine wp_region_held_drew (S := (fun w' => ((w'.cell? ⟨w.heap.size, 0, none⟩ = some (.int .i64 (C : Int)) ∧ w'.cell? ⟨w.heap.size, 1, none⟩ = some (.slice a ll.length cap)) ∧ w'.cell? ⟨w.heap.size + 1, 0, none⟩ = some (.int .i64 (L : Int)) ∧ w'.cell? ⟨w.heap.size + 1, 1, none⟩ = some (.int .i64 (R : Int))) ∧ Below w4.heap.size w4 w')) (by kernel_rfl) ?_ (fun hHeld => ?_)
              · ((try dsimp only); (first | exact keepTc hHeld b91 | exact ⟨⟨⟨c0, c1⟩, d0, d1⟩, (Below.refl _ _).drew⟩))
              refine wpAnyH_take (i := 0) (v := ?_) rfl (by kernel_rfl) (by kernel_rfl) (by kernel_rfl) (fun _ _ _ h => h) (Or.inl ⟨by rfl, ?_⟩) (by assumption) ?_
              rotate_left
              · (intro w hSw; (try dsimp only at hSw); go_simp; (try with_reducible rfl))
              (try simp only [Act.put, List.getElem_toArray, List.getElem_cons_zero, List.setIfInBounds_toArray, List.set_cons_zero, List.set_cons_succ])
              refine wpAnyH_take (i := 1) (v := ?_) rfl (by kernel_rfl) (by kernel_rfl) (by kernel_rfl) (fun _ _ _ h => h) (Or.inl ⟨by rfl, ?_⟩) (by assumption) ?_
              rotate_left
              · (intro w hSw; (try dsimp only at hSw); go_simp; (try with_reducible rfl))
              (try simp only [Act.put, List.getElem_toArray, List.getElem_cons_succ, List.getElem_cons_zero, List.setIfInBounds_toArray, List.set_cons_zero, List.set_cons_succ])
              refine wpAnyH_take (i := 2) (v := ?_) rfl (by kernel_rfl) (by kernel_rfl) (by kernel_rfl) (fun _ _ _ h => h) (Or.inl ⟨by rfl, ?_⟩) (by assumption) ?_
              rotate_left
              · (intro w hSw; (try dsimp only at hSw); go_simp; (try with_reducible rfl))
              (try simp only [Act.put, List.getElem_toArray, List.getElem_cons_succ, List.getElem_cons_zero, List.setIfInBounds_toArray, List.set_cons_zero, List.set_cons_succ])
              refine wpAnyH_take (i := 3) (v := ?_) rfl (by kernel_rfl) (by kernel_rfl) (by kernel_rfl) (fun _ _ _ h => h) (Or.inl ⟨by rfl, ?_⟩) (by assumption) ?_
              rotate_left
              · (intro w hSw; (try dsimp only at hSw); go_simp; (try with_reducible rfl))
              (try simp only [Act.put, List.getElem_toArray, List.getElem_cons_succ, List.getElem_cons_zero, List.setIfInBounds_toArray, List.set_cons_zero, List.set_cons_succ])
              refine wpAnyH_take (i := 4) (v := ?_) rfl (by kernel_rfl) (by kernel_rfl) (by kernel_rfl) (fun _ _ _ h => h) (Or.inl ⟨by rfl, ?_⟩) (by assumption) ?_
              rotate_left
              · (intro w hSw; (try dsimp only at hSw); go_simp; (try with_reducible rfl))
              (try simp only [Act.put, List.getElem_toArray, List.getElem_cons_succ, List.getElem_cons_zero, List.setIfInBounds_toArray, List.set_cons_zero, List.set_cons_succ])
              refine wpAnyH_take (i := 5) (v := ?_) rfl (by kernel_rfl) (by kernel_rfl) (by kernel_rfl) (fun _ _ _ h => h) (Or.inl ⟨by rfl, ?_⟩) (by assumption) ?_
              rotate_left
              · (intro w hSw; (try dsimp only at hSw); go_simp; (try with_reducible rfl))
              (try simp only [Act.put, List.getElem_toArray, List.getElem_cons_succ, List.getElem_cons_zero, List.setIfInBounds_toArray, List.set_cons_zero, List.set_cons_succ])
              refine wpAnyH_take (i := 6) (v := ?_) rfl (by kernel_rfl) (by kernel_rfl) (by kernel_rfl) (fun _ _ _ h => h) (Or.inl ⟨by rfl, ?_⟩) (by assumption) ?_
              rotate_left
              · (intro w hSw; (try dsimp only at hSw); go_simp; (try with_reducible rfl))
              (try simp only [Act.put, List.getElem_toArray, List.getElem_cons_succ, List.getElem_cons_zero, List.setIfInBounds_toArray, List.set_cons_zero, List.set_cons_succ])
              refine wpAnyH_take (i := 7) (v := ?_) rfl (by kernel_rfl) (by kernel_rfl) (by kernel_rfl) (fun _ _ _ h => h) (Or.inl ⟨by rfl, ?_⟩) (by assumption) ?_
              rotate_left
              · (intro w hSw; (try dsimp only at hSw); go_simp; (try with_reducible rfl))
              (try simp only [Act.put, List.getElem_toArray, List.getElem_cons_succ, List.getElem_cons_zero, List.setIfInBounds_toArray, List.set_cons_zero, List.set_cons_succ])
              refine wpAnyH_take (i := 8) (v := ?_) rfl (by kernel_rfl) (by kernel_rfl) (by kernel_rfl) (fun _ _ _ h => h) (Or.inl ⟨by rfl, ?_⟩) (by assumption) ?_
              rotate_left
              · (intro w hSw; (try dsimp only at hSw); go_simp; (try with_reducible rfl))
              (try simp only [Act.put, List.getElem_toArray, List.getElem_cons_succ, List.getElem_cons_zero, List.setIfInBounds_toArray, List.set_cons_zero, List.set_cons_succ])
              refine wpAnyH_take (i := 9) (v := ?_) rfl (by kernel_rfl) (by kernel_rfl) (by kernel_rfl) (fun _ _ _ h => h) (Or.inl ⟨by rfl, ?_⟩) (by assumption) ?_
              rotate_left
              · (intro w hSw; (try dsimp only at hSw); go_simp; (try with_reducible rfl))
              (try simp only [Act.put, List.getElem_toArray, List.getElem_cons_succ, List.getElem_cons_zero, List.setIfInBounds_toArray, List.set_cons_zero, List.set_cons_succ])
              refine wpAnyH_take (i := 10) (v := ?_) rfl (by kernel_rfl) (by kernel_rfl) (by kernel_rfl) (fun _ _ _ h => h) (Or.inl ⟨by rfl, ?_⟩) (by assumption) ?_
              rotate_left
              · (intro w hSw; (try dsimp only at hSw); go_simp; (try with_reducible rfl))
              (try simp only [Act.put, List.getElem_toArray, List.getElem_cons_succ, List.getElem_cons_zero, List.setIfInBounds_toArray, List.set_cons_zero, List.set_cons_succ])
              refine wpAnyH_take (i := 11) (v := ?_) rfl (by kernel_rfl) (by kernel_rfl) (by kernel_rfl) (fun _ _ _ h => h) (Or.inl ⟨by rfl, ?_⟩) (by assumption) ?_
              rotate_left
              · (intro w hSw; (try dsimp only at hSw); go_simp; (try with_reducible rfl))
              (try simp only [Act.put, List.getElem_toArray, List.getElem_cons_succ, List.getElem_cons_zero, List.setIfInBounds_toArray, List.set_cons_zero, List.set_cons_succ])
              refine wpAnyH_take (i := 12) (v := ?_) rfl (by kernel_rfl) (by kernel_rfl) (by kernel_rfl) (fun _ _ _ h => h) (Or.inl ⟨by rfl, ?_⟩) (by assumption) ?_
              rotate_left
              · (intro w hSw; (try dsimp only at hSw); go_simp; (try with_reducible rfl))
              (try simp only [Act.put, List.getElem_toArray, List.getElem_cons_succ, List.getElem_cons_zero, List.setIfInBounds_toArray, List.set_cons_zero, List.set_cons_succ])
              refine wpAnyH_take (i := 13) (v := ?_) rfl (by kernel_rfl) (by kernel_rfl) (by kernel_rfl) (fun _ _ _ h => h) (Or.inl ⟨by rfl, ?_⟩) (by assumption) ?_
              rotate_left
              · (intro w hSw; (try dsimp only at hSw); go_simp; (try with_reducible rfl))
              (try simp only [Act.put, List.getElem_toArray, List.getElem_cons_succ, List.getElem_cons_zero, List.setIfInBounds_toArray, List.set_cons_zero, List.set_cons_succ])
              refine wpAnyH_take (i := 14) (v := ?_) rfl (by kernel_rfl) (by kernel_rfl) (by kernel_rfl) (fun _ _ _ h => h) (Or.inl ⟨by rfl, ?_⟩) (by assumption) ?_
              rotate_left
              · (intro w hSw; (try dsimp only at hSw); go_simp; (try with_reducible rfl))
              (try simp only [Act.put, List.getElem_toArray, List.getElem_cons_succ, List.getElem_cons_zero, List.setIfInBounds_toArray, List.set_cons_zero, List.set_cons_succ])
              refine wpAnyH_take (i := 15) (v := ?_) rfl (by kernel_rfl) (by kernel_rfl) (by kernel_rfl) (fun _ _ _ h => h) (Or.inl ⟨by rfl, ?_⟩) (by assumption) ?_
              rotate_left
              · (intro w hSw; (try dsimp only at hSw); go_simp; (try with_reducible rfl))
              (try simp only [Act.put, List.getElem_toArray, List.getElem_cons_succ, List.getElem_cons_zero, List.setIfInBounds_toArray, List.set_cons_zero, List.set_cons_succ])
              refine wpAnyH_take (i := 16) (v := ?_) rfl (by kernel_rfl) (by kernel_rfl) (by kernel_rfl) (fun _ _ _ h => h) (Or.inl ⟨by rfl, ?_⟩) (by assumption) ?_
              rotate_left
              · (intro w hSw; (try dsimp only at hSw); go_simp; (try with_reducible rfl))
              (try simp only [Act.put, List.getElem_toArray, List.getElem_cons_succ, List.getElem_cons_zero, List.setIfInBounds_toArray, List.set_cons_zero, List.set_cons_succ])
              refine wpAnyH_ready (rs := [17]) (by kernel_rfl) (by simp) (AllReadyH.cons rfl (fun K hK => ?_) AllReadyH.nil)
              (first | ((go_at_call 35; refine (HQ.out _ (HB.out.trans (hHeld.2.mono HB.out.size))).mono ?_; rintro e w91 ⟨rfl, b91⟩)) | (go_simp; (go_at_call 35; refine (HQ.out _ (HB.out.trans (hHeld.2.mono HB.out.size))).mono ?_; rintro e w91 ⟨rfl, b91⟩)))
              (try (go_wp2_with fail))
              refine hK.out _ _ ?_ (fun hHeld => ?_)
              · ((try dsimp only); (first | exact keepTc hHeld b91 | exact ⟨⟨⟨c0, c1⟩, d0, d1⟩, (Below.refl _ _).drew⟩))
              clear hK K
              (try simp only [Act.put, List.getElem_toArray, List.getElem_cons_succ, List.getElem_cons_zero, List.setIfInBounds_toArray, List.set_cons_zero, List.set_cons_succ])
              refine wpAnyH_take (i := 18) (v := ?_) rfl (by kernel_rfl) (by kernel_rfl) (by kernel_rfl) (fun _ _ _ h => h) (Or.inl ⟨by rfl, ?_⟩) (by assumption) ?_
              rotate_left
              · (intro w hSw; (try dsimp only at hSw); go_simp; (try with_reducible rfl))
              (try simp only [Act.put, List.getElem_toArray, List.getElem_cons_succ, List.getElem_cons_zero, List.setIfInBounds_toArray, List.set_cons_zero, List.set_cons_succ])
              refine wpAnyH_done (by kernel_rfl) ?_ _
              refine NoPanic.normal ?_
              obtain ⟨w5, hw5⟩ : ∃ w', w' = w91 := ⟨_, rfl⟩
              rw [← hw5] at hHeld ⊢
              have b5 := hHeld.2
              clear hHeld b91 hw5
              have hb5 := HB.out.trans (b5.mono HB.out.size)
              clear b5 c0 c1 d0 d1
              go_wp2_with fail
              go_ret
              exact ⟨ret_b HN.out, hb5⟩
            | false =>
              have HN := Lib.hid (rng_snoc HALL.out HX.out)
              clear HX
              go_wp2_with fail
              refine wp_region_noPanic ?_
              refine wp_region_held_drew (S := (fun w' => ((w'.cell? ⟨w.heap.size, 0, none⟩ = some (.int .i64 (C : Int)) ∧ w'.cell? ⟨w.heap.size, 1, none⟩ = some (.slice a ll.length cap)) ∧ w'.cell? ⟨w.heap.size + 1, 0, none⟩ = some (.int .i64 (L : Int)) ∧ w'.cell? ⟨w.heap.size + 1, 1, none⟩ = some (.int .i64 (R : Int))) ∧ Below w4.heap.size w4 w')) (by kernel_rfl) ?_ (fun hHeld => ?_)
              · ((try dsimp only); (first | exact keepTc hHeld b91 | exact ⟨⟨⟨c0, c1⟩, d0, d1⟩, (Below.refl _ _).drew⟩))
              refine wpAnyH_take (i := 0) (v := ?_) rfl (by kernel_rfl) (by kernel_rfl) (by kernel_rfl) (fun _ _ _ h => h) (Or.inl ⟨by rfl, ?_⟩) (by assumption) ?_
              rotate_left
              · (intro w hSw; (try dsimp only at hSw); go_simp; (try with_reducible rfl))
              (try simp only [Act.put, List.getElem_toArray, List.getElem_cons_zero, List.setIfInBounds_toArray, List.set_cons_zero, List.set_cons_succ])
              refine wpAnyH_take (i := 1) (v := ?_) rfl (by kernel_rfl) (by kernel_rfl) (by kernel_rfl) (fun _ _ _ h => h) (Or.inl ⟨by rfl, ?_⟩) (by assumption) ?_
              rotate_left
              · (intro w hSw; (try dsimp only at hSw); go_simp; (try with_reducible rfl))
              (try simp only [Act.put, List.getElem_toArray, List.getElem_cons_succ, List.getElem_cons_zero, List.setIfInBounds_toArray, List.set_cons_zero, List.set_cons_succ])
              refine wpAnyH_take (i := 2) (v := ?_) rfl (by kernel_rfl) (by kernel_rfl) (by kernel_rfl) (fun _ _ _ h => h) (Or.inl ⟨by rfl, ?_⟩) (by assumption) ?_
              rotate_left
              · (intro w hSw; (try dsimp only at hSw); go_simp; (try with_reducible rfl))
              (try simp only [Act.put, List.getElem_toArray, List.getElem_cons_succ, List.getElem_cons_zero, List.setIfInBounds_toArray, List.set_cons_zero, List.set_cons_succ])
              refine wpAnyH_take (i := 3) (v := ?_) rfl (by kernel_rfl) (by kernel_rfl) (by kernel_rfl) (fun _ _ _ h => h) (Or.inl ⟨by rfl, ?_⟩) (by assumption) ?_
              rotate_left
              · (intro w hSw; (try dsimp only at hSw); go_simp; (try with_reducible rfl))
              (try simp only [Act.put, List.getElem_toArray, List.getElem_cons_succ, List.getElem_cons_zero, List.setIfInBounds_toArray, List.set_cons_zero, List.set_cons_succ])
              refine wpAnyH_take (i := 4) (v := ?_) rfl (by kernel_rfl) (by kernel_rfl) (by kernel_rfl) (fun _ _ _ h => h) (Or.inl ⟨by rfl, ?_⟩) (by assumption) ?_
              rotate_left
              · (intro w hSw; (try dsimp only at hSw); go_simp; (try with_reducible rfl))
              (try simp only [Act.put, List.getElem_toArray, List.getElem_cons_succ, List.getElem_cons_zero, List.setIfInBounds_toArray, List.set_cons_zero, List.set_cons_succ])
              refine wpAnyH_take (i := 5) (v := ?_) rfl (by kernel_rfl) (by kernel_rfl) (by kernel_rfl) (fun _ _ _ h => h) (Or.inl ⟨by rfl, ?_⟩) (by assumption) ?_
              rotate_left
              · (intro w hSw; (try dsimp only at hSw); go_simp; (try with_reducible rfl))
              (try simp only [Act.put, List.getElem_toArray, List.getElem_cons_succ, List.getElem_cons_zero, List.setIfInBounds_toArray, List.set_cons_zero, List.set_cons_succ])
              refine wpAnyH_take (i := 6) (v := ?_) rfl (by kernel_rfl) (by kernel_rfl) (by kernel_rfl) (fun _ _ _ h => h) (Or.inl ⟨by rfl, ?_⟩) (by assumption) ?_
              rotate_left
              · (intro w hSw; (try dsimp only at hSw); go_simp; (try with_reducible rfl))
              (try simp only [Act.put, List.getElem_toArray, List.getElem_cons_succ, List.getElem_cons_zero, List.setIfInBounds_toArray, List.set_cons_zero, List.set_cons_succ])
              refine wpAnyH_take (i := 7) (v := ?_) rfl (by kernel_rfl) (by kernel_rfl) (by kernel_rfl) (fun _ _ _ h => h) (Or.inl ⟨by rfl, ?_⟩) (by assumption) ?_
              rotate_left
              · (intro w hSw; (try dsimp only at hSw); go_simp; (try with_reducible rfl))
              (try simp only [Act.put, List.getElem_toArray, List.getElem_cons_succ, List.getElem_cons_zero, List.setIfInBounds_toArray, List.set_cons_zero, List.set_cons_succ])
              refine wpAnyH_take (i := 8) (v := ?_) rfl (by kernel_rfl) (by kernel_rfl) (by kernel_rfl) (fun _ _ _ h => h) (Or.inl ⟨by rfl, ?_⟩) (by assumption) ?_
              rotate_left
              · (intro w hSw; (try dsimp only at hSw); go_simp; (try with_reducible rfl))
              (try simp only [Act.put, List.getElem_toArray, List.getElem_cons_succ, List.getElem_cons_zero, List.setIfInBounds_toArray, List.set_cons_zero, List.set_cons_succ])
              refine wpAnyH_take (i := 9) (v := ?_) rfl (by kernel_rfl) (by kernel_rfl) (by kernel_rfl) (fun _ _ _ h => h) (Or.inl ⟨by rfl, ?_⟩) (by assumption) ?_
              rotate_left
              · (intro w hSw; (try dsimp only at hSw); go_simp; (try with_reducible rfl))
              (try simp only [Act.put, List.getElem_toArray, List.getElem_cons_succ, List.getElem_cons_zero, List.setIfInBounds_toArray, List.set_cons_zero, List.set_cons_succ])
              refine wpAnyH_take (i := 10) (v := ?_) rfl (by kernel_rfl) (by kernel_rfl) (by kernel_rfl) (fun _ _ _ h => h) (Or.inl ⟨by rfl, ?_⟩) (by assumption) ?_
              rotate_left
              · (intro w hSw; (try dsimp only at hSw); go_simp; (try with_reducible rfl))
              (try simp only [Act.put, List.getElem_toArray, List.getElem_cons_succ, List.getElem_cons_zero, List.setIfInBounds_toArray, List.set_cons_zero, List.set_cons_succ])
              refine wpAnyH_take (i := 11) (v := ?_) rfl (by kernel_rfl) (by kernel_rfl) (by kernel_rfl) (fun _ _ _ h => h) (Or.inl ⟨by rfl, ?_⟩) (by assumption) ?_
              rotate_left
              · (intro w hSw; (try dsimp only at hSw); go_simp; (try with_reducible rfl))
              (try simp only [Act.put, List.getElem_toArray, List.getElem_cons_succ, List.getElem_cons_zero, List.setIfInBounds_toArray, List.set_cons_zero, List.set_cons_succ])
              refine wpAnyH_take (i := 12) (v := ?_) rfl (by kernel_rfl) (by kernel_rfl) (by kernel_rfl) (fun _ _ _ h => h) (Or.inl ⟨by rfl, ?_⟩) (by assumption) ?_
              rotate_left
              · (intro w hSw; (try dsimp only at hSw); go_simp; (try with_reducible rfl))
              (try simp only [Act.put, List.getElem_toArray, List.getElem_cons_succ, List.getElem_cons_zero, List.setIfInBounds_toArray, List.set_cons_zero, List.set_cons_succ])
              refine wpAnyH_take (i := 13) (v := ?_) rfl (by kernel_rfl) (by kernel_rfl) (by kernel_rfl) (fun _ _ _ h => h) (Or.inl ⟨by rfl, ?_⟩) (by assumption) ?_
              rotate_left
              · (intro w hSw; (try dsimp only at hSw); go_simp; (try with_reducible rfl))
              (try simp only [Act.put, List.getElem_toArray, List.getElem_cons_succ, List.getElem_cons_zero, List.setIfInBounds_toArray, List.set_cons_zero, List.set_cons_succ])
              refine wpAnyH_take (i := 14) (v := ?_) rfl (by kernel_rfl) (by kernel_rfl) (by kernel_rfl) (fun _ _ _ h => h) (Or.inl ⟨by rfl, ?_⟩) (by assumption) ?_
              rotate_left
              · (intro w hSw; (try dsimp only at hSw); go_simp; (try with_reducible rfl))
              (try simp only [Act.put, List.getElem_toArray, List.getElem_cons_succ, List.getElem_cons_zero, List.setIfInBounds_toArray, List.set_cons_zero, List.set_cons_succ])
              refine wpAnyH_take (i := 15) (v := ?_) rfl (by kernel_rfl) (by kernel_rfl) (by kernel_rfl) (fun _ _ _ h => h) (Or.inl ⟨by rfl, ?_⟩) (by assumption) ?_
              rotate_left
              · (intro w hSw; (try dsimp only at hSw); go_simp; (try with_reducible rfl))
              (try simp only [Act.put, List.getElem_toArray, List.getElem_cons_succ, List.getElem_cons_zero, List.setIfInBounds_toArray, List.set_cons_zero, List.set_cons_succ])
              refine wpAnyH_take (i := 16) (v := ?_) rfl (by kernel_rfl) (by kernel_rfl) (by kernel_rfl) (fun _ _ _ h => h) (Or.inl ⟨by rfl, ?_⟩) (by assumption) ?_
              rotate_left
              · (intro w hSw; (try dsimp only at hSw); go_simp; (try with_reducible rfl))
              (try simp only [Act.put, List.getElem_toArray, List.getElem_cons_succ, List.getElem_cons_zero, List.setIfInBounds_toArray, List.set_cons_zero, List.set_cons_succ])
              refine wpAnyH_ready (rs := [17]) (by kernel_rfl) (by simp) (AllReadyH.cons rfl (fun K hK => ?_) AllReadyH.nil)
              (first | ((go_at_call 35; refine (HQ.out _ (HB.out.trans (hHeld.2.mono HB.out.size))).mono ?_; rintro e w91 ⟨rfl, b91⟩)) | (go_simp; (go_at_call 35; refine (HQ.out _ (HB.out.trans (hHeld.2.mono HB.out.size))).mono ?_; rintro e w91 ⟨rfl, b91⟩)))
              (try (go_wp2_with fail))
              refine hK.out _ _ ?_ (fun hHeld => ?_)
              · ((try dsimp only); (first | exact keepTc hHeld b91 | exact ⟨⟨⟨c0, c1⟩, d0, d1⟩, (Below.refl _ _).drew⟩))
              clear hK K
              (try simp only [Act.put, List.getElem_toArray, List.getElem_cons_succ, List.getElem_cons_zero, List.setIfInBounds_toArray, List.set_cons_zero, List.set_cons_succ])
              refine wpAnyH_take (i := 18) (v := ?_) rfl (by kernel_rfl) (by kernel_rfl) (by kernel_rfl) (fun _ _ _ h => h) (Or.inl ⟨by rfl, ?_⟩) (by assumption) ?_
              rotate_left
              · (intro w hSw; (try dsimp only at hSw); go_simp; (try with_reducible rfl))
              (try simp only [Act.put, List.getElem_toArray, List.getElem_cons_succ, List.getElem_cons_zero, List.setIfInBounds_toArray, List.set_cons_zero, List.set_cons_succ])
              refine wpAnyH_done (by kernel_rfl) ?_ _
              refine NoPanic.normal ?_
              obtain ⟨w5, hw5⟩ : ∃ w', w' = w91 := ⟨_, rfl⟩
              rw [← hw5] at hHeld ⊢
              have b5 := hHeld.2
              clear hHeld b91 hw5
              have hb5 := HB.out.trans (b5.mono HB.out.size)
              have HT5 := Lib.hid (HTD4.out.kept b5)
              clear b5 c0 c1 d0 d1
              go_wp2_with fail
              go_roundw
              case rel => exact ⟨i + 1, by omega, by go_num, HN, HT5, hb5⟩
              case measure => simp [intOf]; omega
        · obtain rfl : i = C := by omega
          have HX := Lib.hid (HE.out.trans HALL.out)
          go_wp2_with fail
          go_ret
          exact ⟨ret_b HX.out, HB.out⟩
end
end Go.Proofs.YtlecfkfcjhliiaaGreat
