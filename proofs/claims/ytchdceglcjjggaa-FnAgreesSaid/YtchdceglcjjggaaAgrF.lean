/- The model's chapter 4: DifferenceSets, by contract. Conditions: as stated. -/
import Derived.Test.YtchdceglcjjggaaAgrD
import Derived.Deep.RegionHeld3
namespace Go.Proofs.Ytchdceglcjjggaa
open Go.RowKit

def difB (q : Nat) (x : Int) : Bool := bits .and .i64 (x / 2 ^ q) 1 == 0
def difV (c q : Nat) (x : Int) : Int := bits .andNot .i64 (bits .andNot .i64 (2 ^ c - 1) x) (2 ^ q)
def difTo (c q : Nat) (l : List Int) : Nat → List Int
  | 0 => []
  | i + 1 => if difB q (l.getD i 0) = true then put4 (difTo c q l i) (difV c q (l.getD i 0)) else difTo c q l i
def difS (c : Int) (ll : List (List Int)) (m q : Int) : List Int := if 0 ≤ q ∧ q ≤ c - 1 then difTo c.toNat q.toNat (agrS c ll m) (agrS c ll m).length else []
theorem difTo_len (c q : Nat) (l : List Int) (i : Nat) : (difTo c q l i).length ≤ i := by
  induction i with
  | zero => simp [difTo]
  | succ i ih => have := put4_len (difTo c q l i) (difV c q (l.getD i 0)); unfold difTo; split <;> omega
theorem keep2 {w0 w w' : World} {p q : Addr} {a b : Value} (h : w.cell? p = some a ∧ w.cell? q = some b ∧ Below w0.heap.size w0 w) (k : Below w.heap.size w w') : w'.cell? p = some a ∧ w'.cell? q = some b ∧ Below w0.heap.size w0 w' :=
  ⟨(k.cell (World.block_lt_of_cell? w _ h.1)).trans h.1, (k.cell (World.block_lt_of_cell? w _ h.2.1)).trans h.2.1, h.2.2.trans (k.mono h.2.2.size)⟩
theorem agrS_fine {c m : Int} {ll : List (List Int)} (h : 0 < (agrS c ll m).length) : 1 ≤ c ∧ c ≤ 5 := by
  unfold agrS at h
  split at h
  · rename_i hf
    have hT : isT c ll = true := by unfold fineT at hf; simp at hf; exact hf.1
    exact ⟨(isT_bd hT).1, (isT_bd hT).2.1⟩
  · simp at h
theorem wrap_pow (j : Nat) (hj : j ≤ 4) : wrap64 (2 ^ j) = 2 ^ j := by
  refine IntWalk.wrap64_in _ ?_
  rcases (show j = 0 ∨ j = 1 ∨ j = 2 ∨ j = 3 ∨ j = 4 by omega) with rfl | rfl | rfl | rfl | rfl <;> decide
set_option maxHeartbeats 3200000 in
theorem differenceSets_any (c m q : Int) (v : Value) (ll : List (List Int)) (w : World) (hr : ReadSS w v ll) (hl : ll.length ≤ 1048576) (ht : ∀ i, i < ll.length → (ll.getD i []).length ≤ 1048576) :
    Calls Try.prog 17 #[.agg #[.int .i64 c, v], .int .i64 m, .int .i64 q] w (RetI (difS c ll m q) w) := by
  have hb1 := (Below.refl w.heap.size w).alloc (Nat.le_refl _) (.cells #[.int .i64 c, v] 26)
  have HAS := Lib.hid (fun w' (hb : Below w.heap.size w w') => agreeSets_any c m v ll w' (hr.kept hb) hl ht)
  obtain ⟨a, cap, rfl, -⟩ := hr
  clear ht
  have hle := agrS_len c ll m
  have HFI := Lib.hid (agrS_fine (c := c) (ll := ll) (m := m))
  have HD : Hid (difS c ll m q = if 0 ≤ q ∧ q ≤ c - 1 then difTo c.toNat q.toNat (agrS c ll m) (agrS c ll m).length else []) := Lib.hid rfl
  obtain ⟨A, hA⟩ : ∃ A, A = agrS c ll m := ⟨_, rfl⟩
  rw [← hA] at HAS hle HFI HD
  clear hA
  go_enter Try.func17, Try.ntmps17
  have hb2 := hb1.alloc hb1.size (.cells #[] 3)
  have hbb : Below (w.alloc (.cells #[.int .i64 c, .slice a ll.length cap] 26)).heap.size (w.alloc (.cells #[.int .i64 c, .slice a ll.length cap] 26)) ((w.alloc (.cells #[.int .i64 c, .slice a ll.length cap] 26)).alloc (.cells #[] 3)) := (Below.refl _ _).alloc (Nat.le_refl _) _
  have hmk : OwnI ((w.alloc (.cells #[.int .i64 c, .slice a ll.length cap] 26)).alloc (.cells #[] 3)) w.heap.size (.slice (some ⟨w.heap.size + 1, 0, none⟩) 0 0) [] := by
    have h := OwnI.made (World.ownsRow_made (base := w.heap.size) (e := 3) (size := 1) (w.alloc (.cells #[.int .i64 c, .slice a ll.length cap] 26)) #[] 0 (by simp) (by unfold maxLen; omega) rfl)
    rwa [World.size_alloc] at h
  obtain ⟨c0, c1⟩ := box2 hbb
  go_wp2_with fail
  refine (HAS.out _ hb2).mono ?_
  rintro e w2 ⟨va, rfl, oa, b2⟩
  have ho2 := hmk.kept b2 (fun k hk => (OwnI.lt hmk k hk).2)
  have hbb2 := hbb.trans (b2.mono hbb.size)
  have hbw2 := hb2.trans (b2.mono hb2.size)
  obtain ⟨d0, d1⟩ := box2 hbb2
  obtain ⟨aa, acap, rfl, haa⟩ := oa.read
  have HAA := Lib.hid haa
  have HB0 := Lib.hid d0
  clear hmk hb2 hbb b2 oa c0 c1 haa d1 hb1 hbb2
  by_cases hA0 : A.length = 0
  · obtain rfl := List.eq_nil_of_length_eq_zero hA0
    clear hA0
    have HE : Hid (difS c ll m q = []) := Lib.hid (by rw [HD.out]; split <;> rfl)
    go_wp2_with fail
    refine wp_loop_rounds 1 ?_
    rw [rounds_succ]
    go_wp2_with fail
    go_ret
    exact ⟨_, rfl, by rw [HE.out]; exact ho2, hbw2⟩
  · obtain ⟨hc1, hc5⟩ := HFI.out (by omega)
    obtain ⟨C, rfl⟩ : ∃ C : Nat, c = (C : Int) := ⟨c.toNat, by omega⟩
    have hwc : IntKind.i64.wrap ((C : Int) - 1) = (C : Int) - 1 := by rw [IntKind.wrap_i64]; omega
    have hA1 : 0 < A.length := by omega
    have HIN := Lib.hid (fun w' => in_any q 0 ((C : Int) - 1) w')
    by_cases hq : 0 ≤ q ∧ q ≤ (C : Int) - 1
    · rw [decide_eq_true hq] at HIN
      have HE : Hid (difS (C : Int) ll m q = difTo C q.toNat A A.length) := Lib.hid (by rw [HD.out, if_pos hq]; rfl)
      obtain ⟨Q, rfl⟩ : ∃ Q : Nat, q = (Q : Int) := ⟨q.toNat, by omega⟩
      rw [show ((Q : Int)).toNat = Q by omega] at HE
      have hQ4 : Q ≤ 4 := by omega
      clear hq hA0 HD
      go_wp2_with fail
      go_loopw [7, 9] (fun ov iv wr => ∃ i : Nat, i ≤ A.length ∧ iv = .int .i64 (i : Int) ∧ OwnI wr w.heap.size ov (difTo C Q A i) ∧ Below w2.heap.size w2 wr) (fun _ iv _ => A.length - (intOf iv).toNat)
      case atStart => exact ⟨0, by omega, rfl, ho2, Below.refl _ _⟩
      case round =>
        obtain ⟨i, hi, rfl, ho, hb⟩ := hrel
        have hbw := hbw2.trans (hb.mono hbw2.size)
        have e0 := (hb.cell (World.block_lt_of_cell? w2 _ HB0.out)).trans HB0.out
        by_cases hlt : i < A.length
        · have hd : decide ((i : Int) < (A.length : Int)) = true := decide_eq_true (by omega)
          have HS : Hid (difTo C Q A (i + 1) = if difB Q (A.getD i 0) = true then put4 (difTo C Q A i) (difV C Q (A.getD i 0)) else difTo C Q A i) := Lib.hid rfl
          obtain ⟨xa, rfl, hxi⟩ := HAA.out i hlt
          rw [get_getD A i hlt] at hxi
          obtain ⟨x, hx⟩ : ∃ x, x = A.getD i 0 := ⟨_, rfl⟩
          have hol := difTo_len C Q A i
          obtain ⟨lc, hlc⟩ : ∃ lc, lc = difTo C Q A i := ⟨_, rfl⟩
          rw [← hlc] at HS ho hol
          rw [← hx] at HS hxi
          have hxw := (hb.cell (World.block_lt_of_cell? w2 _ hxi)).trans hxi
          have i0 : (0 : Int) ≤ (i : Int) := by omega
          have i1 : (i : Int) < (A.length : Int) := by omega
          clear hx hxi hlc
          cases hdb : difB Q x with
          | false =>
            rw [if_neg (by rw [hdb]; simp)] at HS
            have hdb2 : (bits .and .i64 (x / 2 ^ Q) 1 == 0) = false := hdb
            clear hdb
            go_wp2_with fail
            refine (HIN.out _).mono ?_
            rintro e w' ⟨rfl, rfl⟩
            go_wp2_with fail
            go_roundw
            case rel => exact ⟨i + 1, by omega, by go_num, by rw [HS.out]; exact ho, hb⟩
            case measure => simp [intOf]; omega
          | true =>
            rw [if_pos hdb] at HS
            have hdb2 : (bits .and .i64 (x / 2 ^ Q) 1 == 0) = true := hdb
            have HALL := Lib.hid (fun w' => all_any (C : Int) w' (by omega) (by omega))
            have HS0 := Lib.hid (show (fun w' => w'.cell? ⟨w.heap.size, 0, none⟩ = some (.int .i64 (C : Int)) ∧ w'.cell? (xa.add i) = some (.int .i64 x) ∧ Below wr.heap.size wr w') wr.drew from ⟨e0, hxw, (Below.refl _ _).drew⟩)
            clear hdb
            go_wp2_with fail
            refine (HIN.out _).mono ?_
            rintro e w' ⟨rfl, rfl⟩
            go_wp2_with fail
            refine wp_region_noPanic ?_
            refine wp_region_held_drew (S := (fun w' => w'.cell? ⟨w.heap.size, 0, none⟩ = some (.int .i64 (C : Int)) ∧ w'.cell? (xa.add i) = some (.int .i64 x) ∧ Below wr.heap.size wr w')) (by kernel_rfl) ?_ (fun hHeld => ?_)
            · ((try dsimp only); (first | exact hS | exact hHeld | exact HS0.out))
            refine wpAnyH_take (i := 0) (v := ?_) rfl (by kernel_rfl) (by kernel_rfl) (by kernel_rfl) (fun _ _ _ h => h) (Or.inl ⟨by rfl, ?_⟩) (by assumption) ?_
            rotate_left
            · (intro w hSw; (try dsimp only at hSw); go_simp; (try with_reducible rfl))
            (try simp only [Act.put, List.getElem_toArray, List.getElem_cons_zero, List.setIfInBounds_toArray, List.set_cons_zero, List.set_cons_succ])
            refine wpAnyH_take (i := 1) (v := ?_) rfl (by kernel_rfl) (by kernel_rfl) (by kernel_rfl) (fun _ _ _ h => h) (Or.inl ⟨by rfl, ?_⟩) (by assumption) ?_
            rotate_left
            · (intro w hSw; (try dsimp only at hSw); go_simp; (try with_reducible rfl))
            (try simp only [Act.put, List.getElem_toArray, List.getElem_cons_succ, List.getElem_cons_zero, List.setIfInBounds_toArray, List.set_cons_zero, List.set_cons_succ])
            refine wpAnyH_take (i := 2) (v := ?_) rfl (by kernel_rfl) (by kernel_rfl) (by kernel_rfl) (fun _ _ _ h => h) (Or.inl ⟨by rfl, ?_⟩) (by assumption) ?_
            rotate_left
            · (intro w hSw; (try dsimp only at hSw); go_simp; (try with_reducible rfl))
            (try simp only [Act.put, List.getElem_toArray, List.getElem_cons_succ, List.getElem_cons_zero, List.setIfInBounds_toArray, List.set_cons_zero, List.set_cons_succ])
            refine wpAnyH_take (i := 4) (v := ?_) rfl (by kernel_rfl) (by kernel_rfl) (by kernel_rfl) (fun _ _ _ h => h) (Or.inl ⟨by rfl, ?_⟩) (by assumption) ?_
            rotate_left
            · (intro w hSw; (try dsimp only at hSw); go_simp; (try with_reducible rfl))
            (try simp only [Act.put, List.getElem_toArray, List.getElem_cons_succ, List.getElem_cons_zero, List.setIfInBounds_toArray, List.set_cons_zero, List.set_cons_succ])
            refine wpAnyH_take (i := 5) (v := ?_) rfl (by kernel_rfl) (by kernel_rfl) (by kernel_rfl) (fun _ _ _ h => h) (Or.inl ⟨by rfl, ?_⟩) (by assumption) ?_
            rotate_left
            · (intro w hSw; (try dsimp only at hSw); go_simp; (try with_reducible rfl))
            (try simp only [Act.put, List.getElem_toArray, List.getElem_cons_succ, List.getElem_cons_zero, List.setIfInBounds_toArray, List.set_cons_zero, List.set_cons_succ])
            refine wpAnyH_take (i := 6) (v := ?_) rfl (by kernel_rfl) (by kernel_rfl) (by kernel_rfl) (fun _ _ _ h => h) (Or.inl ⟨by rfl, ?_⟩) (by assumption) ?_
            rotate_left
            · (intro w hSw; (try dsimp only at hSw); go_simp; (try with_reducible rfl))
            (try simp only [Act.put, List.getElem_toArray, List.getElem_cons_succ, List.getElem_cons_zero, List.setIfInBounds_toArray, List.set_cons_zero, List.set_cons_succ])
            refine wpAnyH_take (i := 7) (v := ?_) rfl (by kernel_rfl) (by kernel_rfl) (by kernel_rfl) (fun _ _ _ h => h) (Or.inl ⟨by rfl, ?_⟩) (by assumption) ?_
            rotate_left
            · (intro w hSw; (try dsimp only at hSw); go_simp; (try with_reducible rfl))
            (try simp only [Act.put, List.getElem_toArray, List.getElem_cons_succ, List.getElem_cons_zero, List.setIfInBounds_toArray, List.set_cons_zero, List.set_cons_succ])
            refine wpAnyH_take (i := 9) (v := ?_) rfl (by kernel_rfl) (by kernel_rfl) (by kernel_rfl) (fun _ _ _ h => h) (Or.inl ⟨by rfl, ?_⟩) (by assumption) ?_
            rotate_left
            · (intro w hSw; (try dsimp only at hSw); go_simp; (try with_reducible rfl))
            (try simp only [Act.put, List.getElem_toArray, List.getElem_cons_succ, List.getElem_cons_zero, List.setIfInBounds_toArray, List.set_cons_zero, List.set_cons_succ])
            refine wpAnyH_take (i := 10) (v := ?_) rfl (by kernel_rfl) (by kernel_rfl) (by kernel_rfl) (fun _ _ _ h => h) (Or.inl ⟨by rfl, ?_⟩) (by assumption) ?_
            rotate_left
            · (intro w hSw; (try dsimp only at hSw); go_simp; (try with_reducible rfl))
            (try simp only [Act.put, List.getElem_toArray, List.getElem_cons_succ, List.getElem_cons_zero, List.setIfInBounds_toArray, List.set_cons_zero, List.set_cons_succ])
            refine wpAnyH_ready (rs := [3]) (by kernel_rfl) (by simp) (AllReadyH.cons rfl (fun K hK => ?_) AllReadyH.nil)
            (first | ((first | (go_at_call 52; refine (HALL.out _).mono ?_; rintro e w' ⟨rfl, rfl⟩) | (go_at_call 49; refine (l4Put_any _ _ _ w.heap.size _ (ho.kept hHeld.2.2 (fun k hk => (OwnI.lt ho k hk).2)) (Nat.le_trans hbw.size hHeld.2.2.size) (by omega)).mono ?_; rintro e w4 ⟨v4, rfl, ho4, b4⟩; have hS := keep2 hHeld b4))) | (go_simp; (first | (go_at_call 52; refine (HALL.out _).mono ?_; rintro e w' ⟨rfl, rfl⟩) | (go_at_call 49; refine (l4Put_any _ _ _ w.heap.size _ (ho.kept hHeld.2.2 (fun k hk => (OwnI.lt ho k hk).2)) (Nat.le_trans hbw.size hHeld.2.2.size) (by omega)).mono ?_; rintro e w4 ⟨v4, rfl, ho4, b4⟩; have hS := keep2 hHeld b4))))
            (try (go_wp2_with fail))
            refine hK.out _ _ ?_ (fun hHeld => ?_)
            · ((try dsimp only); (first | exact hS | exact hHeld | exact HS0.out))
            clear hK K
            (try simp only [Act.put, List.getElem_toArray, List.getElem_cons_succ, List.getElem_cons_zero, List.setIfInBounds_toArray, List.set_cons_zero, List.set_cons_succ])
            refine wpAnyH_take (i := 8) (v := ?_) rfl (by kernel_rfl) (by kernel_rfl) (by kernel_rfl) (fun _ _ _ h => h) (Or.inl ⟨by rfl, ?_⟩) (by assumption) ?_
            rotate_left
            · (intro w hSw; (try dsimp only at hSw); go_simp; (try with_reducible rfl))
            (try simp only [Act.put, List.getElem_toArray, List.getElem_cons_succ, List.getElem_cons_zero, List.setIfInBounds_toArray, List.set_cons_zero, List.set_cons_succ])
            refine wpAnyH_take (i := 11) (v := ?_) rfl (by kernel_rfl) (by kernel_rfl) (by kernel_rfl) (fun _ _ _ h => h) (Or.inl ⟨by rfl, ?_⟩) (by assumption) ?_
            rotate_left
            · (intro w hSw; (try dsimp only at hSw); go_simp; (try with_reducible rfl))
            (try simp only [Act.put, List.getElem_toArray, List.getElem_cons_succ, List.getElem_cons_zero, List.setIfInBounds_toArray, List.set_cons_zero, List.set_cons_succ])
            refine wpAnyH_ready (rs := [12]) (by kernel_rfl) (by simp) (AllReadyH.cons rfl (fun K hK => ?_) AllReadyH.nil)
            (first | ((first | (go_at_call 52; refine (HALL.out _).mono ?_; rintro e w' ⟨rfl, rfl⟩) | (go_at_call 49; refine (l4Put_any _ _ _ w.heap.size _ (ho.kept hHeld.2.2 (fun k hk => (OwnI.lt ho k hk).2)) (Nat.le_trans hbw.size hHeld.2.2.size) (by omega)).mono ?_; rintro e w4 ⟨v4, rfl, ho4, b4⟩; have hS := keep2 hHeld b4))) | (go_simp; (first | (go_at_call 52; refine (HALL.out _).mono ?_; rintro e w' ⟨rfl, rfl⟩) | (go_at_call 49; refine (l4Put_any _ _ _ w.heap.size _ (ho.kept hHeld.2.2 (fun k hk => (OwnI.lt ho k hk).2)) (Nat.le_trans hbw.size hHeld.2.2.size) (by omega)).mono ?_; rintro e w4 ⟨v4, rfl, ho4, b4⟩; have hS := keep2 hHeld b4))))
            (try (go_wp2_with fail))
            refine hK.out _ _ ?_ (fun hHeld => ?_)
            · ((try dsimp only); (first | exact hS | exact hHeld | exact HS0.out))
            clear hK K
            (try simp only [Act.put, List.getElem_toArray, List.getElem_cons_succ, List.getElem_cons_zero, List.setIfInBounds_toArray, List.set_cons_zero, List.set_cons_succ])
            refine wpAnyH_take (i := 13) (v := ?_) rfl (by kernel_rfl) (by kernel_rfl) (by kernel_rfl) (fun _ _ _ h => h) (Or.inl ⟨by rfl, ?_⟩) (by assumption) ?_
            rotate_left
            · (intro w hSw; (try dsimp only at hSw); go_simp; (try with_reducible rfl))
            (try simp only [Act.put, List.getElem_toArray, List.getElem_cons_succ, List.getElem_cons_zero, List.setIfInBounds_toArray, List.set_cons_zero, List.set_cons_succ])
            refine wpAnyH_done (by kernel_rfl) ?_ _
            refine NoPanic.normal ?_
            go_wp2_with fail
            go_roundw
            case rel => exact ⟨i + 1, by omega, by go_num, by rw [HS.out]; exact cast (by rw [difV, IntWalk.i64_left, wrap_pow Q hQ4]) ho4, hb.trans (hHeld.2.2.mono hb.size)⟩
            case measure => simp [intOf]; omega
        · obtain rfl : i = A.length := by omega
          have hd2 : ¬ A.length < A.length := by omega
          go_wp2_with fail
          go_ret
          exact ⟨_, rfl, by rw [HE.out]; exact ho, hbw⟩
    · rw [decide_eq_false hq] at HIN
      have HE : Hid (difS (C : Int) ll m q = []) := Lib.hid (by rw [HD.out, if_neg hq])
      clear hq hA0 HD
      go_wp2_with fail
      refine wp_loop_rounds 1 ?_
      rw [rounds_succ]
      go_wp2_with fail
      refine (HIN.out _).mono ?_
      rintro e w' ⟨rfl, rfl⟩
      go_wp2_with fail
      go_ret
      exact ⟨_, rfl, by rw [HE.out]; exact ho2, hbw2⟩
end Go.Proofs.Ytchdceglcjjggaa
