/- Texts of this claim, merged: DepB. Conditions: as stated. -/
import Derived.Test.YtficnbeciohpfaaSg16
import Derived.Test.YtficnbeciohpfaaSg9
namespace Go.Proofs.Ytficnbeciohpfaa
open Go.RowKit

/-- Rows i and k are equal on the left and not on the right. -/
def badB (c : Nat) (ll : List (List Int)) (m : Int) (L R : Nat) (i k : Nat) : Bool := agB c ll m (L : Int) i k && !bitB (agrTo m (ll.getD i []) (ll.getD k []) c).toNat R
/-- The first pair that is bad. -/
def PairIs (bad : Nat → Nat → Bool) (N : Nat) (a b : Int) : Prop :=
  (a = -1 ∧ b = -1 ∧ ∀ i k, i < k → k < N → bad i k = false) ∨ ∃ i k : Nat, a = (i : Int) ∧ b = (k : Int) ∧ i < k ∧ k < N ∧ bad i k = true ∧ (∀ i' k', i' < i → i' < k' → k' < N → bad i' k' = false) ∧ ∀ k', i < k' → k' < k → bad i k' = false
theorem PairIs.one {bad : Nat → Nat → Bool} {N : Nat} {a b a' b' : Int} (h : PairIs bad N a b) (h' : PairIs bad N a' b') : a = a' ∧ b = b' := by
  rcases h with ⟨rfl, rfl, h⟩ | ⟨i, k, rfl, rfl, h1, h2, h3, h4, h5⟩
  · rcases h' with ⟨rfl, rfl, -⟩ | ⟨i', k', rfl, rfl, h1', h2', h3', -⟩
    · exact ⟨rfl, rfl⟩
    · rw [h i' k' h1' h2'] at h3'; cases h3'
  · rcases h' with ⟨rfl, rfl, h'⟩ | ⟨i', k', rfl, rfl, h1', h2', h3', h4', h5'⟩
    · rw [h' i k h1 h2] at h3; cases h3
    · rcases Nat.lt_trichotomy i i' with hlt | rfl | hlt
      · rw [h4' i k hlt h1 h2] at h3; cases h3
      · rcases Nat.lt_trichotomy k k' with hlt | rfl | hlt
        · rw [h5' k h1 hlt] at h3; cases h3
        · exact ⟨rfl, rfl⟩
        · rw [h5 k' h1' hlt] at h3'; cases h3'
      · rw [h4 i' k' hlt h1' h2'] at h3'; cases h3'
theorem least_nat (p : Nat → Bool) : ∀ n, (∃ i, i < n ∧ p i = true) → ∃ a, a < n ∧ p a = true ∧ ∀ b, b < a → p b = false
  | 0, ⟨i, h, _⟩ => absurd h (Nat.not_lt_zero _)
  | n + 1, ⟨i, h, hi⟩ => by
    by_cases hx : ∃ j, j < n ∧ p j = true
    · obtain ⟨a, h1, h2⟩ := least_nat p n hx
      exact ⟨a, by omega, h2⟩
    · have : i = n := by
        by_cases e : i = n
        · exact e
        · exact (hx ⟨i, by omega, hi⟩).elim
      subst this
      exact ⟨i, h, hi, fun b hb => by
        cases hp : p b with
        | false => rfl
        | true => exact (hx ⟨b, hb, hp⟩).elim⟩
theorem PairIs.ex (bad : Nat → Nat → Bool) (N : Nat) : ∃ ab : Int × Int, PairIs bad N ab.1 ab.2 := by
  by_cases h : ∃ i, i < N ∧ ((List.range N).any fun k => decide (i < k) && bad i k) = true
  · obtain ⟨i, h1, h2, h3⟩ := least_nat (fun i => (List.range N).any fun k => decide (i < k) && bad i k) N h
    rw [List.any_eq_true] at h2
    obtain ⟨k, hk, hb⟩ := h2
    obtain ⟨k, h4, h5, h6⟩ := least_nat (fun k => decide (i < k) && bad i k) N ⟨k, List.mem_range.1 hk, hb⟩
    rw [Bool.and_eq_true, decide_eq_true_eq] at h5
    refine ⟨((i : Int), (k : Int)), .inr ⟨i, k, rfl, rfl, h5.1, h4, h5.2, fun i' k' g1 g2 g3 => ?_, fun k' g1 g2 => ?_⟩⟩
    · have := h3 i' g1
      simp only [List.any_eq_false] at this
      have := this k' (List.mem_range.2 g3)
      simpa [g2] using this
    · have := h6 k' g2
      simpa [g1] using this
  · refine ⟨(-1, -1), .inl ⟨rfl, rfl, fun i k h1 h2 => ?_⟩⟩
    cases hb : bad i k with
    | false => rfl
    | true => exact (h ⟨i, by omega, List.any_eq_true.2 ⟨k, List.mem_range.2 h2, by rw [hb]; simp [h1]⟩⟩).elim
noncomputable def pairI (bad : Nat → Nat → Bool) (N : Nat) : Int × Int := Classical.choose (PairIs.ex bad N)
theorem pairI_is (bad : Nat → Nat → Bool) (N : Nat) : PairIs bad N (pairI bad N).1 (pairI bad N).2 := Classical.choose_spec (PairIs.ex bad N)
theorem pairI_eq {bad : Nat → Nat → Bool} {N : Nat} {a b : Int} (h : PairIs bad N a b) : pairI bad N = (a, b) := by
  obtain ⟨h1, h2⟩ := (pairI_is bad N).one h
  rw [← h1, ← h2]
theorem bit_zero (X k : Nat) : (bits BinOp.and IntKind.i64 ((X : Int) / 2 ^ k) 1 == 0) = !bitB X k := by
  rw [← bit_test, i64_and_1]
  have h := Int.emod_two_eq ((X : Int) / 2 ^ k)
  rcases h with h | h <;> rw [h] <;> rfl
theorem agrTo_nat6 (m : Int) (r s : List Int) (n : Nat) (h : n ≤ 5) : ∃ Y : Nat, agrTo m r s n = (Y : Int) ∧ Y < 32 := by
  obtain ⟨h0, h1⟩ := agrTo_bd m r s n
  refine ⟨(agrTo m r s n).toNat, by omega, ?_⟩
  rcases (show n = 0 ∨ n = 1 ∨ n = 2 ∨ n = 3 ∨ n = 4 ∨ n = 5 by omega) with rfl | rfl | rfl | rfl | rfl | rfl <;> simp at h1 <;> omega
/-- A table and a dependency, each in a block of the call's own. -/
theorem boxTD {w wr : World} {a b l r : Value} {T T' : TypeId} (hb : Below ((w.alloc (.cells #[a, b] T)).alloc (.cells #[l, r] T')).heap.size ((w.alloc (.cells #[a, b] T)).alloc (.cells #[l, r] T')) wr) :
    (wr.cell? ⟨w.heap.size, 0, none⟩ = some a ∧ wr.cell? ⟨w.heap.size, 1, none⟩ = some b) ∧ wr.cell? ⟨w.heap.size + 1, 0, none⟩ = some l ∧ wr.cell? ⟨w.heap.size + 1, 1, none⟩ = some r := by
  have hb1 := (Below.refl (w.alloc (.cells #[a, b] T)).heap.size (w.alloc (.cells #[a, b] T))).alloc (Nat.le_refl _) (.cells #[l, r] T')
  have hbb := hb1.trans (hb.mono hb1.size)
  obtain ⟨h0, h1⟩ := zero2 (w.alloc (.cells #[a, b] T)) T' l r
  have hs : (w.alloc (.cells #[a, b] T)).heap.size = w.heap.size + 1 := by simp
  rw [hs] at h0 h1
  obtain ⟨g0, g1⟩ := zero2 w T a b
  exact ⟨⟨(hbb.cell (p := ⟨w.heap.size, 0, none⟩) (by simp)).trans g0, (hbb.cell (p := ⟨w.heap.size, 1, none⟩) (by simp)).trans g1⟩, (hb.cell (p := ⟨w.heap.size + 1, 0, none⟩) (by simp)).trans h0, (hb.cell (p := ⟨w.heap.size + 1, 1, none⟩) (by simp)).trans h1⟩
set_option maxRecDepth 20000 in
set_option maxHeartbeats 1600000 in
theorem pair6_any (c m : Int) (L R : Nat) (v : Value) (ll : List (List Int)) (w : World) (hr : ReadSS w v ll) (hT : isT c ll = true) (hR : R < 5) :
    Calls Try.prog 37 #[.agg #[.int .i64 c, v], .int .i64 m, .agg #[.int .i64 (L : Int), .int .i64 (R : Int)]] w fun e w' =>
      e = .returned (.tuple #[.int .i64 (pairI (badB c.toNat ll m L R) ll.length).1, .int .i64 (pairI (badB c.toNat ll m L R) ll.length).2]) ∧ Below w.heap.size w w' := by
  obtain ⟨hc1, hc5, h40⟩ := isT_bd hT
  have HK := Lib.hid (fun (i k : Nat) w' (hb : Below w.heap.size w w') (hi : i < ll.length) (hk : k < ll.length) => l4Agree_any c m i k v ll w' (hr.kept hb) hT hi hk)
  obtain ⟨a, cap, rfl, -⟩ := hr
  have hb1 := (Below.refl w.heap.size w).alloc (Nat.le_refl _) (.cells #[.int .i64 c, .slice a ll.length cap] 33)
  have hb2 := hb1.alloc hb1.size (.cells #[.int .i64 (L : Int), .int .i64 (R : Int)] 25)
  have HB2 := Lib.hid hb2
  have HRF := Lib.hid (Below.refl ((w.alloc (.cells #[.int .i64 c, .slice a ll.length cap] 33)).alloc (.cells #[.int .i64 (L : Int), .int .i64 (R : Int)] 25)).heap.size ((w.alloc (.cells #[.int .i64 c, .slice a ll.length cap] 33)).alloc (.cells #[.int .i64 (L : Int), .int .i64 (R : Int)] 25)))
  have HEQ := Lib.hid (fun a b (h : PairIs (badB c.toNat ll m L R) ll.length a b) => pairI_eq h)
  have HTN := Lib.hid (fun i k => agrTo_nat6 m (ll.getD i []) (ll.getD k []) c.toNat (by omega))
  clear hb1 hb2
  go_enter Try.func37, Try.ntmps37
  go_wp2_with fail
  go_loopw [8] (fun iv wr => ∃ i : Nat, i ≤ ll.length ∧ iv = .int .i64 (i : Int) ∧ Hid (∀ i' k', i' < i → i' < k' → k' < ll.length → badB c.toNat ll m L R i' k' = false) ∧ Below ((w.alloc (.cells #[.int .i64 c, .slice a ll.length cap] 33)).alloc (.cells #[.int .i64 (L : Int), .int .i64 (R : Int)] 25)).heap.size ((w.alloc (.cells #[.int .i64 c, .slice a ll.length cap] 33)).alloc (.cells #[.int .i64 (L : Int), .int .i64 (R : Int)] 25)) wr) (fun iv _ => ll.length - (intOf iv).toNat)
  case atStart => exact ⟨0, by omega, rfl, Lib.hid (fun i' k' h => absurd h (Nat.not_lt_zero _)), HRF.out⟩
  case round =>
    obtain ⟨i, hi, rfl, HNO, hb⟩ := hrel
    obtain ⟨w1, hw1⟩ : ∃ w', w' = wr := ⟨_, rfl⟩
    rw [← hw1] at hb ⊢
    clear hw1
    obtain ⟨⟨c0, c1⟩, d0, d1⟩ := boxTD hb
    by_cases hlt : i < ll.length
    · have z1 : (i : Int) < (ll.length : Int) := by omega
      go_wp2_with fail
      go_loopw [9] (fun kv wr => ∃ k : Nat, i < k ∧ k ≤ ll.length ∧ kv = .int .i64 (k : Int) ∧ Hid (∀ k', i < k' → k' < k → badB c.toNat ll m L R i k' = false) ∧ Below ((w.alloc (.cells #[.int .i64 c, .slice a ll.length cap] 33)).alloc (.cells #[.int .i64 (L : Int), .int .i64 (R : Int)] 25)).heap.size ((w.alloc (.cells #[.int .i64 c, .slice a ll.length cap] 33)).alloc (.cells #[.int .i64 (L : Int), .int .i64 (R : Int)] 25)) wr) (fun kv _ => ll.length - (intOf kv).toNat)
      case atStart => exact ⟨i + 1, by omega, by omega, by go_num, Lib.hid (fun k' h1 h2 => by omega), hb⟩
      case round =>
        clear c0 c1 d0 d1 hb
        obtain ⟨k, hik, hk, rfl, HNK, hb⟩ := hrel
        obtain ⟨w2, hw2⟩ : ∃ w', w' = wr := ⟨_, rfl⟩
        rw [← hw2] at hb ⊢
        clear hw2
        obtain ⟨⟨c0, c1⟩, d0, d1⟩ := boxTD hb
        by_cases hlk : k < ll.length
        · have z2 : (k : Int) < (ll.length : Int) := by omega
          have HC := Lib.hid (HK.out i k w2 (HB2.out.trans (hb.mono HB2.out.size)) hlt hlk)
          obtain ⟨X, hX, hX32⟩ := HTN.out i k
          have hbad : badB c.toNat ll m L R i k = ((bits .and .i64 (X : Int) (L : Int) == (L : Int)) && !bitB X R) := by
            unfold badB agB; rw [hX]; rfl
          rw [hX] at HC
          have HBZ := Lib.hid (bit_zero X R)
          have HB := Lib.hid hb
          clear hX hb
          cases h1 : (bits .and .i64 (X : Int) (L : Int) == (L : Int)) with
          | false =>
            have HBF : Hid (badB c.toNat ll m L R i k = false) := Lib.hid (by rw [hbad, h1]; rfl)
            clear hbad
            go_wp2_with fail
            refine HC.out.mono ?_
            rintro e w3 ⟨rfl, b3⟩
            have hb3 := HB.out.trans (b3.mono HB.out.size)
            clear b3 c0 c1 d0 d1
            obtain ⟨⟨c0, c1⟩, d0, d1⟩ := boxTD hb3
            go_wp2_with fail
            go_roundw
            case rel => exact ⟨k + 1, by omega, by omega, by go_num, Lib.hid (fun k' g1 g2 => by
              by_cases e : k' = k
              · rw [e]; exact HBF.out
              · exact HNK.out k' g1 (by omega)), hb3⟩
            case measure => simp [intOf]; omega
          | true =>
            cases h2 : bitB X R with
            | true =>
              have HBF : Hid (badB c.toNat ll m L R i k = false) := Lib.hid (by rw [hbad, h2]; simp)
              rw [h2] at HBZ
              have h3 := HBZ.out
              rw [show (!true) = false from rfl] at h3
              clear hbad h2 HBZ
              go_wp2_with fail
              refine HC.out.mono ?_
              rintro e w3 ⟨rfl, b3⟩
              have hb3 := HB.out.trans (b3.mono HB.out.size)
              clear b3 c0 c1 d0 d1
              obtain ⟨⟨c0, c1⟩, d0, d1⟩ := boxTD hb3
              go_wp2_with fail
              go_roundw
              case rel => exact ⟨k + 1, by omega, by omega, by go_num, Lib.hid (fun k' g1 g2 => by
                by_cases e : k' = k
                · rw [e]; exact HBF.out
                · exact HNK.out k' g1 (by omega)), hb3⟩
              case measure => simp [intOf]; omega
            | false =>
              have HP := Lib.hid (HEQ.out (i : Int) (k : Int) (.inr ⟨i, k, rfl, rfl, hik, hlk, by rw [hbad, h1, h2]; rfl, HNO.out, HNK.out⟩))
              rw [h2] at HBZ
              have h3 := HBZ.out
              rw [show (!false) = true from rfl] at h3
              clear hbad h2 HBZ
              go_wp2_with fail
              refine HC.out.mono ?_
              rintro e w3 ⟨rfl, b3⟩
              have hb3 := HB.out.trans (b3.mono HB.out.size)
              have hb4 := HB2.out.trans (hb3.mono HB2.out.size)
              clear b3 c0 c1 d0 d1
              obtain ⟨⟨c0, c1⟩, d0, d1⟩ := boxTD hb3
              go_wp2_with fail
              go_ret2
              exact ⟨by rw [HP.out]; rfl, hb4⟩
        · obtain rfl : k = ll.length := by omega
          go_wp2_with fail
          go_roundw
          case rel => exact ⟨i + 1, by omega, by go_num, Lib.hid (fun i' k' g1 g2 g3 => by
            by_cases e : i' = i
            · rw [e] at g2 ⊢; exact HNK.out k' g2 g3
            · exact HNO.out i' k' (by omega) g2 g3), hb⟩
          case measure => simp [intOf]; omega
    · obtain rfl : i = ll.length := by omega
      have HP := Lib.hid (HEQ.out (-1) (-1) (.inl ⟨rfl, rfl, fun i k g1 g2 => HNO.out i k (by omega) g1 g2⟩))
      have hb4 := HB2.out.trans (hb.mono HB2.out.size)
      go_wp2_with fail
      go_ret2
      exact ⟨by rw [HP.out]; rfl, hb4⟩
end Go.Proofs.Ytficnbeciohpfaa
