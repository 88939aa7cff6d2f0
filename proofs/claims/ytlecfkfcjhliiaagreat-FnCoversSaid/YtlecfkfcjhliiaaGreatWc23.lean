/- Texts of this claim, merged: DepA, DepB, DepC, PmB. Conditions: as stated. -/
import Derived.Test.YtlecfkfcjhliiaaGreatWc2
import Derived.Test.YtlecfkfcjhliiaaGreatWc4
import Derived.Test.YtlecfkfcjhliiaaGreatWc19
import Derived.Test.YtlecfkfcjhliiaaGreatWc22
namespace Go.Proofs.YtlecfkfcjhliiaaGreat
open Go.RowKit

/-- A dependency of n columns. -/
def depB (n l r : Int) : Bool := decide (1 ≤ n ∧ n ≤ 5) && (isA n l && decide (0 ≤ r ∧ r ≤ n - 1))
theorem depB_iff {n l r : Int} : depB n l r = true ↔ (1 ≤ n ∧ n ≤ 5) ∧ isA n l = true ∧ 0 ≤ r ∧ r ≤ n - 1 := by unfold depB; simp
set_option maxHeartbeats 800000 in
theorem isDep_any (n l r : Int) (w : World) :
    Calls Tryz.prog 49 #[.int .i64 n, .agg #[.int .i64 l, .int .i64 r]] w fun e w' => e = .returned (.bool (depB n l r)) ∧ Below w.heap.size w w' := by
  have hb1 := (Below.refl w.heap.size w).alloc (Nat.le_refl _) (.cells #[.int .i64 l, .int .i64 r] 37)
  obtain ⟨c0, c1⟩ := zero2 w 37 (.int .i64 l) (.int .i64 r)
  by_cases hn : 1 ≤ n ∧ n ≤ 5
  · have h1 : decide (1 ≤ n ∧ n ≤ 5) = true := decide_eq_true hn
    have h0 : 0 ≤ n := by omega
    have h2 : n ≤ 5 := hn.2
    cases ha : isA n l with
    | true =>
      have HE : Hid (depB n l r = (decide (0 ≤ r) && decide (r ≤ n - 1))) := Lib.hid (by unfold depB; rw [h1, ha]; simp)
      have HA := Lib.hid (isA_any n l)
      have HI := Lib.hid (fun w' => in_any n 1 5 w')
      have HR := Lib.hid (fun w' => in_any r 0 (n - 1) w')
      rw [h1] at HI
      rw [ha] at HA
      clear ha hn h1
      go_enter Tryz.func49, Tryz.ntmps49
      go_wp2_with fail
      refine (HI.out _).mono ?_
      rintro e w' ⟨rfl, rfl⟩
      go_wp2_with fail
      refine (HA.out _).mono ?_
      rintro e w' ⟨rfl, rfl⟩
      go_wp2_with fail
      refine (HR.out _).mono ?_
      rintro e w' ⟨rfl, rfl⟩
      go_wp2_with fail
      go_ret
      exact ⟨ret_b HE.out, hb1⟩
    | false =>
      have HE : Hid (depB n l r = false) := Lib.hid (by unfold depB; rw [ha]; simp)
      have HA := Lib.hid (isA_any n l)
      have HI := Lib.hid (fun w' => in_any n 1 5 w')
      rw [h1] at HI
      rw [ha] at HA
      clear ha hn h1
      go_enter Tryz.func49, Tryz.ntmps49
      go_wp2_with fail
      refine (HI.out _).mono ?_
      rintro e w' ⟨rfl, rfl⟩
      go_wp2_with fail
      refine (HA.out _).mono ?_
      rintro e w' ⟨rfl, rfl⟩
      go_wp2_with fail
      go_ret
      exact ⟨ret_b HE.out, hb1⟩
  · have h1 : decide (1 ≤ n ∧ n ≤ 5) = false := decide_eq_false hn
    have HE : Hid (depB n l r = false) := Lib.hid (by unfold depB; rw [h1]; simp)
    have HI := Lib.hid (fun w' => in_any n 1 5 w')
    rw [h1] at HI
    clear hn h1
    go_enter Tryz.func49, Tryz.ntmps49
    go_wp2_with fail
    refine (HI.out _).mono ?_
    rintro e w' ⟨rfl, rfl⟩
    go_wp2_with fail
    go_ret
    exact ⟨ret_b HE.out, hb1⟩
/-- Two cells of a block of the call's own, behind two more blocks. -/
theorem dep_box (w : World) (T : TypeId) (A C : Obj) (a b : Value) : (((w.alloc A).alloc (.cells #[a, b] T)).alloc C).cell? ⟨w.heap.size + 1, 0, none⟩ = some a ∧ (((w.alloc A).alloc (.cells #[a, b] T)).alloc C).cell? ⟨w.heap.size + 1, 1, none⟩ = some b := by
  obtain ⟨h0, h1⟩ := zero2 (w.alloc A) T a b
  have hs : (w.alloc A).heap.size = w.heap.size + 1 := by simp
  rw [hs] at h0 h1
  have hb := (Below.refl ((w.alloc A).alloc (.cells #[a, b] T)).heap.size ((w.alloc A).alloc (.cells #[a, b] T))).alloc (Nat.le_refl _) C
  exact ⟨(hb.cell (p := ⟨w.heap.size + 1, 0, none⟩) (by simp)).trans h0, (hb.cell (p := ⟨w.heap.size + 1, 1, none⟩) (by simp)).trans h1⟩
end Go.Proofs.YtlecfkfcjhliiaaGreat
namespace Go.Proofs.YtlecfkfcjhliiaaGreat
open Go.RowKit

/-- Rows i and k are equal on the left and not on the right. -/
def badB (c : Nat) (ll : List (List Int)) (m : Int) (L R : Nat) (i k : Nat) : Bool := agB c ll m (L : Int) i k && !bitB (agrTo m (ll.getD i []) (ll.getD k []) c).toNat R
/-- The first pair that is bad. -/
def PairIs (bad : Nat → Nat → Bool) (N : Nat) (a b : Int) : Prop :=
  (a = -1 ∧ b = -1 ∧ ∀ i k, i < k → k < N → bad i k = false) ∨ ∃ i k : Nat, a = (i : Int) ∧ b = (k : Int) ∧ i < k ∧ k < N ∧ bad i k = true ∧ (∀ i' k', i' < i → i' < k' → k' < N → bad i' k' = false) ∧ ∀ k', i < k' → k' < k → bad i k' = false
theorem PairIs.one {bad : Nat → Nat → Bool} {N : Nat} {a b a' b' : Int} (h : PairIs bad N a b) (h' : PairIs bad N a' b') : a = a' ∧ b = b' := by
  rcases h with ⟨rfl, rfl, h⟩ | ⟨i, k, rfl, rfl, h1, h2, h3, h4, h5⟩
  · rcases h' with ⟨rfl, rfl, -⟩ | ⟨i', k', rfl, rfl, h1', h2', h3', -⟩
    · exact ⟨rfl, rfl⟩
    · rw [h i' k' h1' h2'] at h3'; cases h3'
  · rcases h' with ⟨rfl, rfl, h'⟩ | ⟨i', k', rfl, rfl, h1', h2', h3', h4', h5'⟩
    · rw [h' i k h1 h2] at h3; cases h3
    · rcases Nat.lt_trichotomy i i' with hlt | rfl | hlt
      · rw [h4' i k hlt h1 h2] at h3; cases h3
      · rcases Nat.lt_trichotomy k k' with hlt | rfl | hlt
        · rw [h5' k h1 hlt] at h3; cases h3
        · exact ⟨rfl, rfl⟩
        · rw [h5 k' h1' hlt] at h3'; cases h3'
      · rw [h4 i' k' hlt h1' h2'] at h3'; cases h3'
theorem least_nat (p : Nat → Bool) : ∀ n, (∃ i, i < n ∧ p i = true) → ∃ a, a < n ∧ p a = true ∧ ∀ b, b < a → p b = false
  | 0, ⟨i, h, _⟩ => absurd h (Nat.not_lt_zero _)
  | n + 1, ⟨i, h, hi⟩ => by
    by_cases hx : ∃ j, j < n ∧ p j = true
    · obtain ⟨a, h1, h2⟩ := least_nat p n hx
      exact ⟨a, by omega, h2⟩
    · have : i = n := by
        by_cases e : i = n
        · exact e
        · exact (hx ⟨i, by omega, hi⟩).elim
      subst this
      exact ⟨i, h, hi, fun b hb => by
        cases hp : p b with
        | false => rfl
        | true => exact (hx ⟨b, hb, hp⟩).elim⟩
theorem PairIs.ex (bad : Nat → Nat → Bool) (N : Nat) : ∃ ab : Int × Int, PairIs bad N ab.1 ab.2 := by
  by_cases h : ∃ i, i < N ∧ ((List.range N).any fun k => decide (i < k) && bad i k) = true
  · obtain ⟨i, h1, h2, h3⟩ := least_nat (fun i => (List.range N).any fun k => decide (i < k) && bad i k) N h
    rw [List.any_eq_true] at h2
    obtain ⟨k, hk, hb⟩ := h2
    obtain ⟨k, h4, h5, h6⟩ := least_nat (fun k => decide (i < k) && bad i k) N ⟨k, List.mem_range.1 hk, hb⟩
    rw [Bool.and_eq_true, decide_eq_true_eq] at h5
    refine ⟨((i : Int), (k : Int)), .inr ⟨i, k, rfl, rfl, h5.1, h4, h5.2, fun i' k' g1 g2 g3 => ?_, fun k' g1 g2 => ?_⟩⟩
    · have := h3 i' g1
      simp only [List.any_eq_false] at this
      have := this k' (List.mem_range.2 g3)
      simpa [g2] using this
    · have := h6 k' g2
      simpa [g1] using this
  · refine ⟨(-1, -1), .inl ⟨rfl, rfl, fun i k h1 h2 => ?_⟩⟩
    cases hb : bad i k with
    | false => rfl
    | true => exact (h ⟨i, by omega, List.any_eq_true.2 ⟨k, List.mem_range.2 h2, by rw [hb]; simp [h1]⟩⟩).elim
noncomputable def pairI (bad : Nat → Nat → Bool) (N : Nat) : Int × Int := Classical.choose (PairIs.ex bad N)
theorem pairI_is (bad : Nat → Nat → Bool) (N : Nat) : PairIs bad N (pairI bad N).1 (pairI bad N).2 := Classical.choose_spec (PairIs.ex bad N)
theorem pairI_eq {bad : Nat → Nat → Bool} {N : Nat} {a b : Int} (h : PairIs bad N a b) : pairI bad N = (a, b) := by
  obtain ⟨h1, h2⟩ := (pairI_is bad N).one h
  rw [← h1, ← h2]
theorem bit_zero (X k : Nat) : (bits BinOp.and IntKind.i64 ((X : Int) / 2 ^ k) 1 == 0) = !bitB X k := by
  rw [← bit_test, i64_and_1]
  have h := Int.emod_two_eq ((X : Int) / 2 ^ k)
  rcases h with h | h <;> rw [h] <;> rfl
theorem agrTo_nat6 (m : Int) (r s : List Int) (n : Nat) (h : n ≤ 5) : ∃ Y : Nat, agrTo m r s n = (Y : Int) ∧ Y < 32 := by
  obtain ⟨h0, h1⟩ := agrTo_bd m r s n
  refine ⟨(agrTo m r s n).toNat, by omega, ?_⟩
  rcases (show n = 0 ∨ n = 1 ∨ n = 2 ∨ n = 3 ∨ n = 4 ∨ n = 5 by omega) with rfl | rfl | rfl | rfl | rfl | rfl <;> simp at h1 <;> omega
/-- A table and a dependency, each in a block of the call's own. -/
theorem boxTD {w wr : World} {a b l r : Value} {T T' : TypeId} (hb : Below ((w.alloc (.cells #[a, b] T)).alloc (.cells #[l, r] T')).heap.size ((w.alloc (.cells #[a, b] T)).alloc (.cells #[l, r] T')) wr) :
    (wr.cell? ⟨w.heap.size, 0, none⟩ = some a ∧ wr.cell? ⟨w.heap.size, 1, none⟩ = some b) ∧ wr.cell? ⟨w.heap.size + 1, 0, none⟩ = some l ∧ wr.cell? ⟨w.heap.size + 1, 1, none⟩ = some r := by
  have hb1 := (Below.refl (w.alloc (.cells #[a, b] T)).heap.size (w.alloc (.cells #[a, b] T))).alloc (Nat.le_refl _) (.cells #[l, r] T')
  have hbb := hb1.trans (hb.mono hb1.size)
  obtain ⟨h0, h1⟩ := zero2 (w.alloc (.cells #[a, b] T)) T' l r
  have hs : (w.alloc (.cells #[a, b] T)).heap.size = w.heap.size + 1 := by simp
  rw [hs] at h0 h1
  obtain ⟨g0, g1⟩ := zero2 w T a b
  exact ⟨⟨(hbb.cell (p := ⟨w.heap.size, 0, none⟩) (by simp)).trans g0, (hbb.cell (p := ⟨w.heap.size, 1, none⟩) (by simp)).trans g1⟩, (hb.cell (p := ⟨w.heap.size + 1, 0, none⟩) (by simp)).trans h0, (hb.cell (p := ⟨w.heap.size + 1, 1, none⟩) (by simp)).trans h1⟩
set_option maxRecDepth 20000 in
set_option maxHeartbeats 1600000 in
theorem pair6_any (c m : Int) (L R : Nat) (v : Value) (ll : List (List Int)) (w : World) (hr : ReadSS w v ll) (hT : isT c ll = true) (hR : R < 5) :
    Calls Tryz.prog 69 #[.agg #[.int .i64 c, v], .int .i64 m, .agg #[.int .i64 (L : Int), .int .i64 (R : Int)]] w fun e w' =>
      e = .returned (.tuple #[.int .i64 (pairI (badB c.toNat ll m L R) ll.length).1, .int .i64 (pairI (badB c.toNat ll m L R) ll.length).2]) ∧ Below w.heap.size w w' := by
  obtain ⟨hc1, hc5, h40⟩ := isT_bd hT
  have HK := Lib.hid (fun (i k : Nat) w' (hb : Below w.heap.size w w') (hi : i < ll.length) (hk : k < ll.length) => l4Agree_any c m i k v ll w' (hr.kept hb) hT hi hk)
  obtain ⟨a, cap, rfl, -⟩ := hr
  have hb1 := (Below.refl w.heap.size w).alloc (Nat.le_refl _) (.cells #[.int .i64 c, .slice a ll.length cap] 26)
  have hb2 := hb1.alloc hb1.size (.cells #[.int .i64 (L : Int), .int .i64 (R : Int)] 37)
  have HB2 := Lib.hid hb2
  have HRF := Lib.hid (Below.refl ((w.alloc (.cells #[.int .i64 c, .slice a ll.length cap] 26)).alloc (.cells #[.int .i64 (L : Int), .int .i64 (R : Int)] 37)).heap.size ((w.alloc (.cells #[.int .i64 c, .slice a ll.length cap] 26)).alloc (.cells #[.int .i64 (L : Int), .int .i64 (R : Int)] 37)))
  have HEQ := Lib.hid (fun a b (h : PairIs (badB c.toNat ll m L R) ll.length a b) => pairI_eq h)
  have HTN := Lib.hid (fun i k => agrTo_nat6 m (ll.getD i []) (ll.getD k []) c.toNat (by omega))
  clear hb1 hb2
  go_enter Tryz.func69, Tryz.ntmps69
  go_wp2_with fail
  go_loopw [8] (fun iv wr => ∃ i : Nat, i ≤ ll.length ∧ iv = .int .i64 (i : Int) ∧ Hid (∀ i' k', i' < i → i' < k' → k' < ll.length → badB c.toNat ll m L R i' k' = false) ∧ Below ((w.alloc (.cells #[.int .i64 c, .slice a ll.length cap] 26)).alloc (.cells #[.int .i64 (L : Int), .int .i64 (R : Int)] 37)).heap.size ((w.alloc (.cells #[.int .i64 c, .slice a ll.length cap] 26)).alloc (.cells #[.int .i64 (L : Int), .int .i64 (R : Int)] 37)) wr) (fun iv _ => ll.length - (intOf iv).toNat)
  case atStart => exact ⟨0, by omega, rfl, Lib.hid (fun i' k' h => absurd h (Nat.not_lt_zero _)), HRF.out⟩
  case round =>
    obtain ⟨i, hi, rfl, HNO, hb⟩ := hrel
    obtain ⟨w1, hw1⟩ : ∃ w', w' = wr := ⟨_, rfl⟩
    rw [← hw1] at hb ⊢
    clear hw1
    obtain ⟨⟨c0, c1⟩, d0, d1⟩ := boxTD hb
    by_cases hlt : i < ll.length
    · have z1 : (i : Int) < (ll.length : Int) := by omega
      go_wp2_with fail
      go_loopw [9] (fun kv wr => ∃ k : Nat, i < k ∧ k ≤ ll.length ∧ kv = .int .i64 (k : Int) ∧ Hid (∀ k', i < k' → k' < k → badB c.toNat ll m L R i k' = false) ∧ Below ((w.alloc (.cells #[.int .i64 c, .slice a ll.length cap] 26)).alloc (.cells #[.int .i64 (L : Int), .int .i64 (R : Int)] 37)).heap.size ((w.alloc (.cells #[.int .i64 c, .slice a ll.length cap] 26)).alloc (.cells #[.int .i64 (L : Int), .int .i64 (R : Int)] 37)) wr) (fun kv _ => ll.length - (intOf kv).toNat)
      case atStart => exact ⟨i + 1, by omega, by omega, by go_num, Lib.hid (fun k' h1 h2 => by omega), hb⟩
      case round =>
        clear c0 c1 d0 d1 hb
        obtain ⟨k, hik, hk, rfl, HNK, hb⟩ := hrel
        obtain ⟨w2, hw2⟩ : ∃ w', w' = wr := ⟨_, rfl⟩
        rw [← hw2] at hb ⊢
        clear hw2
        obtain ⟨⟨c0, c1⟩, d0, d1⟩ := boxTD hb
        by_cases hlk : k < ll.length
        · have z2 : (k : Int) < (ll.length : Int) := by omega
          have HC := Lib.hid (HK.out i k w2 (HB2.out.trans (hb.mono HB2.out.size)) hlt hlk)
          obtain ⟨X, hX, hX32⟩ := HTN.out i k
          have hbad : badB c.toNat ll m L R i k = ((bits .and .i64 (X : Int) (L : Int) == (L : Int)) && !bitB X R) := by
            unfold badB agB; rw [hX]; rfl
          rw [hX] at HC
          have HBZ := Lib.hid (bit_zero X R)
          have HB := Lib.hid hb
          clear hX hb
          cases h1 : (bits .and .i64 (X : Int) (L : Int) == (L : Int)) with
          | false =>
            have HBF : Hid (badB c.toNat ll m L R i k = false) := Lib.hid (by rw [hbad, h1]; rfl)
            clear hbad
            go_wp2_with fail
            refine HC.out.mono ?_
            rintro e w3 ⟨rfl, b3⟩
            have hb3 := HB.out.trans (b3.mono HB.out.size)
            clear b3 c0 c1 d0 d1
            obtain ⟨⟨c0, c1⟩, d0, d1⟩ := boxTD hb3
            go_wp2_with fail
            go_roundw
            case rel => exact ⟨k + 1, by omega, by omega, by go_num, Lib.hid (fun k' g1 g2 => by
              by_cases e : k' = k
              · rw [e]; exact HBF.out
              · exact HNK.out k' g1 (by omega)), hb3⟩
            case measure => simp [intOf]; omega
          | true =>
            cases h2 : bitB X R with
            | true =>
              have HBF : Hid (badB c.toNat ll m L R i k = false) := Lib.hid (by rw [hbad, h2]; simp)
              rw [h2] at HBZ
              have h3 := HBZ.out
              rw [show (!true) = false from rfl] at h3
              clear hbad h2 HBZ
              go_wp2_with fail
              refine HC.out.mono ?_
              rintro e w3 ⟨rfl, b3⟩
              have hb3 := HB.out.trans (b3.mono HB.out.size)
              clear b3 c0 c1 d0 d1
              obtain ⟨⟨c0, c1⟩, d0, d1⟩ := boxTD hb3
              go_wp2_with fail
              go_roundw
              case rel => exact ⟨k + 1, by omega, by omega, by go_num, Lib.hid (fun k' g1 g2 => by
                by_cases e : k' = k
                · rw [e]; exact HBF.out
                · exact HNK.out k' g1 (by omega)), hb3⟩
              case measure => simp [intOf]; omega
            | false =>
              have HP := Lib.hid (HEQ.out (i : Int) (k : Int) (.inr ⟨i, k, rfl, rfl, hik, hlk, by rw [hbad, h1, h2]; rfl, HNO.out, HNK.out⟩))
              rw [h2] at HBZ
              have h3 := HBZ.out
              rw [show (!false) = true from rfl] at h3
              clear hbad h2 HBZ
              go_wp2_with fail
              refine HC.out.mono ?_
              rintro e w3 ⟨rfl, b3⟩
              have hb3 := HB.out.trans (b3.mono HB.out.size)
              have hb4 := HB2.out.trans (hb3.mono HB2.out.size)
              clear b3 c0 c1 d0 d1
              obtain ⟨⟨c0, c1⟩, d0, d1⟩ := boxTD hb3
              go_wp2_with fail
              go_ret2
              exact ⟨by rw [HP.out]; rfl, hb4⟩
        · obtain rfl : k = ll.length := by omega
          go_wp2_with fail
          go_roundw
          case rel => exact ⟨i + 1, by omega, by go_num, Lib.hid (fun i' k' g1 g2 g3 => by
            by_cases e : i' = i
            · rw [e] at g2 ⊢; exact HNK.out k' g2 g3
            · exact HNO.out i' k' (by omega) g2 g3), hb⟩
          case measure => simp [intOf]; omega
    · obtain rfl : i = ll.length := by omega
      have HP := Lib.hid (HEQ.out (-1) (-1) (.inl ⟨rfl, rfl, fun i k g1 g2 => HNO.out i k (by omega) g1 g2⟩))
      have hb4 := HB2.out.trans (hb.mono HB2.out.size)
      go_wp2_with fail
      go_ret2
      exact ⟨by rw [HP.out]; rfl, hb4⟩
end Go.Proofs.YtlecfkfcjhliiaaGreat
namespace Go.Proofs.YtlecfkfcjhliiaaGreat
open Go.RowKit

/-- The first pair that violates the dependency. -/
noncomputable def pairD (c : Int) (ll : List (List Int)) (m l r : Int) : Int × Int := pairI (badB c.toNat ll m l.toNat r.toNat) ll.length
def okD (c : Int) (ll : List (List Int)) (m l r : Int) : Bool := fineT c ll m && depB c l r
noncomputable def holdsD (c : Int) (ll : List (List Int)) (m l r : Int) : Bool := okD c ll m l r && decide ((pairD c ll m l r).1 < 0)
noncomputable def witI (c : Int) (ll : List (List Int)) (m l r : Int) : Int := if okD c ll m l r = true then (pairD c ll m l r).1 else -1
noncomputable def witK (c : Int) (ll : List (List Int)) (m l r : Int) : Int := if okD c ll m l r = true then (pairD c ll m l r).2 else -1
noncomputable def witB (c : Int) (ll : List (List Int)) (m l r : Int) : Bool := okD c ll m l r && decide (0 ≤ (pairD c ll m l r).1)
theorem depB_nat {c l r : Int} (h : depB c l r = true) : ∃ L R : Nat, l = (L : Int) ∧ r = (R : Int) ∧ R < 5 := by
  obtain ⟨⟨h1, h5⟩, ha, h0, hr⟩ := depB_iff.1 h
  refine ⟨l.toNat, r.toNat, ?_, by omega, by omega⟩
  unfold isA at ha
  simp at ha
  omega
theorem fineT_isT {c : Int} {ll : List (List Int)} {m : Int} (h : fineT c ll m = true) : isT c ll = true := by unfold fineT at h; simp at h; exact h.1

section
set_option maxRecDepth 20000
set_option maxHeartbeats 1600000
end
end Go.Proofs.YtlecfkfcjhliiaaGreat
namespace Go.Proofs.YtlecfkfcjhliiaaGreat

theorem or_fin : ∀ (L : Fin 32) (R : Fin 5) (j : Fin 5), bitB (L.val ||| 2 ^ R.val) j.val = (bitB L.val j.val || decide (j.val = R.val)) := by decide +kernel
theorem or_lt : ∀ (c : Fin 6) (L : Fin 32) (R : Fin 5), L.val < 2 ^ c.val → R.val < c.val → (L.val ||| 2 ^ R.val) < 2 ^ c.val := by decide +kernel
theorem pow_bit : ∀ (R : Fin 5) (j : Fin 5), bitB (2 ^ R.val) j.val = decide (j.val = R.val) := by decide +kernel
theorem lt32 {c S : Nat} (hc : c ≤ 5) (hS : S < 2 ^ c) : S < 32 := by
  have : 2 ^ c ≤ 32 := by
    rcases (show c = 0 ∨ c = 1 ∨ c = 2 ∨ c = 3 ∨ c = 4 ∨ c = 5 by omega) with rfl | rfl | rfl | rfl | rfl | rfl <;> decide
  omega
section
variable {c : Nat} {ll : List (List Int)} {m : Int} {L R : Nat}
/-- Two rows agree in both sides if they agree in each. -/
theorem agB_or (hc : c ≤ 5) (hL : L < 2 ^ c) (hR : R < c) (i k : Nat) : agB c ll m ((L ||| 2 ^ R : Nat) : Int) i k = true ↔ agB c ll m (L : Int) i k = true ∧ agB c ll m ((2 ^ R : Nat) : Int) i k = true := by
  have h32 := lt32 hc hL
  have hO := or_lt ⟨c, by omega⟩ ⟨L, h32⟩ ⟨R, by omega⟩ hL hR
  have hP : 2 ^ R < 2 ^ c := Nat.pow_lt_pow_right (by omega) hR
  rw [agB_iff c ll m _ i k hc hO, agB_iff c ll m _ i k hc hL, agB_iff c ll m _ i k hc hP]
  constructor
  · intro h
    refine ⟨fun j hj hb => h j hj ?_, fun j hj hb => h j hj ?_⟩
    · have := or_fin ⟨L, h32⟩ ⟨R, by omega⟩ ⟨j, by omega⟩
      simp only at this
      rw [this, hb]; rfl
    · have h1 := or_fin ⟨L, h32⟩ ⟨R, by omega⟩ ⟨j, by omega⟩
      have h2 := pow_bit ⟨R, by omega⟩ ⟨j, by omega⟩
      simp only at h1 h2
      rw [h2] at hb
      rw [h1, hb]; simp
  · rintro ⟨h1, h2⟩ j hj hb
    have g1 := or_fin ⟨L, h32⟩ ⟨R, by omega⟩ ⟨j, by omega⟩
    have g2 := pow_bit ⟨R, by omega⟩ ⟨j, by omega⟩
    simp only at g1 g2
    rw [g1, Bool.or_eq_true] at hb
    rcases hb with hb | hb
    · exact h1 j hj hb
    · exact h2 j hj (by rw [g2]; exact hb)
/-- Equal on the right: agreeing in the set of that one column. -/
theorem agB_one (hc : c ≤ 5) (hR : R < c) (i k : Nat) : agB c ll m ((2 ^ R : Nat) : Int) i k = bitB (agrTo m (ll.getD i []) (ll.getD k []) c).toNat R := by
  have hP : 2 ^ R < 2 ^ c := Nat.pow_lt_pow_right (by omega) hR
  obtain ⟨X, h1, -, h3, h4⟩ := agrTo_bit m (ll.getD i []) (ll.getD k []) c hc
  rw [Bool.eq_iff_iff, agB_iff c ll m _ i k hc hP, h1, show ((X : Int)).toNat = X by omega, h4 R (by omega), decide_eq_true hR, Bool.true_and]
  constructor
  · intro h
    refine h R hR ?_
    have := pow_bit ⟨R, by omega⟩ ⟨R, by omega⟩
    simp only at this
    rw [this]; simp
  · intro h j hj hb
    have := pow_bit ⟨R, by omega⟩ ⟨j, by omega⟩
    simp only at this
    rw [this, decide_eq_true_eq] at hb
    subst hb
    exact h
theorem badB_iff (hc : c ≤ 5) (hR : R < c) (i k : Nat) : badB c ll m L R i k = true ↔ agB c ll m (L : Int) i k = true ∧ ¬ agB c ll m ((2 ^ R : Nat) : Int) i k = true := by
  unfold badB
  rw [Bool.and_eq_true, Bool.not_eq_true', agB_one hc hR]
  constructor
  · rintro ⟨h1, h2⟩; exact ⟨h1, by rw [h2]; simp⟩
  · rintro ⟨h1, h2⟩; exact ⟨h1, by simpa using h2⟩
/-- It holds if no two rows agree on the left alone. -/
def HoldsAll (c : Nat) (ll : List (List Int)) (m : Int) (L R : Nat) : Prop := ∀ i k, i < k → k < ll.length → agB c ll m (L : Int) i k = true → agB c ll m ((2 ^ R : Nat) : Int) i k = true
theorem pairI_holds (hc : c ≤ 5) (hR : R < c) : (pairI (badB c ll m L R) ll.length).1 < 0 ↔ HoldsAll c ll m L R := by
  rcases pairI_is (badB c ll m L R) ll.length with ⟨h1, -, h⟩ | ⟨i, k, h1, -, h2, h3, h4, -⟩
  · rw [h1]
    refine ⟨fun _ i k hik hk hL => ?_, fun _ => by omega⟩
    have hb := h i k hik hk
    by_cases hr : agB c ll m ((2 ^ R : Nat) : Int) i k = true
    · exact hr
    · rw [(badB_iff hc hR i k).2 ⟨hL, hr⟩] at hb; cases hb
  · rw [h1]
    refine ⟨fun h => by omega, fun h => ?_⟩
    obtain ⟨g1, g2⟩ := (badB_iff hc hR i k).1 h4
    exact (g2 (h i k h2 h3 g1)).elim
/-- The product of the sides' partitions is the partition of both. -/
theorem parL_product (hc : c ≤ 5) (hL : L < 2 ^ c) (hR : R < c) (h40 : ll.length ≤ 40) : proS (parL c ll m L) (parL c ll m (2 ^ R)) (ll.length : Int) = parL c ll m (L ||| 2 ^ R) := by
  have hO : (L ||| 2 ^ R) < 2 ^ c := or_lt ⟨c, by omega⟩ ⟨L, lt32 hc hL⟩ ⟨R, by omega⟩ hL hR
  have hP : 2 ^ R < 2 ^ c := Nat.pow_lt_pow_right (by omega) hR
  have pL := parL_part (m := m) hc hL h40
  have pR := parL_part (m := m) hc hP h40
  rw [proS_eq _ _ _ pL pR, show ((ll.length : Int)).toNat = ll.length by omega]
  unfold prL
  rw [show parL c ll m (L ||| 2 ^ R) = ((List.range ll.length).filter fun a => repB c ll m ((L ||| 2 ^ R : Nat) : Int) a && decide (1 < (clsC c ll m ((L ||| 2 ^ R : Nat) : Int) a).length)).map (clsC c ll m ((L ||| 2 ^ R : Nat) : Int)) from rfl]
  -- where a row has a partner in both, the product's class is its class
  have hpart : ∀ a, a < ll.length → (∃ y, y < ll.length ∧ y ≠ a ∧ agB c ll m ((L ||| 2 ^ R : Nat) : Int) a y = true) →
      (0 ≤ clsI (parL c ll m L) (a : Int) ∧ 0 ≤ clsI (parL c ll m (2 ^ R)) (a : Int)) ∧ ∀ x : Nat, x < ll.length → ((clsI (parL c ll m L) (x : Int) = clsI (parL c ll m L) (a : Int) ∧ clsI (parL c ll m (2 ^ R)) (x : Int) = clsI (parL c ll m (2 ^ R)) (a : Int)) ↔ agB c ll m ((L ||| 2 ^ R : Nat) : Int) a x = true) := by
    rintro a ha ⟨y, hy, hne, hay⟩
    obtain ⟨y1, y2⟩ := (agB_or hc hL hR a y).1 hay
    have i1 := (clsI_in hc hL h40 ha).2 ⟨y, hy, hne, y1⟩
    have i2 := (clsI_in hc hP h40 ha).2 ⟨y, hy, hne, y2⟩
    refine ⟨⟨i1, i2⟩, fun x hx => ?_⟩
    by_cases hxa : x = a
    · subst hxa
      exact ⟨fun _ => agB_trans hc hO hay (agB_symm hc hO hay), fun _ => ⟨rfl, rfl⟩⟩
    · rw [agB_or hc hL hR, ← clsI_same hc hL h40 ha hx (fun e => hxa e.symm), ← clsI_same hc hP h40 ha hx (fun e => hxa e.symm)]
      constructor
      · rintro ⟨h1, h2⟩; exact ⟨⟨h1.symm, i1⟩, h2.symm, i2⟩
      · rintro ⟨⟨h1, -⟩, h2, -⟩; exact ⟨h1.symm, h2.symm⟩
  have hcls : ∀ a, a < ll.length → repB c ll m ((L ||| 2 ^ R : Nat) : Int) a = true → (∃ y, y < ll.length ∧ y ≠ a ∧ agB c ll m ((L ||| 2 ^ R : Nat) : Int) a y = true) → prC (parL c ll m L) (parL c ll m (2 ^ R)) (clsI (parL c ll m L) (a : Int)).toNat (clsI (parL c ll m (2 ^ R)) (a : Int)).toNat = clsC c ll m ((L ||| 2 ^ R : Nat) : Int) a := by
    intro a ha hrep hex
    obtain ⟨⟨i1, i2⟩, hs⟩ := hpart a ha hex
    obtain ⟨y, hy, hne, hay⟩ := hex
    have hya : a < y := by
      by_cases hlt : y < a
      · unfold repB at hrep
        rw [Bool.not_eq_true', List.any_eq_false] at hrep
        exact (hrep y (List.mem_range.2 hlt) (agB_symm hc hO hay)).elim
      · omega
    have hm : a ∈ reps c ll m (L ||| 2 ^ R) := reps_mem.2 ⟨ha, hrep, (clsC_two ha).2 ⟨y, hya, hy, hay⟩⟩
    have hge := clsI_ge (parL c ll m L) (a : Int)
    refine ascH_unique (r := fun x y => x < y) (fun x => by omega) (fun x y z => by omega) _ _ ?_ (clsC_asc _ _) fun x => ?_
    · obtain ⟨-, hcl⟩ := partP_iff.mp pL
      have h4 := (hcl (clsI (parL c ll m L) (a : Int)).toNat (by omega)).2.2.2.1
      unfold prC
      refine List.Pairwise.filter _ ?_
      rw [List.pairwise_iff_getElem]
      intro i j hi hj hij
      have := asc_lt h4 (i := i) (j - i - 1) (by omega)
      rw [show i + (j - i - 1) + 1 = j by omega, ← get_getD _ _ hi, ← get_getD _ _ hj] at this
      exact this
    · rw [prC_mem pL pR i1 i2, rep_mem hc hO hm]
      constructor
      · rintro ⟨h1, h2⟩
        have hx : x ∈ (parL c ll m L).getD (clsI (parL c ll m L) x).toNat [] := (clsI_part pL (by omega)).2 (by omega)
        obtain ⟨e, hmm⟩ := parL_get (c := c) (ll := ll) (m := m) (S := L) (i := (clsI (parL c ll m L) x).toNat) (by omega)
        rw [e] at hx
        obtain ⟨k, k1, rfl, -⟩ := (rep_mem hc hL hmm).1 hx
        exact ⟨k, k1, rfl, (hs k k1).1 ⟨h1, h2⟩⟩
      · rintro ⟨k, k1, rfl, k3⟩
        exact (hs k k1).2 k3
  have hfil : ∀ a, a < ll.length → (rep2 (parL c ll m L) (parL c ll m (2 ^ R)) a && decide (1 < (prC (parL c ll m L) (parL c ll m (2 ^ R)) (clsI (parL c ll m L) (a : Int)).toNat (clsI (parL c ll m (2 ^ R)) (a : Int)).toNat).length)) = (repB c ll m ((L ||| 2 ^ R : Nat) : Int) a && decide (1 < (clsC c ll m ((L ||| 2 ^ R : Nat) : Int) a).length)) := by
    intro a ha
    by_cases hex : ∃ y, y < ll.length ∧ y ≠ a ∧ agB c ll m ((L ||| 2 ^ R : Nat) : Int) a y = true
    · obtain ⟨⟨i1, i2⟩, hs⟩ := hpart a ha hex
      have hrr : rep2 (parL c ll m L) (parL c ll m (2 ^ R)) a = repB c ll m ((L ||| 2 ^ R : Nat) : Int) a := by
        unfold rep2 repB
        rw [decide_eq_true ⟨i1, i2⟩, Bool.true_and]
        congr 1
        rw [Bool.eq_iff_iff, List.any_eq_true, List.any_eq_true]
        constructor
        · rintro ⟨b, hb, h⟩
          exact ⟨b, hb, agB_symm hc hO ((hs b (by have := List.mem_range.1 hb; omega)).1 (of_decide_eq_true h))⟩
        · rintro ⟨b, hb, h⟩
          exact ⟨b, hb, decide_eq_true ((hs b (by have := List.mem_range.1 hb; omega)).2 (agB_symm hc hO h))⟩
      rw [hrr]
      cases hrep : repB c ll m ((L ||| 2 ^ R : Nat) : Int) a with
      | false => rfl
      | true => rw [hcls a ha hrep hex]
    · have h2 : ¬ 1 < (clsC c ll m ((L ||| 2 ^ R : Nat) : Int) a).length := fun h => by
        obtain ⟨k, k1, k2, k3⟩ := (clsC_two ha).1 h
        exact hex ⟨k, k2, by omega, k3⟩
      rw [decide_eq_false h2, Bool.and_false]
      cases hr2 : rep2 (parL c ll m L) (parL c ll m (2 ^ R)) a with
      | false => rfl
      | true =>
        rw [Bool.true_and, decide_eq_false_iff_not]
        intro hlen
        have hr2' := hr2
        unfold rep2 at hr2'
        rw [Bool.and_eq_true, decide_eq_true_eq] at hr2'
        obtain ⟨⟨i1, i2⟩, -⟩ := hr2'
        have hmemx : ∀ x, x ∈ prC (parL c ll m L) (parL c ll m (2 ^ R)) (clsI (parL c ll m L) (a : Int)).toNat (clsI (parL c ll m (2 ^ R)) (a : Int)).toNat → x = (a : Int) := by
          intro x hx
          obtain ⟨h1, h3⟩ := (prC_mem pL pR i1 i2 x).1 hx
          have hge := clsI_ge (parL c ll m L) x
          have hxm : x ∈ (parL c ll m L).getD (clsI (parL c ll m L) x).toNat [] := (clsI_part pL (by omega)).2 (by omega)
          obtain ⟨e, hmm⟩ := parL_get (c := c) (ll := ll) (m := m) (S := L) (i := (clsI (parL c ll m L) x).toNat) (by omega)
          rw [e] at hxm
          obtain ⟨k, k1, rfl, -⟩ := (rep_mem hc hL hmm).1 hxm
          by_cases hka : k = a
          · rw [hka]
          · exact (hex ⟨k, k1, hka, (agB_or hc hL hR a k).2 ⟨(clsI_same hc hL h40 ha k1 (fun e => hka e.symm)).1 ⟨h1.symm, i1⟩, (clsI_same hc hP h40 ha k1 (fun e => hka e.symm)).1 ⟨h3.symm, i2⟩⟩⟩).elim
        have hasc : (prC (parL c ll m L) (parL c ll m (2 ^ R)) (clsI (parL c ll m L) (a : Int)).toNat (clsI (parL c ll m (2 ^ R)) (a : Int)).toNat).Pairwise (fun x y => x < y) := by
          obtain ⟨-, hcl⟩ := partP_iff.mp pL
          have hge := clsI_ge (parL c ll m L) (a : Int)
          have h4 := (hcl (clsI (parL c ll m L) (a : Int)).toNat (by omega)).2.2.2.1
          unfold prC
          refine List.Pairwise.filter _ ?_
          rw [List.pairwise_iff_getElem]
          intro i j hi hj hij
          have := asc_lt h4 (i := i) (j - i - 1) (by omega)
          rw [show i + (j - i - 1) + 1 = j by omega, ← get_getD _ _ hi, ← get_getD _ _ hj] at this
          exact this
        match hq : prC (parL c ll m L) (parL c ll m (2 ^ R)) (clsI (parL c ll m L) (a : Int)).toNat (clsI (parL c ll m (2 ^ R)) (a : Int)).toNat, hlen with
        | x :: y :: t, _ =>
          rw [hq] at hmemx hasc
          have hx := hmemx x (by simp)
          have hy := hmemx y (by simp)
          rw [List.pairwise_cons] at hasc
          have := hasc.1 y (by simp)
          omega
  rw [List.filter_congr (fun a ha => hfil a (List.mem_range.1 ha))]
  refine List.map_congr_left fun a ha => ?_
  have hm : a ∈ reps c ll m (L ||| 2 ^ R) := ha
  obtain ⟨h1, h2, h3⟩ := reps_mem.1 hm
  obtain ⟨k, k1, k2, k3⟩ := (clsC_two h1).1 h3
  exact hcls a h1 h2 ⟨k, k2, by omega, k3⟩
end
end Go.Proofs.YtlecfkfcjhliiaaGreat
