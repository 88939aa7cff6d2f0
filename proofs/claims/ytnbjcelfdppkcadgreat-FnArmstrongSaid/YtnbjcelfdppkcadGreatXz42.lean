/- Texts of this claim, merged: SidM. Conditions: as stated. -/
import Derived.Test.YtnbjcelfdppkcadGreatXz41
namespace Go.Proofs.YtnbjcelfdppkcadGreat
open Go.RowKit

/-- The rows told apart. -/
def tld (m : Int) (ll : List (List Int)) : List (List Int) := (List.range ll.length).map fun i => tapR m i (ll.getD i [])
theorem tld_get (m : Int) {ll : List (List Int)} {i : Nat} (hi : i < ll.length) : (tld m ll).getD i [] = tapR m i (ll.getD i []) := by
  unfold tld
  rw [List.getD_eq_getElem?_getD, List.getElem?_map, List.getElem?_range hi]; rfl
/-- The record of the left side of row i, and its sides. -/
def kyL (m : Int) (ll : List (List Int)) (L i : Nat) : List Int := pad5 (recC (tld m ll) L i)
def kyS (m : Int) (ll : List (List Int)) (L R i : Nat) : List Int := kyL m ll L i ++ [((tld m ll).getD i []).getD R 0]
theorem kyL_len (m : Int) (ll : List (List Int)) (L i : Nat) : (kyL m ll L i).length = 5 := pad5_len _
theorem kyS_take (m : Int) (ll : List (List Int)) (L R i : Nat) : (kyS m ll L R i).take 5 = kyL m ll L i := by
  unfold kyS
  rw [List.take_append_of_le_length (by rw [kyL_len]; omega), List.take_of_length_le (by rw [kyL_len]; omega)]
theorem kyS_iff {m : Int} {ll : List (List Int)} {L R i k : Nat} : kyS m ll L R i = kyS m ll L R k ↔ kyL m ll L i = kyL m ll L k ∧ ((tld m ll).getD i []).getD R 0 = ((tld m ll).getD k []).getD R 0 := by
  unfold kyS
  constructor
  · intro h
    obtain ⟨h1, h2⟩ := List.append_inj h (by rw [kyL_len, kyL_len])
    exact ⟨h1, by simpa using h2⟩
  · rintro ⟨h1, h2⟩; rw [h1, h2]
def sdL (m : Int) (ll : List (List Int)) (L R n : Nat) : List (List Int) := (List.range n).map (kyS m ll L R)
theorem sdL_len (m : Int) (ll : List (List Int)) (L R n : Nat) : (sdL m ll L R n).length = n := by unfold sdL; rw [List.length_map, List.length_range]
theorem sdL_get (m : Int) (ll : List (List Int)) (L R n : Nat) {i : Nat} (hi : i < n) : (sdL m ll L R n).getD i [] = kyS m ll L R i := by
  unfold sdL
  rw [List.getD_eq_getElem?_getD, List.getElem?_map, List.getElem?_range hi]; rfl
theorem sdL_succ (m : Int) (ll : List (List Int)) (L R n : Nat) : sdL m ll L R (n + 1) = sdL m ll L R n ++ [kyS m ll L R n] := by
  unfold sdL
  rw [List.range_succ, List.map_append]; rfl
theorem tap_eq {m : Int} (hm : m = 0 ∨ m = 1) {i k : Nat} (hik : i ≠ k) {a b : Int} (ha : -1 ≤ a) (hb : -1 ≤ b) : tapC m i a = tapC m k b ↔ eqC m a b = true := by
  unfold tapC
  rcases hm with rfl | rfl
  · have e0 : ∀ x y : Int, eqC 0 x y = decide (x = y) := fun x y => by unfold eqC; simp
    simp only [e0, decide_eq_true_eq, if_true]
  · have e1 : ∀ x y : Int, eqC 1 x y = decide (x = y ∧ x ≠ -1) := fun x y => by unfold eqC; simp
    simp only [e1, decide_eq_true_eq, true_and]
    by_cases h1 : a = -1
    · rw [if_neg (fun h => h h1)]
      by_cases h2 : b = -1
      · rw [if_neg (fun h => h h2)]
        constructor
        · intro h; omega
        · rintro ⟨-, h⟩; exact absurd h1 h
      · rw [if_pos h2]
        constructor
        · intro h; omega
        · rintro ⟨-, h⟩; exact absurd h1 h
    · rw [if_pos h1]
      by_cases h2 : b = -1
      · rw [if_neg (fun h => h h2)]
        constructor
        · intro h; omega
        · rintro ⟨h, -⟩; omega
      · rw [if_pos h2]
        constructor
        · intro h; exact ⟨h, h1⟩
        · rintro ⟨h, -⟩; exact h
section
variable {c : Int} {ll : List (List Int)} {m : Int} {L R : Nat}
theorem cell_bd (hT : isT c ll = true) {i j : Nat} (hi : i < ll.length) (hj : j < c.toNat) : -1 ≤ (ll.getD i []).getD j 0 ∧ (ll.getD i []).getD j 0 ≤ 40 := by
  obtain ⟨c1, c5, -⟩ := isT_bd hT
  obtain ⟨hl, hb⟩ := isT_row hT hi
  exact hb _ (by rw [← get_getD _ j (by omega)]; exact List.getElem_mem _)
theorem tld_cell (hT : isT c ll = true) {i j : Nat} (hi : i < ll.length) (hj : j < c.toNat) : ((tld m ll).getD i []).getD j 0 = tapC m i ((ll.getD i []).getD j 0) := by
  obtain ⟨c1, c5, -⟩ := isT_bd hT
  obtain ⟨hl, -⟩ := isT_row hT hi
  rw [tld_get m hi, tapR_get m i _ j (by omega)]
theorem ky_agree (hT : isT c ll = true) (hm : m = 0 ∨ m = 1) (hL : L < 2 ^ c.toNat) {i k : Nat} (hik : i ≠ k) (hi : i < ll.length) (hk : k < ll.length) : kyL m ll L i = kyL m ll L k ↔ agB c.toNat ll m (L : Int) i k = true := by
  obtain ⟨c1, c5, -⟩ := isT_bd hT
  have h32 := pow_lt32 (by omega) hL
  unfold kyL
  rw [rec_eq h32, agB_iff c.toNat ll m L i k (by omega) hL]
  constructor
  · intro h j hj hb
    have := h j (by omega) hb
    rw [tld_cell hT hi hj, tld_cell hT hk hj, tap_eq hm hik (cell_bd hT hi hj).1 (cell_bd hT hk hj).1] at this
    exact this
  · intro h j hj hb
    have hjc := bit_low ⟨c.toNat, by omega⟩ ⟨L, h32⟩ ⟨j, hj⟩ hL hb
    simp only at hjc
    rw [tld_cell hT hi hjc, tld_cell hT hk hjc, tap_eq hm hik (cell_bd hT hi hjc).1 (cell_bd hT hk hjc).1]
    exact h j hjc hb
theorem ky_right (hT : isT c ll = true) (hm : m = 0 ∨ m = 1) (hR : R < c.toNat) {i k : Nat} (hik : i ≠ k) (hi : i < ll.length) (hk : k < ll.length) :
    ((tld m ll).getD i []).getD R 0 = ((tld m ll).getD k []).getD R 0 ↔ bitB (agrTo m (ll.getD i []) (ll.getD k []) c.toNat).toNat R = true := by
  obtain ⟨c1, c5, -⟩ := isT_bd hT
  obtain ⟨X, hX, -, -, hb⟩ := agrTo_bit m (ll.getD i []) (ll.getD k []) c.toNat (by omega)
  rw [hX, show ((X : Int)).toNat = X from rfl, hb R (by omega), decide_eq_true hR, Bool.true_and, tld_cell hT hi hR, tld_cell hT hk hR]
  exact tap_eq hm hik (cell_bd hT hi hR).1 (cell_bd hT hk hR).1
theorem vio_bad (hT : isT c ll = true) (hm : m = 0 ∨ m = 1) (hL : L < 2 ^ c.toNat) (hR : R < c.toNat) {i k : Nat} (hik : i < k) (hk : k < ll.length) : vioB (sdL m ll L R ll.length) i k = badB c.toNat ll m L R i k := by
  unfold vioB badB
  rw [sdL_get m ll L R _ (by omega), sdL_get m ll L R _ hk, kyS_take, kyS_take]
  have h1 := ky_agree hT hm hL (show i ≠ k by omega) (by omega) hk
  have h2 := ky_right hT hm hR (show i ≠ k by omega) (by omega) hk
  cases ha : agB c.toNat ll m (L : Int) i k with
  | false =>
    rw [ha] at h1
    rw [decide_eq_false (fun e => Bool.false_ne_true (h1.1 e))]; rfl
  | true =>
    rw [ha] at h1
    have e1 := h1.2 rfl
    rw [decide_eq_true e1, Bool.true_and, Bool.true_and]
    congr 1
    rw [Bool.eq_iff_iff, decide_eq_true_iff, kyS_iff]
    exact ⟨fun e => h2.1 e.2, fun e => ⟨e1, h2.2 e⟩⟩
theorem PairIs.congr {bad bad' : Nat → Nat → Bool} {N : Nat} (e : ∀ i k, i < k → k < N → bad i k = bad' i k) {a b : Int} (h : PairIs bad N a b) : PairIs bad' N a b := by
  rcases h with ⟨ha, hb, h⟩ | ⟨i, k, ha, hb, h1, h2, h3, h4, h5⟩
  · exact .inl ⟨ha, hb, fun i k hik hk => by rw [← e i k hik hk]; exact h i k hik hk⟩
  · exact .inr ⟨i, k, ha, hb, h1, h2, by rw [← e i k h1 h2]; exact h3, fun i' k' g1 g2 g3 => by rw [← e i' k' g2 g3]; exact h4 i' k' g1 g2 g3, fun k' g1 g2 => by rw [← e i k' g1 (by omega)]; exact h5 k' g1 g2⟩
theorem vio_pair (hT : isT c ll = true) (hm : m = 0 ∨ m = 1) (hL : L < 2 ^ c.toNat) (hR : R < c.toNat) : pairI (vioB (sdL m ll L R ll.length)) ll.length = pairI (badB c.toNat ll m L R) ll.length := by
  have h := (pairI_is (vioB (sdL m ll L R ll.length)) ll.length).congr (bad' := badB c.toNat ll m L R) (fun i k h1 h2 => vio_bad hT hm hL hR h1 h2)
  exact (pairI_eq h).symm
theorem tap_bd {i : Nat} (hi : i ≤ 40) {x : Int} (h : -1 ≤ x ∧ x ≤ 40) : -42 ≤ tapC m i x ∧ tapC m i x ≤ 40 := by
  unfold tapC
  split <;> omega
theorem kyL_r5 (hT : isT c ll = true) (hL : L < 2 ^ c.toNat) {i : Nat} (hi : i < ll.length) : R5 (kyL m ll L i) := by
  obtain ⟨c1, c5, h40⟩ := isT_bd hT
  have h32 := pow_lt32 (by omega) hL
  refine ⟨kyL_len _ _ _ _, fun j hj => Go.WalkArith.wf_i64 ?_⟩
  unfold kyL
  rw [← get_getD (pad5 _) j (by rw [pad5_len]; exact hj), pad5_get]
  by_cases hjl : j < (recC (tld m ll) L i).length
  · have hmem : (recC (tld m ll) L i).getD j 0 ∈ recC (tld m ll) L i := by rw [← get_getD _ j hjl]; exact List.getElem_mem _
    unfold recC at hmem
    obtain ⟨k, hk, e⟩ := List.mem_map.1 hmem
    obtain ⟨q, h1, h2, rfl⟩ := (mem_mems h32).1 hk
    have hqc := bit_low ⟨c.toNat, by omega⟩ ⟨L, h32⟩ ⟨q, h1⟩ hL h2
    simp only at hqc
    rw [show ((q : Int)).toNat = q from rfl, tld_cell hT hi hqc] at e
    have := tap_bd (m := m) (i := i) (by omega) (cell_bd hT hi hqc)
    unfold recC
    omega
  · rw [getD_end _ j (by omega)]; omega
theorem kyS_s6 (hT : isT c ll = true) (hL : L < 2 ^ c.toNat) (hR : R < c.toNat) {i : Nat} (hi : i < ll.length) : S6 (kyS m ll L R i) := by
  obtain ⟨c1, c5, h40⟩ := isT_bd hT
  have h5 := kyL_r5 (m := m) hT hL hi
  refine ⟨by unfold kyS; rw [List.length_append, kyL_len]; rfl, fun j hj => ?_⟩
  unfold kyS
  rw [getD_app]
  split
  · rw [tld_cell hT hi hR]
    have := tap_bd (m := m) (i := i) (by omega) (cell_bd hT hi hR)
    exact Go.WalkArith.wf_i64 (by omega)
  · next h =>
    rw [kyL_len] at h
    exact h5.2 j (by omega)
end
end Go.Proofs.YtnbjcelfdppkcadGreat
