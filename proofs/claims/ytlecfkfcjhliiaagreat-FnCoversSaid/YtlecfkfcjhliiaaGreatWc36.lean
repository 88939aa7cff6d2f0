/- Texts of this claim, merged: SidM, DepE, ImC, DdA. Conditions: as stated. -/
import Derived.Test.YtlecfkfcjhliiaaGreatWc35
import Derived.Test.YtlecfkfcjhliiaaGreatWc23
import Derived.Test.YtlecfkfcjhliiaaGreatWc5
import Derived.Test.YtlecfkfcjhliiaaGreatWc32
import Derived.Lib.OthersKept
namespace Go.Proofs.YtlecfkfcjhliiaaGreat
open Go.RowKit

/-- The rows told apart. -/
def tld (m : Int) (ll : List (List Int)) : List (List Int) := (List.range ll.length).map fun i => tapR m i (ll.getD i [])
theorem tld_get (m : Int) {ll : List (List Int)} {i : Nat} (hi : i < ll.length) : (tld m ll).getD i [] = tapR m i (ll.getD i []) := by
  unfold tld
  rw [List.getD_eq_getElem?_getD, List.getElem?_map, List.getElem?_range hi]; rfl
/-- The record of the left side of row i, and its sides. -/
def kyL (m : Int) (ll : List (List Int)) (L i : Nat) : List Int := pad5 (recC (tld m ll) L i)
def kyS (m : Int) (ll : List (List Int)) (L R i : Nat) : List Int := kyL m ll L i ++ [((tld m ll).getD i []).getD R 0]
theorem kyL_len (m : Int) (ll : List (List Int)) (L i : Nat) : (kyL m ll L i).length = 5 := pad5_len _
theorem kyS_take (m : Int) (ll : List (List Int)) (L R i : Nat) : (kyS m ll L R i).take 5 = kyL m ll L i := by
  unfold kyS
  rw [List.take_append_of_le_length (by rw [kyL_len]; omega), List.take_of_length_le (by rw [kyL_len]; omega)]
theorem kyS_iff {m : Int} {ll : List (List Int)} {L R i k : Nat} : kyS m ll L R i = kyS m ll L R k ↔ kyL m ll L i = kyL m ll L k ∧ ((tld m ll).getD i []).getD R 0 = ((tld m ll).getD k []).getD R 0 := by
  unfold kyS
  constructor
  · intro h
    obtain ⟨h1, h2⟩ := List.append_inj h (by rw [kyL_len, kyL_len])
    exact ⟨h1, by simpa using h2⟩
  · rintro ⟨h1, h2⟩; rw [h1, h2]
def sdL (m : Int) (ll : List (List Int)) (L R n : Nat) : List (List Int) := (List.range n).map (kyS m ll L R)
theorem sdL_len (m : Int) (ll : List (List Int)) (L R n : Nat) : (sdL m ll L R n).length = n := by unfold sdL; rw [List.length_map, List.length_range]
theorem sdL_get (m : Int) (ll : List (List Int)) (L R n : Nat) {i : Nat} (hi : i < n) : (sdL m ll L R n).getD i [] = kyS m ll L R i := by
  unfold sdL
  rw [List.getD_eq_getElem?_getD, List.getElem?_map, List.getElem?_range hi]; rfl
theorem sdL_succ (m : Int) (ll : List (List Int)) (L R n : Nat) : sdL m ll L R (n + 1) = sdL m ll L R n ++ [kyS m ll L R n] := by
  unfold sdL
  rw [List.range_succ, List.map_append]; rfl
theorem tap_eq {m : Int} (hm : m = 0 ∨ m = 1) {i k : Nat} (hik : i ≠ k) {a b : Int} (ha : -1 ≤ a) (hb : -1 ≤ b) : tapC m i a = tapC m k b ↔ eqC m a b = true := by
  unfold tapC
  rcases hm with rfl | rfl
  · have e0 : ∀ x y : Int, eqC 0 x y = decide (x = y) := fun x y => by unfold eqC; simp
    simp only [e0, decide_eq_true_eq, if_true]
  · have e1 : ∀ x y : Int, eqC 1 x y = decide (x = y ∧ x ≠ -1) := fun x y => by unfold eqC; simp
    simp only [e1, decide_eq_true_eq, true_and]
    by_cases h1 : a = -1
    · rw [if_neg (fun h => h h1)]
      by_cases h2 : b = -1
      · rw [if_neg (fun h => h h2)]
        constructor
        · intro h; omega
        · rintro ⟨-, h⟩; exact absurd h1 h
      · rw [if_pos h2]
        constructor
        · intro h; omega
        · rintro ⟨-, h⟩; exact absurd h1 h
    · rw [if_pos h1]
      by_cases h2 : b = -1
      · rw [if_neg (fun h => h h2)]
        constructor
        · intro h; omega
        · rintro ⟨h, -⟩; omega
      · rw [if_pos h2]
        constructor
        · intro h; exact ⟨h, h1⟩
        · rintro ⟨h, -⟩; exact h
section
variable {c : Int} {ll : List (List Int)} {m : Int} {L R : Nat}
theorem cell_bd (hT : isT c ll = true) {i j : Nat} (hi : i < ll.length) (hj : j < c.toNat) : -1 ≤ (ll.getD i []).getD j 0 ∧ (ll.getD i []).getD j 0 ≤ 40 := by
  obtain ⟨c1, c5, -⟩ := isT_bd hT
  obtain ⟨hl, hb⟩ := isT_row hT hi
  exact hb _ (by rw [← get_getD _ j (by omega)]; exact List.getElem_mem _)
theorem tld_cell (hT : isT c ll = true) {i j : Nat} (hi : i < ll.length) (hj : j < c.toNat) : ((tld m ll).getD i []).getD j 0 = tapC m i ((ll.getD i []).getD j 0) := by
  obtain ⟨c1, c5, -⟩ := isT_bd hT
  obtain ⟨hl, -⟩ := isT_row hT hi
  rw [tld_get m hi, tapR_get m i _ j (by omega)]
theorem ky_agree (hT : isT c ll = true) (hm : m = 0 ∨ m = 1) (hL : L < 2 ^ c.toNat) {i k : Nat} (hik : i ≠ k) (hi : i < ll.length) (hk : k < ll.length) : kyL m ll L i = kyL m ll L k ↔ agB c.toNat ll m (L : Int) i k = true := by
  obtain ⟨c1, c5, -⟩ := isT_bd hT
  have h32 := pow_lt32 (by omega) hL
  unfold kyL
  rw [rec_eq h32, agB_iff c.toNat ll m L i k (by omega) hL]
  constructor
  · intro h j hj hb
    have := h j (by omega) hb
    rw [tld_cell hT hi hj, tld_cell hT hk hj, tap_eq hm hik (cell_bd hT hi hj).1 (cell_bd hT hk hj).1] at this
    exact this
  · intro h j hj hb
    have hjc := bit_low ⟨c.toNat, by omega⟩ ⟨L, h32⟩ ⟨j, hj⟩ hL hb
    simp only at hjc
    rw [tld_cell hT hi hjc, tld_cell hT hk hjc, tap_eq hm hik (cell_bd hT hi hjc).1 (cell_bd hT hk hjc).1]
    exact h j hjc hb
theorem ky_right (hT : isT c ll = true) (hm : m = 0 ∨ m = 1) (hR : R < c.toNat) {i k : Nat} (hik : i ≠ k) (hi : i < ll.length) (hk : k < ll.length) :
    ((tld m ll).getD i []).getD R 0 = ((tld m ll).getD k []).getD R 0 ↔ bitB (agrTo m (ll.getD i []) (ll.getD k []) c.toNat).toNat R = true := by
  obtain ⟨c1, c5, -⟩ := isT_bd hT
  obtain ⟨X, hX, -, -, hb⟩ := agrTo_bit m (ll.getD i []) (ll.getD k []) c.toNat (by omega)
  rw [hX, show ((X : Int)).toNat = X from rfl, hb R (by omega), decide_eq_true hR, Bool.true_and, tld_cell hT hi hR, tld_cell hT hk hR]
  exact tap_eq hm hik (cell_bd hT hi hR).1 (cell_bd hT hk hR).1
theorem vio_bad (hT : isT c ll = true) (hm : m = 0 ∨ m = 1) (hL : L < 2 ^ c.toNat) (hR : R < c.toNat) {i k : Nat} (hik : i < k) (hk : k < ll.length) : vioB (sdL m ll L R ll.length) i k = badB c.toNat ll m L R i k := by
  unfold vioB badB
  rw [sdL_get m ll L R _ (by omega), sdL_get m ll L R _ hk, kyS_take, kyS_take]
  have h1 := ky_agree hT hm hL (show i ≠ k by omega) (by omega) hk
  have h2 := ky_right hT hm hR (show i ≠ k by omega) (by omega) hk
  cases ha : agB c.toNat ll m (L : Int) i k with
  | false =>
    rw [ha] at h1
    rw [decide_eq_false (fun e => Bool.false_ne_true (h1.1 e))]; rfl
  | true =>
    rw [ha] at h1
    have e1 := h1.2 rfl
    rw [decide_eq_true e1, Bool.true_and, Bool.true_and]
    congr 1
    rw [Bool.eq_iff_iff, decide_eq_true_iff, kyS_iff]
    exact ⟨fun e => h2.1 e.2, fun e => ⟨e1, h2.2 e⟩⟩
theorem PairIs.congr {bad bad' : Nat → Nat → Bool} {N : Nat} (e : ∀ i k, i < k → k < N → bad i k = bad' i k) {a b : Int} (h : PairIs bad N a b) : PairIs bad' N a b := by
  rcases h with ⟨ha, hb, h⟩ | ⟨i, k, ha, hb, h1, h2, h3, h4, h5⟩
  · exact .inl ⟨ha, hb, fun i k hik hk => by rw [← e i k hik hk]; exact h i k hik hk⟩
  · exact .inr ⟨i, k, ha, hb, h1, h2, by rw [← e i k h1 h2]; exact h3, fun i' k' g1 g2 g3 => by rw [← e i' k' g2 g3]; exact h4 i' k' g1 g2 g3, fun k' g1 g2 => by rw [← e i k' g1 (by omega)]; exact h5 k' g1 g2⟩
theorem vio_pair (hT : isT c ll = true) (hm : m = 0 ∨ m = 1) (hL : L < 2 ^ c.toNat) (hR : R < c.toNat) : pairI (vioB (sdL m ll L R ll.length)) ll.length = pairI (badB c.toNat ll m L R) ll.length := by
  have h := (pairI_is (vioB (sdL m ll L R ll.length)) ll.length).congr (bad' := badB c.toNat ll m L R) (fun i k h1 h2 => vio_bad hT hm hL hR h1 h2)
  exact (pairI_eq h).symm
theorem tap_bd {i : Nat} (hi : i ≤ 40) {x : Int} (h : -1 ≤ x ∧ x ≤ 40) : -42 ≤ tapC m i x ∧ tapC m i x ≤ 40 := by
  unfold tapC
  split <;> omega
theorem kyL_r5 (hT : isT c ll = true) (hL : L < 2 ^ c.toNat) {i : Nat} (hi : i < ll.length) : R5 (kyL m ll L i) := by
  obtain ⟨c1, c5, h40⟩ := isT_bd hT
  have h32 := pow_lt32 (by omega) hL
  refine ⟨kyL_len _ _ _ _, fun j hj => Go.WalkArith.wf_i64 ?_⟩
  unfold kyL
  rw [← get_getD (pad5 _) j (by rw [pad5_len]; exact hj), pad5_get]
  by_cases hjl : j < (recC (tld m ll) L i).length
  · have hmem : (recC (tld m ll) L i).getD j 0 ∈ recC (tld m ll) L i := by rw [← get_getD _ j hjl]; exact List.getElem_mem _
    unfold recC at hmem
    obtain ⟨k, hk, e⟩ := List.mem_map.1 hmem
    obtain ⟨q, h1, h2, rfl⟩ := (mem_mems h32).1 hk
    have hqc := bit_low ⟨c.toNat, by omega⟩ ⟨L, h32⟩ ⟨q, h1⟩ hL h2
    simp only at hqc
    rw [show ((q : Int)).toNat = q from rfl, tld_cell hT hi hqc] at e
    have := tap_bd (m := m) (i := i) (by omega) (cell_bd hT hi hqc)
    unfold recC
    omega
  · rw [getD_end _ j (by omega)]; omega
theorem kyS_s6 (hT : isT c ll = true) (hL : L < 2 ^ c.toNat) (hR : R < c.toNat) {i : Nat} (hi : i < ll.length) : S6 (kyS m ll L R i) := by
  obtain ⟨c1, c5, h40⟩ := isT_bd hT
  have h5 := kyL_r5 (m := m) hT hL hi
  refine ⟨by unfold kyS; rw [List.length_append, kyL_len]; rfl, fun j hj => ?_⟩
  unfold kyS
  rw [getD_app]
  split
  · rw [tld_cell hT hi hR]
    have := tap_bd (m := m) (i := i) (by omega) (cell_bd hT hi hR)
    exact Go.WalkArith.wf_i64 (by omega)
  · next h =>
    rw [kyL_len] at h
    exact h5.2 j (by omega)
end
end Go.Proofs.YtlecfkfcjhliiaaGreat
namespace Go.Proofs.YtlecfkfcjhliiaaGreat
open Go.RowKit

theorem fmtA_empty (x : Int) : (fmtA x).toList.isEmpty = !valB x := by
  rw [ByteArray.toList_eq]
  unfold fmtA valB
  by_cases h : 0 ≤ x ∧ x ≤ 31
  · rw [if_pos h, decide_eq_true h]
    split
    · rfl
    · next hl =>
      cases hq : lets x.toNat 5 with
      | nil => exact absurd hq hl
      | cons a b => rfl
  · rw [if_neg h, decide_eq_false h]; rfl
/-- The text of a dependency, empty if it has none. -/
def fmtD (l r : Int) : ByteArray := if valB l = true ∧ 0 ≤ r ∧ r ≤ 4 then fmtA l ++ ⟨#[62]⟩ ++ fmtA (2 ^ r.toNat : Nat) else ⟨#[]⟩
theorem fmtA_size (x : Int) : (fmtA x).size ≤ 5 := by
  rw [str_size]
  unfold fmtA
  split
  · split
    · decide
    · have := lets_len x.toNat 5; simpa using this
  · decide
end Go.Proofs.YtlecfkfcjhliiaaGreat
namespace Go.Proofs.YtlecfkfcjhliiaaGreat
open Go.RowKit

theorem info8s : (Tryz.prog.info? 5).map (fun i => (i.zero, i.size, i.bytes)) = some (some (.int .u8 0), 1, 1) := by kernel_rfl
/-- The letters of columns. -/
def ltr (l : List Int) : List UInt8 := l.map fun i => UInt8.ofNat (65 + i).toNat
theorem ltr_take {l : List Int} {k : Nat} (h : k < l.length) : ltr (l.take (k + 1)) = ltr (l.take k) ++ [UInt8.ofNat (65 + l[k]).toNat] := by
  unfold ltr; rw [List.take_succ_eq_append_getElem h, List.map_append]; rfl
theorem ltr_len (l : List Int) (k : Nat) : (ltr (l.take k)).length ≤ k := by
  unfold ltr; rw [List.length_map]; exact List.length_take_le _ _
theorem ltr_fmt : ∀ X : Fin 32, X.val ≠ 0 → (⟨(ltr (mems ((X.val : Nat) : Int))).toArray⟩ : ByteArray) = fmtA ((X.val : Nat) : Int) := by
  intro X h
  apply str_ext
  revert X
  decide +kernel
theorem own_apart {w : World} {B B' : Nat} {v v' : Value} {l : List UInt8} {l' : List Int} (h : OwnB w B 5 v l) (h' : OwnI w B' v' l') : ∀ g, v.ownBlock = some g → v'.ownBlock ≠ some g := by
  intro g hg hg'
  rcases h.2 with ⟨rfl, _⟩ | ⟨g1, cap, cur, rfl, hB, hgg, rest⟩
  · cases hg
  · rcases h'.2 with ⟨rfl, _⟩ | ⟨g2, cap2, cur2, rfl, hB2, hgg2, rest2⟩
    · cases hg'
    · simp [Value.ownBlock] at hg hg'
      subst hg hg'
      rw [hgg] at hgg2
      simp at hgg2
end Go.Proofs.YtlecfkfcjhliiaaGreat
namespace Go.Proofs.YtlecfkfcjhliiaaGreat
open Go.RowKit

theorem isA_cols {n x : Int} (h : isA n x = true) : 0 ≤ n ∧ n ≤ 5 := by unfold isA at h; rw [decide_eq_true_iff] at h; exact h.1
theorem depB_eq (n l r : Int) : depB n l r = (isA n l && (decide (0 ≤ r) && decide (r < n))) := by
  rw [Bool.eq_iff_iff, depB_iff, Bool.and_eq_true, Bool.and_eq_true, decide_eq_true_iff, decide_eq_true_iff]
  constructor
  · rintro ⟨h1, h2, h3, h4⟩; exact ⟨h2, h3, by omega⟩
  · rintro ⟨h1, h2, h3⟩
    have hn := isA_cols h1
    exact ⟨by omega, h1, h2, by omega⟩
set_option maxHeartbeats 800000 in
theorem implIsDep_all (n l r : Int) (_w1 : (Lit.int .i64 l).wf = true) (w : World) :
    Calls Tryz.prog 73 #[.int .i64 n, .agg #[.int .i64 l, .int .i64 r]] w fun e w' => e = .returned (.bool (depB n l r)) ∧ Below w.heap.size w w' := by
  have hb1 := (Below.refl w.heap.size w).alloc (Nat.le_refl _) (.cells #[.int .i64 l, .int .i64 r] 37)
  obtain ⟨c0, c1⟩ := zero2 w 37 (.int .i64 l) (.int .i64 r)
  have HBX := Lib.hid (fun w' (hb : Below (w.alloc (.cells #[.int .i64 l, .int .i64 r] 37)).heap.size (w.alloc (.cells #[.int .i64 l, .int .i64 r] 37)) w') => And.intro (hb1.trans (hb.mono hb1.size)) (box2 hb))
  have HA := Lib.hid (implIsA_any n l (wf_i64_ge _w1) (wf_i64_le _w1))
  have hE := depB_eq n l r
  cases ha : isA n l with
  | false =>
    rw [ha] at HA hE
    have HE : Hid (depB n l r = false) := Lib.hid (by rw [hE]; rfl)
    clear hE ha
    go_enter Tryz.func73, Tryz.ntmps73
    go_wp2_with fail
    refine (HA.out _).mono ?_
    rintro e w1 ⟨rfl, b1⟩
    obtain ⟨hb2, d0, d1⟩ := HBX.out _ b1
    clear b1 c0 c1
    go_wp2_with fail
    go_ret
    exact ⟨ret_b HE.out, hb2⟩
  | true =>
    rw [ha] at HA hE
    rw [Bool.true_and] at hE
    by_cases h0 : 0 ≤ r
    · by_cases h1 : r < n
      · have HE : Hid (depB n l r = true) := Lib.hid (by rw [hE, decide_eq_true h0, decide_eq_true h1]; rfl)
        clear hE ha
        go_enter Tryz.func73, Tryz.ntmps73
        go_wp2_with fail
        refine (HA.out _).mono ?_
        rintro e w1 ⟨rfl, b1⟩
        obtain ⟨hb2, d0, d1⟩ := HBX.out _ b1
        clear b1 c0 c1
        go_wp2_with fail
        go_ret
        exact ⟨ret_b HE.out, hb2⟩
      · have HE : Hid (depB n l r = false) := Lib.hid (by rw [hE, decide_eq_false h1]; simp)
        clear hE ha
        go_enter Tryz.func73, Tryz.ntmps73
        go_wp2_with fail
        refine (HA.out _).mono ?_
        rintro e w1 ⟨rfl, b1⟩
        obtain ⟨hb2, d0, d1⟩ := HBX.out _ b1
        clear b1 c0 c1
        go_wp2_with fail
        go_ret
        exact ⟨ret_b (by rw [HE.out, decide_eq_false (Int.not_lt.2 h1)]), hb2⟩
    · have HE : Hid (depB n l r = false) := Lib.hid (by rw [hE, decide_eq_false h0]; rfl)
      clear hE ha
      go_enter Tryz.func73, Tryz.ntmps73
      go_wp2_with fail
      refine (HA.out _).mono ?_
      rintro e w1 ⟨rfl, b1⟩
      obtain ⟨hb2, d0, d1⟩ := HBX.out _ b1
      clear b1 c0 c1
      go_wp2_with fail
      go_ret
      exact ⟨ret_b HE.out, hb2⟩
theorem implIsDep_any (n l r : Int) (_w0 : (Lit.int .i64 n).wf = true) (_w1 : (Lit.int .i64 l).wf = true) (_w2 : (Lit.int .i64 r).wf = true) (w : World) :
    Calls Tryz.prog 73 #[.int .i64 n, .agg #[.int .i64 l, .int .i64 r]] w fun e w' => e = .returned (.bool (depB n l r)) ∧ Below w.heap.size w w' := implIsDep_all n l r _w1 w
theorem depB_five {l r : Int} (h : depB 5 l r = true) : ∃ L R : Nat, l = (L : Int) ∧ r = (R : Int) ∧ L < 32 ∧ R ≤ 4 := by
  rw [depB_iff] at h
  obtain ⟨-, h2, h3, h4⟩ := h
  unfold isA at h2
  rw [decide_eq_true_iff] at h2
  obtain ⟨-, h5, h6⟩ := h2
  have h7 : l ≤ 31 := h6
  exact ⟨l.toNat, r.toNat, by omega, by omega, by omega, by omega⟩
theorem fmtD_dep (l r : Int) : fmtD l r = if depB 5 l r = true then fmtA l ++ ⟨#[62]⟩ ++ fmtA (2 ^ r.toNat : Nat) else ⟨#[]⟩ := by
  have h : (depB 5 l r = true) ↔ (valB l = true ∧ 0 ≤ r ∧ r ≤ 4) := by
    rw [depB_iff]
    unfold isA valB
    rw [decide_eq_true_iff, decide_eq_true_iff]
    have : (2 : Int) ^ (5 : Int).toNat - 1 = 31 := rfl
    rw [this]
    constructor
    · rintro ⟨-, ⟨-, h1⟩, h2, h3⟩; exact ⟨h1, h2, by omega⟩
    · rintro ⟨h1, h2, h3⟩; exact ⟨by omega, ⟨by omega, h1⟩, h2, by omega⟩
  unfold fmtD
  by_cases h' : depB 5 l r = true
  · rw [if_pos h', if_pos (h.1 h')]
  · rw [if_neg h', if_neg (fun e => h' (h.2 e))]
end Go.Proofs.YtlecfkfcjhliiaaGreat
