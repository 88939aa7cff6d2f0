/- Texts of this claim, merged: ClS, ClG, AgrF, ImN, AgrP. Conditions: as stated. -/
import Derived.Test.YtcgkfbjdlhapkaaYa15
import Derived.Test.YtcgkfbjdlhapkaaClPm
import Derived.Test.YtcgkfbjdlhapkaaClDm
import Derived.Test.YtcgkfbjdlhapkaaYa16
import Derived.Test.YtcgkfbjdlhapkaaYa8
import Derived.Deep.RegionHeld3
import Derived.Test.YtcgkfbjdlhapkaaImMm
namespace Go.Proofs.Ytcgkfbjdlhapkaa
open Go.RowKit

theorem getD_mem11 {l : List (Int × Int)} {i : Nat} (h : i < l.length) : l[i]? = some (l.getD i (0, 0)) := by
  rw [List.getD_eq_getElem?_getD, List.getElem?_eq_getElem h]; rfl
theorem mem_at11 {l : List (Int × Int)} {d : Int × Int} (h : d ∈ l) : ∃ i, i < l.length ∧ l.getD i (0, 0) = d := by
  obtain ⟨i, hi, e⟩ := List.getElem_of_mem h
  exact ⟨i, hi, by rw [List.getD_eq_getElem?_getD, List.getElem?_eq_getElem hi]; exact e⟩
theorem mem_erase11 {l : List (Int × Int)} {k : Nat} {d : Int × Int} : d ∈ l.eraseIdx k ↔ ∃ i, i ≠ k ∧ l[i]? = some d := List.mem_eraseIdx_iff_getElem?
theorem erase_at {q : List (Int × Int)} {i j : Nat} (h : j < i) : (q.eraseIdx i).getD j (0, 0) = q.getD j (0, 0) := by
  rw [List.getD_eq_getElem?_getD, List.getD_eq_getElem?_getD, List.getElem?_eraseIdx, if_pos h]
theorem erase_two {q : List (Int × Int)} {i j : Nat} (h : j < i) {d : Int × Int} (hd : d ∈ (q.eraseIdx i).eraseIdx j) : d ∈ q.eraseIdx j := by
  obtain ⟨m, hm, e⟩ := mem_erase11.1 hd
  rw [List.getElem?_eraseIdx] at e
  by_cases hmi : m < i
  · rw [if_pos hmi] at e
    exact mem_erase11.2 ⟨m, hm, e⟩
  · rw [if_neg hmi] at e
    exact mem_erase11.2 ⟨m + 1, by omega, e⟩
theorem arD_sub {n : Int} {l l' : List (Int × Int)} (h : arD n l = true) (hs : ∀ d ∈ l', d ∈ l) (hn : l'.length ≤ l.length) : arD n l' = true := by
  unfold arD at h ⊢
  rw [Bool.and_eq_true, Bool.and_eq_true, List.all_eq_true, decide_eq_true_iff, decide_eq_true_iff] at h ⊢
  exact ⟨fun d hd => h.1 d (hs d hd), h.2.1, Nat.le_trans hn h.2.2⟩
theorem closed_sub {l l' : List (Int × Int)} (hs : ∀ d ∈ l', d ∈ l) {y : Nat} (h : ClosedN l y) : ClosedN l' y := fun d hd => h d (hs d hd)
theorem impB_parts {n : Int} {l : List (Int × Int)} {d : Int × Int} (h : impB n l d = true) : ∃ C L R : Nat, n = (C : Int) ∧ 1 ≤ C ∧ C ≤ 5 ∧ d = ((L : Int), (R : Int)) ∧ L < 32 ∧ L < 2 ^ C ∧ R < C ∧ arD n l = true ∧ DepsN C l ∧ bitB (clo l L) R = true := by
  unfold impB at h
  rw [Bool.and_eq_true, Bool.and_eq_true] at h
  obtain ⟨ha, hd, hb⟩ := h
  obtain ⟨C, rfl, hC1, hC5, -, hl⟩ := arD_n ha
  obtain ⟨-, k1, k2, k3⟩ := depB_iff.1 hd
  obtain ⟨d0, d1⟩ := d
  simp only at k1 k2 k3 hb
  obtain ⟨L, rfl, hL, hLC⟩ := isA_lt hC5 k1
  obtain ⟨R, rfl⟩ : ∃ R : Nat, d1 = (R : Int) := ⟨d1.toNat, by omega⟩
  exact ⟨C, L, R, rfl, hC1, hC5, rfl, hL, hLC, by omega, ha, hl, hb⟩
/-- What fewer dependencies imply, more of them imply. -/
theorem impB_more {n : Int} {l l' : List (Int × Int)} {d : Int × Int} (ha : arD n l = true) (hs : ∀ e ∈ l', e ∈ l) (h : impB n l' d = true) : impB n l d = true := by
  have h2 := h
  obtain ⟨C, L, R, rfl, hC1, hC5, rfl, hL, hLC, hR, ha', hl', hb⟩ := impB_parts h
  obtain ⟨C', e, -, -, -, hl⟩ := arD_n ha
  obtain rfl : C = C' := by omega
  unfold impB at h2 ⊢
  rw [Bool.and_eq_true, Bool.and_eq_true] at h2 ⊢
  refine ⟨ha, h2.2.1, ?_⟩
  exact sub_bitN (clo_spec hC5 hl' hL).1 (clo_spec hC5 hl hL).1 (clo_fewer hC5 hl hl' (fun y _ => closed_sub hs) hL) (by omega) hb
/-- A dependency that the others imply can go: the closed sets stay. -/
theorem closed_erase {n : Int} {q : List (Int × Int)} {i : Nat} (hi : i < q.length) (h : impB n (q.eraseIdx i) (q.getD i (0, 0)) = true) {y : Nat} (hy : y < 32) : ClosedN (q.eraseIdx i) y ↔ ClosedN q y := by
  refine ⟨fun hc d hd => ?_, closed_sub (fun d hd => List.mem_of_mem_eraseIdx hd)⟩
  obtain ⟨C, L, R, rfl, hC1, hC5, e, hL, hLC, hR, ha, hl, hb⟩ := impB_parts h
  obtain ⟨j, hj, ej⟩ := mem_at11 hd
  by_cases hji : j = i
  · subst hji
    rw [← ej, e]
    intro hs
    exact cls_imp hC5 hl hL (by omega) hy hb hc hs
  · exact hc d (mem_erase11.2 ⟨j, hji, by rw [getD_mem11 hj, ej]⟩)
theorem rm_facts {n : Int} : ∀ (k : Nat) (q : List (Int × Int)) (i : Nat), k = q.length - i → i ≤ q.length → arD n q = true → (∀ j, j < i → impB n (q.eraseIdx j) (q.getD j (0, 0)) = false) →
    (∀ d ∈ rmL n k q i, d ∈ q) ∧ (rmL n k q i).length ≤ q.length ∧ (∀ y, y < 32 → (ClosedN (rmL n k q i) y ↔ ClosedN q y)) ∧ ∀ j, j < (rmL n k q i).length → impB n ((rmL n k q i).eraseIdx j) ((rmL n k q i).getD j (0, 0)) = false := by
  intro k
  induction k with
  | zero => exact fun q i hk hi ha hn => ⟨fun d h => h, Nat.le_refl _, fun y _ => Iff.rfl, fun j hj => hn j (by have h : j < q.length := hj; omega)⟩
  | succ k ih =>
    intro q i hk hi ha hn
    have hlt : i < q.length := by omega
    have he := erase_len hlt
    have hsub : ∀ d ∈ q.eraseIdx i, d ∈ q := fun d hd => List.mem_of_mem_eraseIdx hd
    unfold rmL
    cases hm : impB n (q.eraseIdx i) (q.getD i (0, 0)) with
    | true =>
      rw [if_pos rfl]
      have ha' := arD_sub ha hsub (by omega)
      obtain ⟨h1, h2, h3, h4⟩ := ih (q.eraseIdx i) i (by omega) (by omega) ha' (fun j hj => by
        cases hx : impB n ((q.eraseIdx i).eraseIdx j) ((q.eraseIdx i).getD j (0, 0)) with
        | false => rfl
        | true =>
          rw [erase_at hj] at hx
          have h := impB_more (arD_sub ha (fun d hd => List.mem_of_mem_eraseIdx hd) (by have := erase_len (show j < q.length by omega); omega)) (fun d hd => erase_two hj hd) hx
          rw [hn j hj] at h
          cases h)
      exact ⟨fun d hd => hsub d (h1 d hd), by omega, fun y hy => (h3 y hy).trans (closed_erase hlt hm hy), h4⟩
    | false =>
      rw [if_neg (by decide)]
      exact ih q (i + 1) (by omega) (by omega) ha (fun j hj => by
        by_cases e : j = i
        · rw [e]; exact hm
        · exact hn j (by omega))
theorem memTo_iff {q : List (Int × Int)} {d : Int × Int} : ∀ k, k ≤ q.length → (memTo q d k = true ↔ ∃ i, i < k ∧ q.getD i (0, 0) = d)
  | 0, _ => ⟨fun h => (by cases h), fun ⟨i, hi, _⟩ => absurd hi (Nat.not_lt_zero _)⟩
  | k + 1, hk => by
    have ih := memTo_iff (q := q) (d := d) k (by omega)
    unfold memTo
    rw [Bool.or_eq_true, ih, decide_eq_true_iff]
    refine ⟨?_, ?_⟩
    · rintro (⟨i, hi, e⟩ | e)
      · exact ⟨i, by omega, e⟩
      · exact ⟨k, by omega, e⟩
    · rintro ⟨i, hi, e⟩
      by_cases h : i = k
      · subst h; exact .inr e
      · exact .inl ⟨i, by omega, e⟩
theorem memTo_mem {q : List (Int × Int)} {d : Int × Int} : memTo q d q.length = true ↔ d ∈ q := by
  rw [memTo_iff _ (Nat.le_refl _)]
  refine ⟨?_, mem_at11⟩
  rintro ⟨i, hi, e⟩
  rw [← e, List.getD_eq_getElem?_getD, List.getElem?_eq_getElem hi]
  exact List.getElem_mem hi
theorem dedTo_mem {n : Int} {l : List (Int × Int)} {x : Int × Int} : ∀ i, (x ∈ dedTo n l i ↔ ∃ j, j < i ∧ x = redD n l (l.getD j (0, 0)))
  | 0 => ⟨fun h => (by cases h), fun ⟨j, hj, _⟩ => absurd hj (Nat.not_lt_zero _)⟩
  | i + 1 => by
    have ih := dedTo_mem (n := n) (l := l) (x := x) i
    have step : x ∈ dedTo n l (i + 1) ↔ x ∈ dedTo n l i ∨ x = redD n l (l.getD i (0, 0)) := by
      have e : dedTo n l (i + 1) = if memTo (dedTo n l i) (redD n l (l.getD i (0, 0))) (dedTo n l i).length = true then dedTo n l i else dedTo n l i ++ [redD n l (l.getD i (0, 0))] := rfl
      rw [e]
      cases hm : memTo (dedTo n l i) (redD n l (l.getD i (0, 0))) (dedTo n l i).length with
      | true =>
        rw [if_pos rfl]
        exact ⟨fun h => .inl h, fun h => h.elim id (fun e => by rw [e]; exact memTo_mem.1 hm)⟩
      | false =>
        rw [if_neg (by decide), List.mem_append, List.mem_singleton]
    rw [step, ih]
    refine ⟨?_, ?_⟩
    · rintro (⟨j, hj, e⟩ | e)
      · exact ⟨j, by omega, e⟩
      · exact ⟨i, by omega, e⟩
    · rintro ⟨j, hj, e⟩
      by_cases h : j = i
      · subst h; exact .inr e
      · exact .inl ⟨j, by omega, e⟩
/-- A dependency of the list, and what is left of it. -/
theorem red_of {C : Nat} {l : List (Int × Int)} (hC : C ≤ 5) (ha : arD (C : Int) l = true) (hl : DepsN C l) {j : Nat} (hj : j < l.length) : ∃ L R : Nat, l.getD j (0, 0) = ((L : Int), (R : Int)) ∧ L < 2 ^ C ∧ L < 32 ∧ R < C ∧ bitB (clo l L) R = true ∧ redD (C : Int) l (l.getD j (0, 0)) = (((redN l R L 5 : Nat) : Int), (R : Int)) := by
  obtain ⟨L, R, e, hL, hR⟩ := hl _ (memD hj)
  have h32 := two5 hC
  have hL32 : L < 32 := by omega
  obtain ⟨-, h2, -, h4, -⟩ := clo_spec hC hl hL32
  have hb : bitB (clo l L) R = true := by
    have h := h4 _ (memD hj)
    rw [e] at h
    exact h h2
  have hdp : depB (C : Int) (L : Int) (R : Int) = true := by
    unfold arD at ha
    rw [Bool.and_eq_true, List.all_eq_true] at ha
    have h := ha.1 _ (memD hj)
    rw [e] at h
    exact h
  have himp : impB (C : Int) l ((L : Int), (R : Int)) = true := by
    unfold impB
    rw [Bool.and_eq_true, Bool.and_eq_true]
    exact ⟨ha, hdp, hb⟩
  refine ⟨L, R, e, hL, hL32, hR, hb, ?_⟩
  rw [e]
  unfold redD
  rw [if_pos himp]
  rfl
end Go.Proofs.Ytcgkfbjdlhapkaa
namespace Go.Proofs.Ytcgkfbjdlhapkaa
open Go.RowKit

theorem brd_len (g : Nat → Bool) : ∀ n, (brdTo g n).length ≤ n
  | 0 => Nat.le_refl _
  | n + 1 => by
    have ih := brd_len g n
    have h : brdTo g (n + 1) = if g n = true then brdTo g n ++ [(n : Int)] else brdTo g n := rfl
    rw [h]
    split
    · rw [List.length_append]; simp; omega
    · omega
theorem clsL_len (n : Int) (l : List (Int × Int)) : (clsL n l).length ≤ 32 := by
  unfold clsL
  split
  · rename_i h
    obtain ⟨C, rfl, -, hC, -⟩ := arD_n h
    exact Nat.le_trans (brd_len _ _) (two5 hC)
  · exact Nat.zero_le _
section
set_option maxRecDepth 20000
set_option maxHeartbeats 3200000
end
end Go.Proofs.Ytcgkfbjdlhapkaa
namespace Go.Proofs.Ytcgkfbjdlhapkaa
open Go.RowKit

def difB (q : Nat) (x : Int) : Bool := bits .and .i64 (x / 2 ^ q) 1 == 0
def difV (c q : Nat) (x : Int) : Int := bits .andNot .i64 (bits .andNot .i64 (2 ^ c - 1) x) (2 ^ q)
def difTo (c q : Nat) (l : List Int) : Nat → List Int
  | 0 => []
  | i + 1 => if difB q (l.getD i 0) = true then put4 (difTo c q l i) (difV c q (l.getD i 0)) else difTo c q l i
def difS (c : Int) (ll : List (List Int)) (m q : Int) : List Int := if 0 ≤ q ∧ q ≤ c - 1 then difTo c.toNat q.toNat (agrS c ll m) (agrS c ll m).length else []
theorem difTo_len (c q : Nat) (l : List Int) (i : Nat) : (difTo c q l i).length ≤ i := by
  induction i with
  | zero => simp [difTo]
  | succ i ih => have := put4_len (difTo c q l i) (difV c q (l.getD i 0)); unfold difTo; split <;> omega
theorem keep2 {w0 w w' : World} {p q : Addr} {a b : Value} (h : w.cell? p = some a ∧ w.cell? q = some b ∧ Below w0.heap.size w0 w) (k : Below w.heap.size w w') : w'.cell? p = some a ∧ w'.cell? q = some b ∧ Below w0.heap.size w0 w' :=
  ⟨(k.cell (World.block_lt_of_cell? w _ h.1)).trans h.1, (k.cell (World.block_lt_of_cell? w _ h.2.1)).trans h.2.1, h.2.2.trans (k.mono h.2.2.size)⟩
theorem agrS_fine {c m : Int} {ll : List (List Int)} (h : 0 < (agrS c ll m).length) : 1 ≤ c ∧ c ≤ 5 := by
  unfold agrS at h
  split at h
  · rename_i hf
    have hT : isT c ll = true := by unfold fineT at hf; simp at hf; exact hf.1
    exact ⟨(isT_bd hT).1, (isT_bd hT).2.1⟩
  · simp at h
theorem wrap_pow (j : Nat) (hj : j ≤ 4) : wrap64 (2 ^ j) = 2 ^ j := by
  refine IntWalk.wrap64_in _ ?_
  rcases (show j = 0 ∨ j = 1 ∨ j = 2 ∨ j = 3 ∨ j = 4 by omega) with rfl | rfl | rfl | rfl | rfl <;> decide
end Go.Proofs.Ytcgkfbjdlhapkaa
namespace Go.Proofs.Ytcgkfbjdlhapkaa
open Go.RowKit

/-- The value that a set is answered by: the other columns that are not in it. -/
def dfN (C Q s : Nat) : Nat := (difV C Q (s : Int)).toNat
theorem dfN_fin : ∀ (C : Fin 6) (Q : Fin 5) (s : Fin 32), Q.val < C.val → bits .andNot .i64 (bits .andNot .i64 (2 ^ C.val - 1) (wrap64 (2 ^ Q.val))) (s.val : Int) = (dfN C.val Q.val s.val : Int) ∧ dfN C.val Q.val s.val < 32 := by
  decide +kernel
theorem dfN_eq (C Q s : Nat) (hC : C ≤ 5) (hQ : Q < C) (hs : s < 32) : bits .andNot .i64 (bits .andNot .i64 (2 ^ C - 1) (wrap64 (2 ^ Q))) (s : Int) = (dfN C Q s : Int) ∧ dfN C Q s < 32 :=
  dfN_fin ⟨C, by omega⟩ ⟨Q, by omega⟩ ⟨s, hs⟩ hQ
def dfTo (C Q : Nat) (g : Nat → Bool) : Nat → (Nat → Bool)
  | 0 => noF
  | s + 1 => if (g s && !bitB s Q) = true then setF (dfTo C Q g s) (dfN C Q s) true else dfTo C Q g s
def dfS (c : Int) (ll : List (List Int)) (m q : Int) : List Int := if colB c ll q = true then lstF (dfTo c.toNat q.toNat (agF c ll m) 32) else []
end Go.Proofs.Ytcgkfbjdlhapkaa
namespace Go.Proofs.Ytcgkfbjdlhapkaa
open Go.RowKit

theorem lstTo_mem (f : Nat → Bool) (y : Int) : ∀ n, (y ∈ lstTo f n ↔ ∃ j : Nat, j < n ∧ f j = true ∧ y = (j : Int))
  | 0 => by simp [lstTo]
  | n + 1 => by
    have ih := lstTo_mem f y n
    unfold lstTo
    split
    · rename_i h
      rw [List.mem_append, ih, List.mem_singleton]
      constructor
      · rintro (⟨j, h1, h2, h3⟩ | rfl)
        · exact ⟨j, by omega, h2, h3⟩
        · exact ⟨n, by omega, h, rfl⟩
      · rintro ⟨j, h1, h2, h3⟩
        by_cases e : j = n
        · subst e; exact Or.inr h3
        · exact Or.inl ⟨j, by omega, h2, h3⟩
    · rename_i h
      rw [ih]
      constructor
      · rintro ⟨j, h1, h2, h3⟩
        exact ⟨j, by omega, h2, h3⟩
      · rintro ⟨j, h1, h2, h3⟩
        by_cases e : j = n
        · subst e; exact (h h2).elim
        · exact ⟨j, by omega, h2, h3⟩
theorem lstTo_asc (f : Nat → Bool) : ∀ n, AscI (lstTo f n)
  | 0 => List.Pairwise.nil
  | n + 1 => by
    unfold lstTo
    split
    · exact ascI_snoc (lstTo_asc f n) fun y hy => by
        obtain ⟨j, h1, -, rfl⟩ := (lstTo_mem f y n).mp hy
        omega
    · exact lstTo_asc f n
theorem lstF_mem (f : Nat → Bool) (y : Int) : y ∈ lstF f ↔ ∃ j : Nat, j < 32 ∧ f j = true ∧ y = (j : Int) := lstTo_mem f y 32
theorem lstF_none : lstF noF = [] := by decide
/-- The agree sets. -/
theorem agIn_mem (c : Nat) (ll : List (List Int)) (m : Int) (i : Nat) (l0 : List Int) (y : Int) : ∀ n, (y ∈ agIn c ll m i l0 n ↔ y ∈ l0 ∨ ∃ t, t < n ∧ y = agrTo m (ll.getD i []) (ll.getD (i + 1 + t) []) c)
  | 0 => by simp [agIn]
  | n + 1 => by
    have ih := agIn_mem c ll m i l0 y n
    unfold agIn
    rw [put4_mem, ih]
    constructor
    · rintro (h | h | ⟨t, h1, h2⟩)
      · exact Or.inr ⟨n, by omega, h⟩
      · exact Or.inl h
      · exact Or.inr ⟨t, by omega, h2⟩
    · rintro (h | ⟨t, h1, h2⟩)
      · exact Or.inr (Or.inl h)
      · by_cases e : t = n
        · subst e; exact Or.inl h2
        · exact Or.inr (Or.inr ⟨t, by omega, h2⟩)
theorem agIn_asc (c : Nat) (ll : List (List Int)) (m : Int) (i : Nat) (l0 : List Int) (h0 : AscI l0) : ∀ n, AscI (agIn c ll m i l0 n)
  | 0 => h0
  | n + 1 => by unfold agIn; exact put4_asc (agIn_asc c ll m i l0 h0 n) _
theorem agOut_mem (c : Nat) (ll : List (List Int)) (m : Int) (y : Int) : ∀ i, i ≤ ll.length → (y ∈ agOut c ll m i ↔ ∃ a b, a < i ∧ a < b ∧ b < ll.length ∧ y = agrTo m (ll.getD a []) (ll.getD b []) c)
  | 0, _ => by simp [agOut]
  | i + 1, hi => by
    have ih := agOut_mem c ll m y i (by omega)
    unfold agOut
    rw [agIn_mem, ih]
    constructor
    · rintro (⟨a, b, h1, h2, h3, h4⟩ | ⟨t, h1, h2⟩)
      · exact ⟨a, b, by omega, h2, h3, h4⟩
      · exact ⟨i, i + 1 + t, by omega, by omega, by omega, h2⟩
    · rintro ⟨a, b, h1, h2, h3, h4⟩
      by_cases e : a = i
      · subst e
        refine Or.inr ⟨b - (a + 1), by omega, ?_⟩
        rw [show a + 1 + (b - (a + 1)) = b by omega]; exact h4
      · exact Or.inl ⟨a, b, by omega, h2, h3, h4⟩
theorem agOut_asc (c : Nat) (ll : List (List Int)) (m : Int) : ∀ i, AscI (agOut c ll m i)
  | 0 => List.Pairwise.nil
  | i + 1 => by unfold agOut; exact agIn_asc _ _ _ _ _ (agOut_asc c ll m i) _
theorem agFI_iff (c : Nat) (ll : List (List Int)) (m : Int) (k : Nat) (f : Nat → Bool) (j : Nat) : ∀ n, (agFI c ll m k f n j = true ↔ f j = true ∨ ∃ a, a < n ∧ j = (agrTo m (ll.getD a []) (ll.getD k []) c).toNat)
  | 0 => by simp [agFI]
  | n + 1 => by
    have ih := agFI_iff c ll m k f j n
    unfold agFI setF
    split
    · rename_i h
      simp only [true_iff]
      exact Or.inr ⟨n, by omega, h⟩
    · rename_i h
      rw [ih]
      constructor
      · rintro (h' | ⟨a, h1, h2⟩)
        · exact Or.inl h'
        · exact Or.inr ⟨a, by omega, h2⟩
      · rintro (h' | ⟨a, h1, h2⟩)
        · exact Or.inl h'
        · by_cases e : a = n
          · subst e; exact (h h2).elim
          · exact Or.inr ⟨a, by omega, h2⟩
theorem agFO_iff (c : Nat) (ll : List (List Int)) (m : Int) (j : Nat) : ∀ k, (agFO c ll m k j = true ↔ ∃ a b, a < b ∧ b < k ∧ j = (agrTo m (ll.getD a []) (ll.getD b []) c).toNat)
  | 0 => by simp [agFO, noF]
  | k + 1 => by
    have ih := agFO_iff c ll m j k
    unfold agFO
    rw [agFI_iff, ih]
    constructor
    · rintro (⟨a, b, h1, h2, h3⟩ | ⟨a, h1, h2⟩)
      · exact ⟨a, b, h1, by omega, h3⟩
      · exact ⟨a, k, h1, by omega, h2⟩
    · rintro ⟨a, b, h1, h2, h3⟩
      by_cases e : b = k
      · subst e; exact Or.inr ⟨a, h1, h3⟩
      · exact Or.inl ⟨a, b, h1, by omega, h3⟩
theorem agS_asc (c : Int) (ll : List (List Int)) (m : Int) : AscI (agrS c ll m) := by
  unfold agrS
  split
  · exact agOut_asc _ _ _ _
  · exact List.Pairwise.nil
theorem agF_mem (c : Int) (ll : List (List Int)) (m : Int) (y : Int) : y ∈ agrS c ll m ↔ ∃ j : Nat, j < 32 ∧ agF c ll m j = true ∧ y = (j : Int) := by
  unfold agrS agF
  split
  · rename_i h
    have hT : isT c ll = true := by unfold fineT at h; simp at h; exact h.1
    obtain ⟨h1, h5, -⟩ := isT_bd hT
    rw [agOut_mem _ _ _ _ _ (Nat.le_refl _)]
    constructor
    · rintro ⟨a, b, -, h2, h3, h4⟩
      obtain ⟨Y, hY, hY32⟩ := agrTo_nat m (ll.getD a []) (ll.getD b []) c.toNat (by omega)
      exact ⟨Y, hY32, (agFO_iff _ _ _ _ _).mpr ⟨a, b, h2, h3, by rw [hY]; omega⟩, by rw [h4, hY]⟩
    · rintro ⟨j, -, h2, h3⟩
      obtain ⟨a, b, h4, h6, h7⟩ := (agFO_iff _ _ _ _ _).mp h2
      obtain ⟨Y, hY, hY32⟩ := agrTo_nat m (ll.getD a []) (ll.getD b []) c.toNat (by omega)
      exact ⟨a, b, by omega, h4, h6, by rw [h3, h7, hY]; omega⟩
  · simp [noF]
theorem lstF_agF (c : Int) (ll : List (List Int)) (m : Int) : lstF (agF c ll m) = agrS c ll m :=
  ascI_unique _ _ (lstTo_asc _ _) (agS_asc c ll m) fun y => by rw [lstF_mem, agF_mem]
end Go.Proofs.Ytcgkfbjdlhapkaa
