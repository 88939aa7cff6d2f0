/- Texts of this claim, merged: AgrB, AgrC, AgrD. Conditions: as stated. -/
import Derived.Test.YtlecfkfcjhliiaaGreatWc11
namespace Go.Proofs.YtlecfkfcjhliiaaGreat
open Go.RowKit

set_option maxHeartbeats 800000 in
theorem l2Has_any (v : Value) (l : List Int) (x : Int) (w : World) (hr : ReadI w v l) (hl : l.length ≤ 1000000000) :
    Calls Tryz.prog 53 #[v, .int .i64 x] w fun e w' => e = .returned (.bool (decide (x ∈ l))) ∧ w = w' := by
  obtain ⟨a, cap, rfl, ha⟩ := hr
  have HA := Lib.hid ha
  clear ha
  go_enter Tryz.func53, Tryz.ntmps53
  go_wp2_with fail
  go_loop [5] (fun iv => ∃ k : Nat, k ≤ l.length ∧ iv = .int .i64 (k : Int) ∧ Hid (x ∉ l.take k)) (fun iv => l.length - (intOf iv).toNat)
  case atStart => exact ⟨0, by omega, rfl, Lib.hid (by simp)⟩
  case round =>
    obtain ⟨k, hk, rfl, hno⟩ := hrel
    by_cases hlt : k < l.length
    · obtain ⟨b, rfl, hb⟩ := HA.out k hlt
      have z0 : (0 : Int) ≤ (k : Int) := by omega
      have z1 : (k : Int) < (l.length : Int) := by omega
      have HM := Lib.hid (List.getElem_mem hlt)
      have HT := Lib.hid (List.take_succ_eq_append_getElem hlt)
      obtain ⟨y, hy⟩ : ∃ y, y = l[k] := ⟨_, rfl⟩
      rw [← hy] at hb HM HT
      clear hy
      by_cases he : y = x
      · subst he
        go_wp2_with fail
        go_ret
        exact ⟨ret_b (by rw [decide_eq_true HM.out]), rfl⟩
      · have e0 : (y == x) = false := by simpa using he
        have HN : Hid (x ∉ l.take (k + 1)) := Lib.hid (by rw [HT.out, List.mem_append]; intro h; rcases h with h | h; exact hno.out h; simp at h; exact he h.symm)
        clear he
        go_wp2_with fail
        go_round
        case rel => exact ⟨k + 1, by omega, by go_num, HN⟩
        case measure => simp [intOf]; omega
    · obtain rfl : k = l.length := by omega
      have HX : Hid (x ∉ l) := Lib.hid (by have := hno.out; rwa [List.take_length] at this)
      go_wp2_with fail
      go_ret
      exact ⟨ret_b (by rw [decide_eq_false HX.out]), rfl⟩
/-- What the list is after k rounds, and whether x has been put. -/
def putTo (l : List Int) (x : Int) : Nat → Bool × List Int
  | 0 => (false, [])
  | k + 1 => if (putTo l x k).1 = false ∧ x < l.getD k 0 then (true, (putTo l x k).2 ++ [x] ++ [l.getD k 0]) else ((putTo l x k).1, (putTo l x k).2 ++ [l.getD k 0])
def put4 (l : List Int) (x : Int) : List Int := if x ∈ l then l else if (putTo l x l.length).1 = true then (putTo l x l.length).2 else (putTo l x l.length).2 ++ [x]
theorem putTo_len (l : List Int) (x : Int) (k : Nat) : (putTo l x k).2.length ≤ k + (if (putTo l x k).1 = true then 1 else 0) := by
  induction k with
  | zero => simp [putTo]
  | succ k ih =>
    unfold putTo
    split
    · rename_i h
      rw [h.1] at ih
      simp at ih ⊢; omega
    · simp only [List.length_append, List.length_cons, List.length_nil]; omega
theorem put4_len (l : List Int) (x : Int) : (put4 l x).length ≤ l.length + 1 := by
  have h := putTo_len l x l.length
  unfold put4
  split
  · omega
  · split
    · rename_i h1; rw [if_pos h1] at h; exact h
    · rename_i h1; rw [if_neg h1] at h; simp; omega
set_option maxHeartbeats 3200000 in
theorem l4Put_any (v : Value) (l : List Int) (x : Int) (B : Nat) (w : World) (ho : OwnI w B v l) (hB : B ≤ w.heap.size) (hl : l.length ≤ 1000000) :
    Calls Tryz.prog 71 #[v, .int .i64 x] w fun e w' => ∃ v', e = .returned v' ∧ OwnI w' B v' (put4 l x) ∧ Below w.heap.size w w' := by
  obtain ⟨i0, hi, hz0, hz1, hz2⟩ := info_parts info3i
  have HI : Hid (_ ∧ _ ∧ _ ∧ _) := Lib.hid ⟨hi, hz0, hz1, hz2⟩
  clear hi hz0 hz1 hz2
  have HH := Lib.hid (l2Has_any v l x w ho.read (by omega))
  have HO := Lib.hid ho
  obtain ⟨a, cap, rfl, ha⟩ := ho.read
  have HA := Lib.hid ha
  clear ha ho
  by_cases hx : x ∈ l
  · have HP : Hid (put4 l x = l) := Lib.hid (by unfold put4; rw [if_pos hx])
    rw [decide_eq_true hx] at HH
    clear hx
    go_enter Tryz.func71, Tryz.ntmps71
    go_wp2_with fail
    refine HH.out.mono ?_
    rintro e w' ⟨rfl, rfl⟩
    go_wp2_with fail
    go_ret
    exact ⟨_, rfl, by rw [HP.out]; exact HO.out, Below.refl _ _⟩
  · have HP : Hid (put4 l x = if (putTo l x l.length).1 = true then (putTo l x l.length).2 else (putTo l x l.length).2 ++ [x]) := Lib.hid (by unfold put4; rw [if_neg hx])
    rw [decide_eq_false hx] at HH
    clear hx
    go_enter Tryz.func71, Tryz.ntmps71
    go_wp2_with fail
    refine HH.out.mono ?_
    rintro e w' ⟨rfl, rfl⟩
    go_wp2_with fail
    go_loopw [5, 6, 7] (fun ov pv iv wr => ∃ (k : Nat) (p : Bool) (o : List Int), k ≤ l.length ∧ iv = .int .i64 (k : Int) ∧ Hid (putTo l x k = (p, o)) ∧ pv = .bool p ∧ OwnI wr w.heap.size ov o ∧ Below w.heap.size w wr) (fun _ _ iv _ => l.length - (intOf iv).toNat)
    case atStart => exact ⟨0, false, [], by omega, rfl, Lib.hid rfl, rfl, OwnI.made (World.ownsRow_made w #[] 0 (Nat.le_refl _) (by unfold maxLen; omega) rfl), (Below.refl _ _).alloc (Nat.le_refl _) _⟩
    case round =>
      obtain ⟨k, p, o, hk, rfl, hpo, rfl, ho, hb⟩ := hrel
      have hol : o.length ≤ 1000001 := by have := putTo_len l x k; rw [hpo.out] at this; simp only at this; split at this <;> omega
      by_cases hlt : k < l.length
      · obtain ⟨b, rfl, hy0⟩ := HA.out k hlt
        have HS : Hid (putTo l x (k + 1) = if p = false ∧ x < l.getD k 0 then (true, o ++ [x] ++ [l.getD k 0]) else (p, o ++ [l.getD k 0])) := Lib.hid (by rw [putTo, hpo.out])
        rw [get_getD l k hlt] at hy0
        obtain ⟨y, hy⟩ : ∃ y, y = l.getD k 0 := ⟨_, rfl⟩
        rw [← hy] at hy0 HS
        have hyw := (hb.cell (World.block_lt_of_cell? w _ hy0)).trans hy0
        have z0 : (0 : Int) ≤ (k : Int) := by omega
        have z1 : (k : Int) < (l.length : Int) := by omega
        clear hy
        by_cases hc : p = false ∧ x < y
        · rw [if_pos hc] at HS
          obtain ⟨rfl, hxy⟩ := hc
          go_wp2_with (first
            | (at_builtin; refine wpList_append_own _ rfl _ _ 29 rfl w.heap.size 3 i0 (.int .i64 0) 1 8 Tryz.underlying29 HI.out.1 HI.out.2.1 HI.out.2.2.1 HI.out.2.2.2 rfl (by decide) _ _ _ rfl (World.ownsRow.alloc ho1 _) ⟨w1.heap.size, 0, none⟩ 1 1 [.int .i64 y] rfl rfl (cell_one_new _ _ _) (one_i64 _) (by unfold maxLen; omega) (by omega) (le_alloc hb1 (Nat.le_refl _) _) ?_; intro v2 w2 hown2 hgrow2 _; have ho2 := OwnI.snoc hown2; have hb2 := (hb1.alloc hb1.size (.cells #[.int .i64 y] 3)).grown hgrow2 (by simp; have := hb1.size; omega) (fun k hk => (OwnI.lt ho1 k hk).1); clear hown2 hgrow2)
            | (at_builtin; refine wpList_append_own _ rfl _ _ 29 rfl w.heap.size 3 i0 (.int .i64 0) 1 8 Tryz.underlying29 HI.out.1 HI.out.2.1 HI.out.2.2.1 HI.out.2.2.2 rfl (by decide) _ _ _ rfl (World.ownsRow.alloc ho _) ⟨wr.heap.size, 0, none⟩ 1 1 [.int .i64 x] rfl rfl (cell_one_new _ _ _) (one_i64 _) (by unfold maxLen; omega) (by omega) (le_alloc hb (Nat.le_refl _) _) ?_; intro v1 w1 hown1 hgrow1 _; have ho1 := OwnI.snoc hown1; have hb1 := (hb.alloc hb.size (.cells #[.int .i64 x] 3)).grown hgrow1 (by simp; have := hb.size; omega) (fun k hk => (OwnI.lt ho k hk).1); have hol1 : (o ++ [x]).length ≤ 1000002 := (by simp; omega); have hyw1 := (hb1.cell (World.block_lt_of_cell? w _ hy0)).trans hy0; clear hown1 hgrow1))
          go_roundw
          case rel => exact ⟨k + 1, true, _, by omega, by go_num, HS, rfl, ho2, hb2⟩
          case measure => simp [intOf]; omega
        · rw [if_neg hc] at HS
          cases p with
          | true =>
            clear hc
            go_wp2_with (at_builtin; refine wpList_append_own _ rfl _ _ 29 rfl w.heap.size 3 i0 (.int .i64 0) 1 8 Tryz.underlying29 HI.out.1 HI.out.2.1 HI.out.2.2.1 HI.out.2.2.2 rfl (by decide) _ _ _ rfl (World.ownsRow.alloc ho _) ⟨wr.heap.size, 0, none⟩ 1 1 [.int .i64 y] rfl rfl (cell_one_new _ _ _) (one_i64 _) (by unfold maxLen; omega) (by omega) (le_alloc hb (Nat.le_refl _) _) ?_; intro v1 w1 hown1 hgrow1 _; have ho1 := OwnI.snoc hown1; have hb1 := (hb.alloc hb.size (.cells #[.int .i64 y] 3)).grown hgrow1 (by simp; have := hb.size; omega) (fun k hk => (OwnI.lt ho k hk).1); clear hown1 hgrow1)
            go_roundw
            case rel => exact ⟨k + 1, true, _, by omega, by go_num, HS, rfl, ho1, hb1⟩
            case measure => simp [intOf]; omega
          | false =>
            have hxy : decide (x < y) = false := by simpa using hc
            clear hc
            go_wp2_with (at_builtin; refine wpList_append_own _ rfl _ _ 29 rfl w.heap.size 3 i0 (.int .i64 0) 1 8 Tryz.underlying29 HI.out.1 HI.out.2.1 HI.out.2.2.1 HI.out.2.2.2 rfl (by decide) _ _ _ rfl (World.ownsRow.alloc ho _) ⟨wr.heap.size, 0, none⟩ 1 1 [.int .i64 y] rfl rfl (cell_one_new _ _ _) (one_i64 _) (by unfold maxLen; omega) (by omega) (le_alloc hb (Nat.le_refl _) _) ?_; intro v1 w1 hown1 hgrow1 _; have ho1 := OwnI.snoc hown1; have hb1 := (hb.alloc hb.size (.cells #[.int .i64 y] 3)).grown hgrow1 (by simp; have := hb.size; omega) (fun k hk => (OwnI.lt ho k hk).1); clear hown1 hgrow1)
            go_roundw
            case rel => exact ⟨k + 1, false, _, by omega, by go_num, HS, rfl, ho1, hb1⟩
            case measure => simp [intOf]; omega
      · obtain rfl : k = l.length := by omega
        have HP2 : Hid (put4 l x = if p = true then o else o ++ [x]) := Lib.hid (by rw [HP.out, hpo.out])
        clear HP
        cases p with
        | true =>
          rw [if_pos rfl] at HP2
          go_wp2_with fail
          go_ret
          exact ⟨_, rfl, by rw [HP2.out]; exact ho.base hB, hb⟩
        | false =>
          rw [if_neg (by simp)] at HP2
          go_wp2_with (at_builtin; refine wpList_append_own _ rfl _ _ 29 rfl w.heap.size 3 i0 (.int .i64 0) 1 8 Tryz.underlying29 HI.out.1 HI.out.2.1 HI.out.2.2.1 HI.out.2.2.2 rfl (by decide) _ _ _ rfl (World.ownsRow.alloc ho _) ⟨wr.heap.size, 0, none⟩ 1 1 [.int .i64 x] rfl rfl (cell_one_new _ _ _) (one_i64 _) (by unfold maxLen; omega) (by omega) (le_alloc hb (Nat.le_refl _) _) ?_; intro v1 w1 hown1 hgrow1 _; have ho1 := OwnI.snoc hown1; have hb1 := (hb.alloc hb.size (.cells #[.int .i64 x] 3)).grown hgrow1 (by simp; have := hb.size; omega) (fun k hk => (OwnI.lt ho k hk).1); clear hown1 hgrow1)
          go_ret
          exact ⟨_, rfl, by rw [HP2.out]; exact ho1.base hB, hb1⟩
end Go.Proofs.YtlecfkfcjhliiaaGreat
namespace Go.Proofs.YtlecfkfcjhliiaaGreat
open Go.RowKit

def agrOf (c : Int) (ll : List (List Int)) (m i k : Int) : Int := if fineT c ll m = true ∧ (0 ≤ i ∧ i ≤ ll.length - 1) ∧ (0 ≤ k ∧ k ≤ ll.length - 1) then agrTo m (ll.getD i.toNat []) (ll.getD k.toNat []) c.toNat else 0
end Go.Proofs.YtlecfkfcjhliiaaGreat
namespace Go.Proofs.YtlecfkfcjhliiaaGreat
open Go.RowKit

/-- The list l0 with the agree sets of row i and the n rows behind it. -/
def agIn (c : Nat) (ll : List (List Int)) (m : Int) (i : Nat) (l0 : List Int) : Nat → List Int
  | 0 => l0
  | n + 1 => put4 (agIn c ll m i l0 n) (agrTo m (ll.getD i []) (ll.getD (i + 1 + n) []) c)
def agOut (c : Nat) (ll : List (List Int)) (m : Int) : Nat → List Int
  | 0 => []
  | i + 1 => agIn c ll m i (agOut c ll m i) (ll.length - (i + 1))
def agrS (c : Int) (ll : List (List Int)) (m : Int) : List Int := if fineT c ll m = true then agOut c.toNat ll m ll.length else []
theorem agIn_len (c : Nat) (ll : List (List Int)) (m : Int) (i : Nat) (l0 : List Int) (n : Nat) : (agIn c ll m i l0 n).length ≤ l0.length + n := by
  induction n with
  | zero => simp [agIn]
  | succ n ih => have := put4_len (agIn c ll m i l0 n) (agrTo m (ll.getD i []) (ll.getD (i + 1 + n) []) c); unfold agIn; omega
theorem agOut_len (c : Nat) (ll : List (List Int)) (m : Int) (i : Nat) (h : ll.length ≤ 40) : (agOut c ll m i).length ≤ 40 * i := by
  induction i with
  | zero => simp [agOut]
  | succ i ih => have := agIn_len c ll m i (agOut c ll m i) (ll.length - (i + 1)); unfold agOut; omega
theorem agrS_len (c : Int) (ll : List (List Int)) (m : Int) : (agrS c ll m).length ≤ 1600 := by
  unfold agrS
  split
  · rename_i h
    have hT : isT c ll = true := by unfold fineT at h; simp at h; exact h.1
    have h3 := (isT_bd hT).2.2
    have := agOut_len c.toNat ll m ll.length h3
    omega
  · simp
end Go.Proofs.YtlecfkfcjhliiaaGreat
