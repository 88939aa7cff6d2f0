/- Texts of this claim, merged: AgrDraw3, AgrA, AgrB, AgrC, AgrD. Conditions: as stated. -/
import Derived.Test.YtnbjcelfdppkcaaGreatAgrDraw2m
import Derived.Test.YtnbjcelfdppkcaaGreatTc3
import Derived.Test.YtnbjcelfdppkcaaGreatTc4
namespace Go.Proofs.YtnbjcelfdppkcaaGreat
open Go.RowKit

def DrawTab2 (w : World) (e : Ending) (w' : World) : Prop :=
  ∃ (cc : Int) (u : Value) (ll : List (List Int)) (m q : Int), -1 ≤ m ∧ m ≤ 2 ∧ -1 ≤ q ∧ q ≤ 33 ∧ e = .returned (.tuple #[.agg #[.int .i64 cc, u], .int .i64 m, .int .i64 q]) ∧ ll.length ≤ 20 ∧ (∀ r ∈ ll, r.length ≤ 10) ∧ OwnSS w' w.heap.size w'.heap.size u ll ∧ Below w.heap.size w w'
def ThreeIn (w : World) (e : Ending) (w' : World) : Prop := ∃ x y z : Int, e = .returned (.tuple #[.int .i64 x, .int .i64 y, .int .i64 z]) ∧ Below w.heap.size w w'
end Go.Proofs.YtnbjcelfdppkcaaGreat
namespace Go.Proofs.YtnbjcelfdppkcaaGreat
open Go.RowKit

def modeOk (m : Int) : Bool := decide (m = 0 ∨ m = 1)
/-- Two values are equal in this mode. -/
def eqC (m a b : Int) : Bool := decide ((m = 0 ∨ m = 1) ∧ a = b ∧ (m = 0 ∨ a ≠ -1))
theorem l4Mode_any (m : Int) (w : World) :
    Calls Tryz.prog 44 #[.int .i64 m] w fun e w' => e = .returned (.bool (modeOk m)) ∧ w = w' := by
  unfold modeOk
  by_cases h0 : m = 0
  · subst h0
    go_enter Tryz.func44, Tryz.ntmps44
    go_wp2_with fail
    go_ret
    exact ⟨rfl, rfl⟩
  · by_cases h1 : m = 1
    · subst h1
      go_enter Tryz.func44, Tryz.ntmps44
      go_wp2_with fail
      go_ret
      exact ⟨rfl, rfl⟩
    · have e0 : (m == 0) = false := by simpa using h0
      have e1 : (m == 1) = false := by simpa using h1
      go_enter Tryz.func44, Tryz.ntmps44
      go_wp2_with fail
      go_ret
      exact ⟨ret_b (by rw [decide_eq_false (by omega)]), rfl⟩
theorem eqCells_any (m a b : Int) (w : World) :
    Calls Tryz.prog 76 #[.int .i64 m, .int .i64 a, .int .i64 b] w fun e w' => e = .returned (.bool (eqC m a b)) ∧ w = w' := by
  have HM := Lib.hid (l4Mode_any m w)
  cases hm : modeOk m with
  | false =>
    rw [hm] at HM
    have h : ¬ (m = 0 ∨ m = 1) := by simpa [modeOk] using hm
    have he : eqC m a b = false := by unfold eqC; rw [decide_eq_false]; omega
    have HE := Lib.hid he
    clear he hm h
    go_enter Tryz.func76, Tryz.ntmps76
    go_wp2_with fail
    refine HM.out.mono ?_
    rintro e w' ⟨rfl, rfl⟩
    go_wp2_with fail
    go_ret
    exact ⟨ret_b HE.out, rfl⟩
  | true =>
    rw [hm] at HM
    have h : m = 0 ∨ m = 1 := by simpa [modeOk] using hm
    clear hm
    by_cases hab : a = b
    · subst hab
      by_cases h0 : m = 0
      · subst h0
        have HE := Lib.hid (show eqC 0 a a = true by unfold eqC; simp)
        go_enter Tryz.func76, Tryz.ntmps76
        go_wp2_with fail
        refine HM.out.mono ?_
        rintro e w' ⟨rfl, rfl⟩
        go_wp2_with fail
        go_ret
        exact ⟨ret_b HE.out, rfl⟩
      · obtain rfl : m = 1 := by omega
        clear h h0
        by_cases ha : a = -1
        · subst ha
          have HE := Lib.hid (show eqC 1 (-1) (-1) = false by decide)
          go_enter Tryz.func76, Tryz.ntmps76
          go_wp2_with fail
          refine HM.out.mono ?_
          rintro e w' ⟨rfl, rfl⟩
          go_wp2_with fail
          go_ret
          exact ⟨ret_b HE.out, rfl⟩
        · have e1 : (a != -1) = true := by simpa using ha
          have HE := Lib.hid (show eqC 1 a a = true by unfold eqC; simp [ha])
          go_enter Tryz.func76, Tryz.ntmps76
          go_wp2_with fail
          refine HM.out.mono ?_
          rintro e w' ⟨rfl, rfl⟩
          go_wp2_with fail
          go_ret
          exact ⟨ret_b HE.out, rfl⟩
    · have e0 : (a == b) = false := by simpa using hab
      have HE := Lib.hid (show eqC m a b = false by unfold eqC; rw [decide_eq_false]; omega)
      clear h hab
      go_enter Tryz.func76, Tryz.ntmps76
      go_wp2_with fail
      refine HM.out.mono ?_
      rintro e w' ⟨rfl, rfl⟩
      go_wp2_with fail
      go_ret
      exact ⟨ret_b HE.out, rfl⟩
/-- The set of the columns below n in which two rows agree. -/
def agrTo (m : Int) (r s : List Int) : Nat → Int
  | 0 => 0
  | n + 1 => agrTo m r s n + (if eqC m (r.getD n 0) (s.getD n 0) = true then 2 ^ n else 0)
theorem agrTo_bd (m : Int) (r s : List Int) (n : Nat) : 0 ≤ agrTo m r s n ∧ agrTo m r s n < 2 ^ n := by
  induction n with
  | zero => simp [agrTo]
  | succ n ih =>
    have h2 : (2 : Int) ^ (n + 1) = 2 * 2 ^ n := by rw [Int.pow_succ]; omega
    unfold agrTo
    split <;> omega
/-- A valid table and a mode that there is. -/
def fineT (c : Int) (ll : List (List Int)) (m : Int) : Bool := isT c ll && modeOk m
set_option maxHeartbeats 800000 in
theorem l4Fine_any (c m : Int) (v : Value) (ll : List (List Int)) (w : World) (hr : ReadSS w v ll) (hl : ll.length ≤ 1048576) (ht : ∀ i, i < ll.length → (ll.getD i []).length ≤ 1048576) :
    Calls Tryz.prog 20 #[.agg #[.int .i64 c, v], .int .i64 m] w fun e w' => e = .returned (.bool (fineT c ll m)) ∧ Below w.heap.size w w' := by
  have hb1 := (Below.refl w.heap.size w).alloc (Nat.le_refl _) (.cells #[.int .i64 c, v] 26)
  have HV := Lib.hid (isTable_any c v ll (w.alloc (.cells #[.int .i64 c, v] 26)) (hr.kept hb1) hl ht)
  have HM := Lib.hid (l4Mode_any m)
  obtain ⟨a, cap, rfl, -⟩ := hr
  unfold fineT
  cases hv : isT c ll with
  | true =>
    rw [hv] at HV
    clear hv
    go_enter Tryz.func20, Tryz.ntmps20
    go_wp2_with fail
    refine HV.out.mono ?_
    rintro e w' ⟨rfl, b⟩
    have hb2 := hb1.trans (b.mono hb1.size)
    clear b hb1
    go_wp2_with fail
    refine (HM.out _).mono ?_
    rintro e w'' ⟨rfl, rfl⟩
    go_wp2_with fail
    go_ret
    exact ⟨ret_b (by rw [Bool.true_and]), hb2⟩
  | false =>
    rw [hv] at HV
    clear hv
    go_enter Tryz.func20, Tryz.ntmps20
    go_wp2_with fail
    refine HV.out.mono ?_
    rintro e w' ⟨rfl, b⟩
    have hb2 := hb1.trans (b.mono hb1.size)
    clear b hb1
    go_wp2_with fail
    go_ret
    exact ⟨ret_b (by rw [Bool.false_and]), hb2⟩
theorem or_pow (X : Int) (j : Nat) (hj : j ≤ 5) (h0 : 0 ≤ X) (h1 : X < 2 ^ j) : bits .or .i64 X (wrap64 (2 ^ j)) = X + 2 ^ j := by
  have hb : X < ((2 ^ j : Nat) : Int) := by simpa using h1
  rw [IntWalk.wrap64_in _ (by rcases (show j = 0 ∨ j = 1 ∨ j = 2 ∨ j = 3 ∨ j = 4 ∨ j = 5 by omega) with rfl | rfl | rfl | rfl | rfl | rfl <;> decide)]
  rcases (show j = 0 ∨ j = 1 ∨ j = 2 ∨ j = 3 ∨ j = 4 ∨ j = 5 by omega) with rfl | rfl | rfl | rfl | rfl | rfl
  all_goals exact i64_or_low _ h0 (by simp at h1; omega) hb (by decide) (by decide) (by decide)
set_option maxHeartbeats 1600000 in
theorem l4Agree_any (c m : Int) (i k : Nat) (v : Value) (ll : List (List Int)) (w : World) (hr : ReadSS w v ll) (hT : isT c ll = true) (hi : i < ll.length) (hk : k < ll.length) :
    Calls Tryz.prog 60 #[.agg #[.int .i64 c, v], .int .i64 m, .int .i64 (i : Int), .int .i64 (k : Int)] w fun e w' => e = .returned (.int .i64 (agrTo m (ll.getD i []) (ll.getD k []) c.toNat)) ∧ Below w.heap.size w w' := by
  obtain ⟨hc1, hc5, hl40⟩ := isT_bd hT
  have hri := (isT_row hT hi).1
  have hrk := (isT_row hT hk).1
  have hb1 := (Below.refl w.heap.size w).alloc (Nat.le_refl _) (.cells #[.int .i64 c, v] 26)
  obtain ⟨a, cap, rfl, ha⟩ := hr
  obtain ⟨x, ui, rfl, hxi, hui⟩ := ha i hi
  obtain ⟨x', uk, hx', hxk, huk⟩ := ha k hk
  obtain rfl := Option.some.inj hx'
  obtain ⟨C, rfl⟩ : ∃ C : Nat, c = (C : Int) := ⟨c.toNat, by omega⟩
  obtain ⟨r, hrr⟩ : ∃ r, r = ll.getD i [] := ⟨_, rfl⟩
  obtain ⟨s, hss⟩ : ∃ s, s = ll.getD k [] := ⟨_, rfl⟩
  rw [← hrr] at hui hri ⊢
  rw [← hss] at huk hrk ⊢
  have HUI := Lib.hid hui
  have HUK := Lib.hid huk
  have HRI := Lib.hid hri
  have HRK := Lib.hid hrk
  have HXI := Lib.hid hxi
  have HXK := Lib.hid hxk
  have HE := Lib.hid (eqCells_any m)
  have i0 : (0 : Int) ≤ (i : Int) := by omega
  have i1 : (i : Int) < (ll.length : Int) := by omega
  have k0 : (0 : Int) ≤ (k : Int) := by omega
  have k1 : (k : Int) < (ll.length : Int) := by omega
  rw [show ((C : Int)).toNat = C by omega]
  clear hrr hss hui huk hri hrk hxi hxk ha hx' hT
  go_enter Tryz.func60, Tryz.ntmps60
  go_wp2_with fail
  go_loopw [9, 10] (fun xv iv wr => ∃ j : Nat, j ≤ C ∧ iv = .int .i64 (j : Int) ∧ xv = .int .i64 (agrTo m r s j) ∧ Below (w.alloc (.cells #[.int .i64 (C : Int), .slice (some x) ll.length cap] 26)).heap.size (w.alloc (.cells #[.int .i64 (C : Int), .slice (some x) ll.length cap] 26)) wr) (fun _ iv _ => C - (intOf iv).toNat)
  case atStart => exact ⟨0, by omega, rfl, rfl, Below.refl _ _⟩
  case round =>
    obtain ⟨j, hj, rfl, rfl, hb⟩ := hrel
    obtain ⟨hc0, hcv⟩ := box2 hb
    have hb2 := hb1.trans (hb.mono hb1.size)
    have HB := Lib.hid hb
    clear hb
    by_cases hlt : j < C
    · have hy1 := (hb2.cell (World.block_lt_of_cell? w _ HXI.out)).trans HXI.out
      have hy2 := (hb2.cell (World.block_lt_of_cell? w _ HXK.out)).trans HXK.out
      obtain ⟨ai, capi, rfl, hai⟩ := HUI.out
      obtain ⟨ak, capk, rfl, hak⟩ := HUK.out
      have jr : j < r.length := by have := HRI.out; omega
      have js : j < s.length := by have := HRK.out; omega
      obtain ⟨xi, rfl, hci⟩ := hai j jr
      obtain ⟨xk, rfl, hck⟩ := hak j js
      have hz1 := (hb2.cell (World.block_lt_of_cell? w _ hci)).trans hci
      have hz2 := (hb2.cell (World.block_lt_of_cell? w _ hck)).trans hck
      have j0 : (0 : Int) ≤ (j : Int) := by omega
      have j1 : (j : Int) < (r.length : Int) := by omega
      have j2 : (j : Int) < (s.length : Int) := by omega
      have hgr : r[j] = r.getD j 0 := get_getD r j jr
      have hgs : s[j] = s.getD j 0 := get_getD s j js
      rw [hgr] at hz1
      rw [hgs] at hz2
      have HQ := Lib.hid (fun n => (HE.out (r.getD j 0) (s.getD j 0) (wr.drewN n)).mono fun e w' (h : e = _ ∧ _ = w') => And.intro h.1 h.2.symm)
      have HS : Hid (agrTo m r s (j + 1) = agrTo m r s j + (if eqC m (r.getD j 0) (s.getD j 0) = true then 2 ^ j else 0)) := Lib.hid rfl
      obtain ⟨p, hp⟩ : ∃ p, p = r.getD j 0 := ⟨_, rfl⟩
      obtain ⟨q, hq⟩ : ∃ q, q = s.getD j 0 := ⟨_, rfl⟩
      rw [← hp] at hz1 HQ HS
      rw [← hq] at hz2 HQ HS
      obtain ⟨X0, X1⟩ := agrTo_bd m r s j
      obtain ⟨X, hX⟩ : ∃ X, X = agrTo m r s j := ⟨_, rfl⟩
      rw [← hX] at X0 X1 HS ⊢
      clear hp hq hX hai hak hci hck hgr hgs
      cases he : eqC m p q with
      | true =>
        rw [he] at HQ HS
        clear he
        go_wp2_with fail
        go_quiet ((go_at_call 76; exact Calls.quiet_of_same (HQ.out _)))
        go_wp2_with fail
        go_roundw
        case rel => exact ⟨j + 1, by omega, by go_num, by rw [HS.out, or_pow X j (by omega) X0 X1]; simp, below_drewN HB.out _⟩
        case measure => simp [intOf]; omega
      | false =>
        rw [he] at HQ HS
        clear he
        go_wp2_with fail
        go_quiet ((go_at_call 76; exact Calls.quiet_of_same (HQ.out _)))
        go_wp2_with fail
        go_roundw
        case rel => exact ⟨j + 1, by omega, by go_num, by rw [HS.out]; simp, below_drewN HB.out _⟩
        case measure => simp [intOf]; omega
    · obtain rfl : j = C := by omega
      go_wp2_with fail
      go_ret
      exact ⟨rfl, hb2⟩
end Go.Proofs.YtnbjcelfdppkcaaGreat
namespace Go.Proofs.YtnbjcelfdppkcaaGreat
open Go.RowKit

set_option maxHeartbeats 800000 in
theorem l2Has_any (v : Value) (l : List Int) (x : Int) (w : World) (hr : ReadI w v l) (hl : l.length ≤ 1000000000) :
    Calls Tryz.prog 59 #[v, .int .i64 x] w fun e w' => e = .returned (.bool (decide (x ∈ l))) ∧ w = w' := by
  obtain ⟨a, cap, rfl, ha⟩ := hr
  have HA := Lib.hid ha
  clear ha
  go_enter Tryz.func59, Tryz.ntmps59
  go_wp2_with fail
  go_loop [5] (fun iv => ∃ k : Nat, k ≤ l.length ∧ iv = .int .i64 (k : Int) ∧ Hid (x ∉ l.take k)) (fun iv => l.length - (intOf iv).toNat)
  case atStart => exact ⟨0, by omega, rfl, Lib.hid (by simp)⟩
  case round =>
    obtain ⟨k, hk, rfl, hno⟩ := hrel
    by_cases hlt : k < l.length
    · obtain ⟨b, rfl, hb⟩ := HA.out k hlt
      have z0 : (0 : Int) ≤ (k : Int) := by omega
      have z1 : (k : Int) < (l.length : Int) := by omega
      have HM := Lib.hid (List.getElem_mem hlt)
      have HT := Lib.hid (List.take_succ_eq_append_getElem hlt)
      obtain ⟨y, hy⟩ : ∃ y, y = l[k] := ⟨_, rfl⟩
      rw [← hy] at hb HM HT
      clear hy
      by_cases he : y = x
      · subst he
        go_wp2_with fail
        go_ret
        exact ⟨ret_b (by rw [decide_eq_true HM.out]), rfl⟩
      · have e0 : (y == x) = false := by simpa using he
        have HN : Hid (x ∉ l.take (k + 1)) := Lib.hid (by rw [HT.out, List.mem_append]; intro h; rcases h with h | h; exact hno.out h; simp at h; exact he h.symm)
        clear he
        go_wp2_with fail
        go_round
        case rel => exact ⟨k + 1, by omega, by go_num, HN⟩
        case measure => simp [intOf]; omega
    · obtain rfl : k = l.length := by omega
      have HX : Hid (x ∉ l) := Lib.hid (by have := hno.out; rwa [List.take_length] at this)
      go_wp2_with fail
      go_ret
      exact ⟨ret_b (by rw [decide_eq_false HX.out]), rfl⟩
/-- What the list is after k rounds, and whether x has been put. -/
def putTo (l : List Int) (x : Int) : Nat → Bool × List Int
  | 0 => (false, [])
  | k + 1 => if (putTo l x k).1 = false ∧ x < l.getD k 0 then (true, (putTo l x k).2 ++ [x] ++ [l.getD k 0]) else ((putTo l x k).1, (putTo l x k).2 ++ [l.getD k 0])
def put4 (l : List Int) (x : Int) : List Int := if x ∈ l then l else if (putTo l x l.length).1 = true then (putTo l x l.length).2 else (putTo l x l.length).2 ++ [x]
theorem putTo_len (l : List Int) (x : Int) (k : Nat) : (putTo l x k).2.length ≤ k + (if (putTo l x k).1 = true then 1 else 0) := by
  induction k with
  | zero => simp [putTo]
  | succ k ih =>
    unfold putTo
    split
    · rename_i h
      rw [h.1] at ih
      simp at ih ⊢; omega
    · simp only [List.length_append, List.length_cons, List.length_nil]; omega
theorem put4_len (l : List Int) (x : Int) : (put4 l x).length ≤ l.length + 1 := by
  have h := putTo_len l x l.length
  unfold put4
  split
  · omega
  · split
    · rename_i h1; rw [if_pos h1] at h; exact h
    · rename_i h1; rw [if_neg h1] at h; simp; omega
set_option maxHeartbeats 3200000 in
theorem l4Put_any (v : Value) (l : List Int) (x : Int) (B : Nat) (w : World) (ho : OwnI w B v l) (hB : B ≤ w.heap.size) (hl : l.length ≤ 1000000) :
    Calls Tryz.prog 46 #[v, .int .i64 x] w fun e w' => ∃ v', e = .returned v' ∧ OwnI w' B v' (put4 l x) ∧ Below w.heap.size w w' := by
  obtain ⟨i0, hi, hz0, hz1, hz2⟩ := info_parts info3i
  have HI : Hid (_ ∧ _ ∧ _ ∧ _) := Lib.hid ⟨hi, hz0, hz1, hz2⟩
  clear hi hz0 hz1 hz2
  have HH := Lib.hid (l2Has_any v l x w ho.read (by omega))
  have HO := Lib.hid ho
  obtain ⟨a, cap, rfl, ha⟩ := ho.read
  have HA := Lib.hid ha
  clear ha ho
  by_cases hx : x ∈ l
  · have HP : Hid (put4 l x = l) := Lib.hid (by unfold put4; rw [if_pos hx])
    rw [decide_eq_true hx] at HH
    clear hx
    go_enter Tryz.func46, Tryz.ntmps46
    go_wp2_with fail
    refine HH.out.mono ?_
    rintro e w' ⟨rfl, rfl⟩
    go_wp2_with fail
    go_ret
    exact ⟨_, rfl, by rw [HP.out]; exact HO.out, Below.refl _ _⟩
  · have HP : Hid (put4 l x = if (putTo l x l.length).1 = true then (putTo l x l.length).2 else (putTo l x l.length).2 ++ [x]) := Lib.hid (by unfold put4; rw [if_neg hx])
    rw [decide_eq_false hx] at HH
    clear hx
    go_enter Tryz.func46, Tryz.ntmps46
    go_wp2_with fail
    refine HH.out.mono ?_
    rintro e w' ⟨rfl, rfl⟩
    go_wp2_with fail
    go_loopw [5, 6, 7] (fun ov pv iv wr => ∃ (k : Nat) (p : Bool) (o : List Int), k ≤ l.length ∧ iv = .int .i64 (k : Int) ∧ Hid (putTo l x k = (p, o)) ∧ pv = .bool p ∧ OwnI wr w.heap.size ov o ∧ Below w.heap.size w wr) (fun _ _ iv _ => l.length - (intOf iv).toNat)
    case atStart => exact ⟨0, false, [], by omega, rfl, Lib.hid rfl, rfl, OwnI.made (World.ownsRow_made w #[] 0 (Nat.le_refl _) (by unfold maxLen; omega) rfl), (Below.refl _ _).alloc (Nat.le_refl _) _⟩
    case round =>
      obtain ⟨k, p, o, hk, rfl, hpo, rfl, ho, hb⟩ := hrel
      have hol : o.length ≤ 1000001 := by have := putTo_len l x k; rw [hpo.out] at this; simp only at this; split at this <;> omega
      by_cases hlt : k < l.length
      · obtain ⟨b, rfl, hy0⟩ := HA.out k hlt
        have HS : Hid (putTo l x (k + 1) = if p = false ∧ x < l.getD k 0 then (true, o ++ [x] ++ [l.getD k 0]) else (p, o ++ [l.getD k 0])) := Lib.hid (by rw [putTo, hpo.out])
        rw [get_getD l k hlt] at hy0
        obtain ⟨y, hy⟩ : ∃ y, y = l.getD k 0 := ⟨_, rfl⟩
        rw [← hy] at hy0 HS
        have hyw := (hb.cell (World.block_lt_of_cell? w _ hy0)).trans hy0
        have z0 : (0 : Int) ≤ (k : Int) := by omega
        have z1 : (k : Int) < (l.length : Int) := by omega
        clear hy
        by_cases hc : p = false ∧ x < y
        · rw [if_pos hc] at HS
          obtain ⟨rfl, hxy⟩ := hc
          go_wp2_with (first
            | (at_builtin; refine wpList_append_own _ rfl _ _ 29 rfl w.heap.size 3 i0 (.int .i64 0) 1 8 Tryz.underlying29 HI.out.1 HI.out.2.1 HI.out.2.2.1 HI.out.2.2.2 rfl (by decide) _ _ _ rfl (World.ownsRow.alloc ho1 _) ⟨w1.heap.size, 0, none⟩ 1 1 [.int .i64 y] rfl rfl (cell_one_new _ _ _) (one_i64 _) (by unfold maxLen; omega) (by omega) (le_alloc hb1 (Nat.le_refl _) _) ?_; intro v2 w2 hown2 hgrow2 _; have ho2 := OwnI.snoc hown2; have hb2 := (hb1.alloc hb1.size (.cells #[.int .i64 y] 3)).grown hgrow2 (by simp; have := hb1.size; omega) (fun k hk => (OwnI.lt ho1 k hk).1); clear hown2 hgrow2)
            | (at_builtin; refine wpList_append_own _ rfl _ _ 29 rfl w.heap.size 3 i0 (.int .i64 0) 1 8 Tryz.underlying29 HI.out.1 HI.out.2.1 HI.out.2.2.1 HI.out.2.2.2 rfl (by decide) _ _ _ rfl (World.ownsRow.alloc ho _) ⟨wr.heap.size, 0, none⟩ 1 1 [.int .i64 x] rfl rfl (cell_one_new _ _ _) (one_i64 _) (by unfold maxLen; omega) (by omega) (le_alloc hb (Nat.le_refl _) _) ?_; intro v1 w1 hown1 hgrow1 _; have ho1 := OwnI.snoc hown1; have hb1 := (hb.alloc hb.size (.cells #[.int .i64 x] 3)).grown hgrow1 (by simp; have := hb.size; omega) (fun k hk => (OwnI.lt ho k hk).1); have hol1 : (o ++ [x]).length ≤ 1000002 := (by simp; omega); have hyw1 := (hb1.cell (World.block_lt_of_cell? w _ hy0)).trans hy0; clear hown1 hgrow1))
          go_roundw
          case rel => exact ⟨k + 1, true, _, by omega, by go_num, HS, rfl, ho2, hb2⟩
          case measure => simp [intOf]; omega
        · rw [if_neg hc] at HS
          cases p with
          | true =>
            clear hc
            go_wp2_with (at_builtin; refine wpList_append_own _ rfl _ _ 29 rfl w.heap.size 3 i0 (.int .i64 0) 1 8 Tryz.underlying29 HI.out.1 HI.out.2.1 HI.out.2.2.1 HI.out.2.2.2 rfl (by decide) _ _ _ rfl (World.ownsRow.alloc ho _) ⟨wr.heap.size, 0, none⟩ 1 1 [.int .i64 y] rfl rfl (cell_one_new _ _ _) (one_i64 _) (by unfold maxLen; omega) (by omega) (le_alloc hb (Nat.le_refl _) _) ?_; intro v1 w1 hown1 hgrow1 _; have ho1 := OwnI.snoc hown1; have hb1 := (hb.alloc hb.size (.cells #[.int .i64 y] 3)).grown hgrow1 (by simp; have := hb.size; omega) (fun k hk => (OwnI.lt ho k hk).1); clear hown1 hgrow1)
            go_roundw
            case rel => exact ⟨k + 1, true, _, by omega, by go_num, HS, rfl, ho1, hb1⟩
            case measure => simp [intOf]; omega
          | false =>
            have hxy : decide (x < y) = false := by simpa using hc
            clear hc
            go_wp2_with (at_builtin; refine wpList_append_own _ rfl _ _ 29 rfl w.heap.size 3 i0 (.int .i64 0) 1 8 Tryz.underlying29 HI.out.1 HI.out.2.1 HI.out.2.2.1 HI.out.2.2.2 rfl (by decide) _ _ _ rfl (World.ownsRow.alloc ho _) ⟨wr.heap.size, 0, none⟩ 1 1 [.int .i64 y] rfl rfl (cell_one_new _ _ _) (one_i64 _) (by unfold maxLen; omega) (by omega) (le_alloc hb (Nat.le_refl _) _) ?_; intro v1 w1 hown1 hgrow1 _; have ho1 := OwnI.snoc hown1; have hb1 := (hb.alloc hb.size (.cells #[.int .i64 y] 3)).grown hgrow1 (by simp; have := hb.size; omega) (fun k hk => (OwnI.lt ho k hk).1); clear hown1 hgrow1)
            go_roundw
            case rel => exact ⟨k + 1, false, _, by omega, by go_num, HS, rfl, ho1, hb1⟩
            case measure => simp [intOf]; omega
      · obtain rfl : k = l.length := by omega
        have HP2 : Hid (put4 l x = if p = true then o else o ++ [x]) := Lib.hid (by rw [HP.out, hpo.out])
        clear HP
        cases p with
        | true =>
          rw [if_pos rfl] at HP2
          go_wp2_with fail
          go_ret
          exact ⟨_, rfl, by rw [HP2.out]; exact ho.base hB, hb⟩
        | false =>
          rw [if_neg (by simp)] at HP2
          go_wp2_with (at_builtin; refine wpList_append_own _ rfl _ _ 29 rfl w.heap.size 3 i0 (.int .i64 0) 1 8 Tryz.underlying29 HI.out.1 HI.out.2.1 HI.out.2.2.1 HI.out.2.2.2 rfl (by decide) _ _ _ rfl (World.ownsRow.alloc ho _) ⟨wr.heap.size, 0, none⟩ 1 1 [.int .i64 x] rfl rfl (cell_one_new _ _ _) (one_i64 _) (by unfold maxLen; omega) (by omega) (le_alloc hb (Nat.le_refl _) _) ?_; intro v1 w1 hown1 hgrow1 _; have ho1 := OwnI.snoc hown1; have hb1 := (hb.alloc hb.size (.cells #[.int .i64 x] 3)).grown hgrow1 (by simp; have := hb.size; omega) (fun k hk => (OwnI.lt ho k hk).1); clear hown1 hgrow1)
          go_ret
          exact ⟨_, rfl, by rw [HP2.out]; exact ho1.base hB, hb1⟩
end Go.Proofs.YtnbjcelfdppkcaaGreat
namespace Go.Proofs.YtnbjcelfdppkcaaGreat
open Go.RowKit

def agrOf (c : Int) (ll : List (List Int)) (m i k : Int) : Int := if fineT c ll m = true ∧ (0 ≤ i ∧ i ≤ ll.length - 1) ∧ (0 ≤ k ∧ k ≤ ll.length - 1) then agrTo m (ll.getD i.toNat []) (ll.getD k.toNat []) c.toNat else 0
end Go.Proofs.YtnbjcelfdppkcaaGreat
namespace Go.Proofs.YtnbjcelfdppkcaaGreat
open Go.RowKit

/-- The list l0 with the agree sets of row i and the n rows behind it. -/
def agIn (c : Nat) (ll : List (List Int)) (m : Int) (i : Nat) (l0 : List Int) : Nat → List Int
  | 0 => l0
  | n + 1 => put4 (agIn c ll m i l0 n) (agrTo m (ll.getD i []) (ll.getD (i + 1 + n) []) c)
def agOut (c : Nat) (ll : List (List Int)) (m : Int) : Nat → List Int
  | 0 => []
  | i + 1 => agIn c ll m i (agOut c ll m i) (ll.length - (i + 1))
def agrS (c : Int) (ll : List (List Int)) (m : Int) : List Int := if fineT c ll m = true then agOut c.toNat ll m ll.length else []
theorem agIn_len (c : Nat) (ll : List (List Int)) (m : Int) (i : Nat) (l0 : List Int) (n : Nat) : (agIn c ll m i l0 n).length ≤ l0.length + n := by
  induction n with
  | zero => simp [agIn]
  | succ n ih => have := put4_len (agIn c ll m i l0 n) (agrTo m (ll.getD i []) (ll.getD (i + 1 + n) []) c); unfold agIn; omega
theorem agOut_len (c : Nat) (ll : List (List Int)) (m : Int) (i : Nat) (h : ll.length ≤ 40) : (agOut c ll m i).length ≤ 40 * i := by
  induction i with
  | zero => simp [agOut]
  | succ i ih => have := agIn_len c ll m i (agOut c ll m i) (ll.length - (i + 1)); unfold agOut; omega
theorem agrS_len (c : Int) (ll : List (List Int)) (m : Int) : (agrS c ll m).length ≤ 1600 := by
  unfold agrS
  split
  · rename_i h
    have hT : isT c ll = true := by unfold fineT at h; simp at h; exact h.1
    have h3 := (isT_bd hT).2.2
    have := agOut_len c.toNat ll m ll.length h3
    omega
  · simp
end Go.Proofs.YtnbjcelfdppkcaaGreat
