/- Texts of this claim, merged: AgrA, AgrB, ParA. Conditions: as stated. -/
import Derived.Test.YtfndnaldgaaieaaGreatDoorSi5
import Derived.Test.YtfndnaldgaaieaaGreatDoorSi6
namespace Go.Proofs.YtfndnaldgaaieaaGreatDoor
open Go.RowKit

def modeOk (m : Int) : Bool := decide (m = 0 ∨ m = 1)
/-- Two values are equal in this mode. -/
def eqC (m a b : Int) : Bool := decide ((m = 0 ∨ m = 1) ∧ a = b ∧ (m = 0 ∨ a ≠ -1))
theorem l4Mode_any (m : Int) (w : World) :
    Calls Tryz.prog 63 #[.int .i64 m] w fun e w' => e = .returned (.bool (modeOk m)) ∧ w = w' := by
  unfold modeOk
  by_cases h0 : m = 0
  · subst h0
    go_enter Tryz.func63, Tryz.ntmps63
    go_wp2_with fail
    go_ret
    exact ⟨rfl, rfl⟩
  · by_cases h1 : m = 1
    · subst h1
      go_enter Tryz.func63, Tryz.ntmps63
      go_wp2_with fail
      go_ret
      exact ⟨rfl, rfl⟩
    · have e0 : (m == 0) = false := by simpa using h0
      have e1 : (m == 1) = false := by simpa using h1
      go_enter Tryz.func63, Tryz.ntmps63
      go_wp2_with fail
      go_ret
      exact ⟨ret_b (by rw [decide_eq_false (by omega)]), rfl⟩
theorem eqCells_any (m a b : Int) (w : World) :
    Calls Tryz.prog 84 #[.int .i64 m, .int .i64 a, .int .i64 b] w fun e w' => e = .returned (.bool (eqC m a b)) ∧ w = w' := by
  have HM := Lib.hid (l4Mode_any m w)
  cases hm : modeOk m with
  | false =>
    rw [hm] at HM
    have h : ¬ (m = 0 ∨ m = 1) := by simpa [modeOk] using hm
    have he : eqC m a b = false := by unfold eqC; rw [decide_eq_false]; omega
    have HE := Lib.hid he
    clear he hm h
    go_enter Tryz.func84, Tryz.ntmps84
    go_wp2_with fail
    refine HM.out.mono ?_
    rintro e w' ⟨rfl, rfl⟩
    go_wp2_with fail
    go_ret
    exact ⟨ret_b HE.out, rfl⟩
  | true =>
    rw [hm] at HM
    have h : m = 0 ∨ m = 1 := by simpa [modeOk] using hm
    clear hm
    by_cases hab : a = b
    · subst hab
      by_cases h0 : m = 0
      · subst h0
        have HE := Lib.hid (show eqC 0 a a = true by unfold eqC; simp)
        go_enter Tryz.func84, Tryz.ntmps84
        go_wp2_with fail
        refine HM.out.mono ?_
        rintro e w' ⟨rfl, rfl⟩
        go_wp2_with fail
        go_ret
        exact ⟨ret_b HE.out, rfl⟩
      · obtain rfl : m = 1 := by omega
        clear h h0
        by_cases ha : a = -1
        · subst ha
          have HE := Lib.hid (show eqC 1 (-1) (-1) = false by decide)
          go_enter Tryz.func84, Tryz.ntmps84
          go_wp2_with fail
          refine HM.out.mono ?_
          rintro e w' ⟨rfl, rfl⟩
          go_wp2_with fail
          go_ret
          exact ⟨ret_b HE.out, rfl⟩
        · have e1 : (a != -1) = true := by simpa using ha
          have HE := Lib.hid (show eqC 1 a a = true by unfold eqC; simp [ha])
          go_enter Tryz.func84, Tryz.ntmps84
          go_wp2_with fail
          refine HM.out.mono ?_
          rintro e w' ⟨rfl, rfl⟩
          go_wp2_with fail
          go_ret
          exact ⟨ret_b HE.out, rfl⟩
    · have e0 : (a == b) = false := by simpa using hab
      have HE := Lib.hid (show eqC m a b = false by unfold eqC; rw [decide_eq_false]; omega)
      clear h hab
      go_enter Tryz.func84, Tryz.ntmps84
      go_wp2_with fail
      refine HM.out.mono ?_
      rintro e w' ⟨rfl, rfl⟩
      go_wp2_with fail
      go_ret
      exact ⟨ret_b HE.out, rfl⟩
/-- The set of the columns below n in which two rows agree. -/
def agrTo (m : Int) (r s : List Int) : Nat → Int
  | 0 => 0
  | n + 1 => agrTo m r s n + (if eqC m (r.getD n 0) (s.getD n 0) = true then 2 ^ n else 0)
theorem agrTo_bd (m : Int) (r s : List Int) (n : Nat) : 0 ≤ agrTo m r s n ∧ agrTo m r s n < 2 ^ n := by
  induction n with
  | zero => simp [agrTo]
  | succ n ih =>
    have h2 : (2 : Int) ^ (n + 1) = 2 * 2 ^ n := by rw [Int.pow_succ]; omega
    unfold agrTo
    split <;> omega
/-- A valid table and a mode that there is. -/
def fineT (c : Int) (ll : List (List Int)) (m : Int) : Bool := isT c ll && modeOk m
set_option maxHeartbeats 800000 in
theorem l4Fine_any (c m : Int) (v : Value) (ll : List (List Int)) (w : World) (hr : ReadSS w v ll) (hl : ll.length ≤ 1048576) (ht : ∀ i, i < ll.length → (ll.getD i []).length ≤ 1048576) :
    Calls Tryz.prog 36 #[.agg #[.int .i64 c, v], .int .i64 m] w fun e w' => e = .returned (.bool (fineT c ll m)) ∧ Below w.heap.size w w' := by
  have hb1 := (Below.refl w.heap.size w).alloc (Nat.le_refl _) (.cells #[.int .i64 c, v] 26)
  have HV := Lib.hid (isTable_any c v ll (w.alloc (.cells #[.int .i64 c, v] 26)) (hr.kept hb1) hl ht)
  have HM := Lib.hid (l4Mode_any m)
  obtain ⟨a, cap, rfl, -⟩ := hr
  unfold fineT
  cases hv : isT c ll with
  | true =>
    rw [hv] at HV
    clear hv
    go_enter Tryz.func36, Tryz.ntmps36
    go_wp2_with fail
    refine HV.out.mono ?_
    rintro e w' ⟨rfl, b⟩
    have hb2 := hb1.trans (b.mono hb1.size)
    clear b hb1
    go_wp2_with fail
    refine (HM.out _).mono ?_
    rintro e w'' ⟨rfl, rfl⟩
    go_wp2_with fail
    go_ret
    exact ⟨ret_b (by rw [Bool.true_and]), hb2⟩
  | false =>
    rw [hv] at HV
    clear hv
    go_enter Tryz.func36, Tryz.ntmps36
    go_wp2_with fail
    refine HV.out.mono ?_
    rintro e w' ⟨rfl, b⟩
    have hb2 := hb1.trans (b.mono hb1.size)
    clear b hb1
    go_wp2_with fail
    go_ret
    exact ⟨ret_b (by rw [Bool.false_and]), hb2⟩
theorem or_pow (X : Int) (j : Nat) (hj : j ≤ 5) (h0 : 0 ≤ X) (h1 : X < 2 ^ j) : bits .or .i64 X (wrap64 (2 ^ j)) = X + 2 ^ j := by
  have hb : X < ((2 ^ j : Nat) : Int) := by simpa using h1
  rw [IntWalk.wrap64_in _ (by rcases (show j = 0 ∨ j = 1 ∨ j = 2 ∨ j = 3 ∨ j = 4 ∨ j = 5 by omega) with rfl | rfl | rfl | rfl | rfl | rfl <;> decide)]
  rcases (show j = 0 ∨ j = 1 ∨ j = 2 ∨ j = 3 ∨ j = 4 ∨ j = 5 by omega) with rfl | rfl | rfl | rfl | rfl | rfl
  all_goals exact i64_or_low _ h0 (by simp at h1; omega) hb (by decide) (by decide) (by decide)
set_option maxHeartbeats 1600000 in
theorem l4Agree_any (c m : Int) (i k : Nat) (v : Value) (ll : List (List Int)) (w : World) (hr : ReadSS w v ll) (hT : isT c ll = true) (hi : i < ll.length) (hk : k < ll.length) :
    Calls Tryz.prog 65 #[.agg #[.int .i64 c, v], .int .i64 m, .int .i64 (i : Int), .int .i64 (k : Int)] w fun e w' => e = .returned (.int .i64 (agrTo m (ll.getD i []) (ll.getD k []) c.toNat)) ∧ Below w.heap.size w w' := by
  obtain ⟨hc1, hc5, hl40⟩ := isT_bd hT
  have hri := (isT_row hT hi).1
  have hrk := (isT_row hT hk).1
  have hb1 := (Below.refl w.heap.size w).alloc (Nat.le_refl _) (.cells #[.int .i64 c, v] 26)
  obtain ⟨a, cap, rfl, ha⟩ := hr
  obtain ⟨x, ui, rfl, hxi, hui⟩ := ha i hi
  obtain ⟨x', uk, hx', hxk, huk⟩ := ha k hk
  obtain rfl := Option.some.inj hx'
  obtain ⟨C, rfl⟩ : ∃ C : Nat, c = (C : Int) := ⟨c.toNat, by omega⟩
  obtain ⟨r, hrr⟩ : ∃ r, r = ll.getD i [] := ⟨_, rfl⟩
  obtain ⟨s, hss⟩ : ∃ s, s = ll.getD k [] := ⟨_, rfl⟩
  rw [← hrr] at hui hri ⊢
  rw [← hss] at huk hrk ⊢
  have HUI := Lib.hid hui
  have HUK := Lib.hid huk
  have HRI := Lib.hid hri
  have HRK := Lib.hid hrk
  have HXI := Lib.hid hxi
  have HXK := Lib.hid hxk
  have HE := Lib.hid (eqCells_any m)
  have i0 : (0 : Int) ≤ (i : Int) := by omega
  have i1 : (i : Int) < (ll.length : Int) := by omega
  have k0 : (0 : Int) ≤ (k : Int) := by omega
  have k1 : (k : Int) < (ll.length : Int) := by omega
  rw [show ((C : Int)).toNat = C by omega]
  clear hrr hss hui huk hri hrk hxi hxk ha hx' hT
  go_enter Tryz.func65, Tryz.ntmps65
  go_wp2_with fail
  go_loopw [9, 10] (fun xv iv wr => ∃ j : Nat, j ≤ C ∧ iv = .int .i64 (j : Int) ∧ xv = .int .i64 (agrTo m r s j) ∧ Below (w.alloc (.cells #[.int .i64 (C : Int), .slice (some x) ll.length cap] 26)).heap.size (w.alloc (.cells #[.int .i64 (C : Int), .slice (some x) ll.length cap] 26)) wr) (fun _ iv _ => C - (intOf iv).toNat)
  case atStart => exact ⟨0, by omega, rfl, rfl, Below.refl _ _⟩
  case round =>
    obtain ⟨j, hj, rfl, rfl, hb⟩ := hrel
    obtain ⟨hc0, hcv⟩ := box2 hb
    have hb2 := hb1.trans (hb.mono hb1.size)
    have HB := Lib.hid hb
    clear hb
    by_cases hlt : j < C
    · have hy1 := (hb2.cell (World.block_lt_of_cell? w _ HXI.out)).trans HXI.out
      have hy2 := (hb2.cell (World.block_lt_of_cell? w _ HXK.out)).trans HXK.out
      obtain ⟨ai, capi, rfl, hai⟩ := HUI.out
      obtain ⟨ak, capk, rfl, hak⟩ := HUK.out
      have jr : j < r.length := by have := HRI.out; omega
      have js : j < s.length := by have := HRK.out; omega
      obtain ⟨xi, rfl, hci⟩ := hai j jr
      obtain ⟨xk, rfl, hck⟩ := hak j js
      have hz1 := (hb2.cell (World.block_lt_of_cell? w _ hci)).trans hci
      have hz2 := (hb2.cell (World.block_lt_of_cell? w _ hck)).trans hck
      have j0 : (0 : Int) ≤ (j : Int) := by omega
      have j1 : (j : Int) < (r.length : Int) := by omega
      have j2 : (j : Int) < (s.length : Int) := by omega
      have hgr : r[j] = r.getD j 0 := get_getD r j jr
      have hgs : s[j] = s.getD j 0 := get_getD s j js
      rw [hgr] at hz1
      rw [hgs] at hz2
      have HQ := Lib.hid (fun n => (HE.out (r.getD j 0) (s.getD j 0) (wr.drewN n)).mono fun e w' (h : e = _ ∧ _ = w') => And.intro h.1 h.2.symm)
      have HS : Hid (agrTo m r s (j + 1) = agrTo m r s j + (if eqC m (r.getD j 0) (s.getD j 0) = true then 2 ^ j else 0)) := Lib.hid rfl
      obtain ⟨p, hp⟩ : ∃ p, p = r.getD j 0 := ⟨_, rfl⟩
      obtain ⟨q, hq⟩ : ∃ q, q = s.getD j 0 := ⟨_, rfl⟩
      rw [← hp] at hz1 HQ HS
      rw [← hq] at hz2 HQ HS
      obtain ⟨X0, X1⟩ := agrTo_bd m r s j
      obtain ⟨X, hX⟩ : ∃ X, X = agrTo m r s j := ⟨_, rfl⟩
      rw [← hX] at X0 X1 HS ⊢
      clear hp hq hX hai hak hci hck hgr hgs
      cases he : eqC m p q with
      | true =>
        rw [he] at HQ HS
        clear he
        go_wp2_with fail
        go_quiet ((go_at_call 84; exact Calls.quiet_of_same (HQ.out _)))
        go_wp2_with fail
        go_roundw
        case rel => exact ⟨j + 1, by omega, by go_num, by rw [HS.out, or_pow X j (by omega) X0 X1]; simp, below_drewN HB.out _⟩
        case measure => simp [intOf]; omega
      | false =>
        rw [he] at HQ HS
        clear he
        go_wp2_with fail
        go_quiet ((go_at_call 84; exact Calls.quiet_of_same (HQ.out _)))
        go_wp2_with fail
        go_roundw
        case rel => exact ⟨j + 1, by omega, by go_num, by rw [HS.out]; simp, below_drewN HB.out _⟩
        case measure => simp [intOf]; omega
    · obtain rfl : j = C := by omega
      go_wp2_with fail
      go_ret
      exact ⟨rfl, hb2⟩
end Go.Proofs.YtfndnaldgaaieaaGreatDoor
namespace Go.Proofs.YtfndnaldgaaieaaGreatDoor
open Go.RowKit

set_option maxHeartbeats 800000 in
theorem l2Has_any (v : Value) (l : List Int) (x : Int) (w : World) (hr : ReadI w v l) (hl : l.length ≤ 1000000000) :
    Calls Tryz.prog 52 #[v, .int .i64 x] w fun e w' => e = .returned (.bool (decide (x ∈ l))) ∧ w = w' := by
  obtain ⟨a, cap, rfl, ha⟩ := hr
  have HA := Lib.hid ha
  clear ha
  go_enter Tryz.func52, Tryz.ntmps52
  go_wp2_with fail
  go_loop [5] (fun iv => ∃ k : Nat, k ≤ l.length ∧ iv = .int .i64 (k : Int) ∧ Hid (x ∉ l.take k)) (fun iv => l.length - (intOf iv).toNat)
  case atStart => exact ⟨0, by omega, rfl, Lib.hid (by simp)⟩
  case round =>
    obtain ⟨k, hk, rfl, hno⟩ := hrel
    by_cases hlt : k < l.length
    · obtain ⟨b, rfl, hb⟩ := HA.out k hlt
      have z0 : (0 : Int) ≤ (k : Int) := by omega
      have z1 : (k : Int) < (l.length : Int) := by omega
      have HM := Lib.hid (List.getElem_mem hlt)
      have HT := Lib.hid (List.take_succ_eq_append_getElem hlt)
      obtain ⟨y, hy⟩ : ∃ y, y = l[k] := ⟨_, rfl⟩
      rw [← hy] at hb HM HT
      clear hy
      by_cases he : y = x
      · subst he
        go_wp2_with fail
        go_ret
        exact ⟨ret_b (by rw [decide_eq_true HM.out]), rfl⟩
      · have e0 : (y == x) = false := by simpa using he
        have HN : Hid (x ∉ l.take (k + 1)) := Lib.hid (by rw [HT.out, List.mem_append]; intro h; rcases h with h | h; exact hno.out h; simp at h; exact he h.symm)
        clear he
        go_wp2_with fail
        go_round
        case rel => exact ⟨k + 1, by omega, by go_num, HN⟩
        case measure => simp [intOf]; omega
    · obtain rfl : k = l.length := by omega
      have HX : Hid (x ∉ l) := Lib.hid (by have := hno.out; rwa [List.take_length] at this)
      go_wp2_with fail
      go_ret
      exact ⟨ret_b (by rw [decide_eq_false HX.out]), rfl⟩
/-- What the list is after k rounds, and whether x has been put. -/
def putTo (l : List Int) (x : Int) : Nat → Bool × List Int
  | 0 => (false, [])
  | k + 1 => if (putTo l x k).1 = false ∧ x < l.getD k 0 then (true, (putTo l x k).2 ++ [x] ++ [l.getD k 0]) else ((putTo l x k).1, (putTo l x k).2 ++ [l.getD k 0])
def put4 (l : List Int) (x : Int) : List Int := if x ∈ l then l else if (putTo l x l.length).1 = true then (putTo l x l.length).2 else (putTo l x l.length).2 ++ [x]
theorem putTo_len (l : List Int) (x : Int) (k : Nat) : (putTo l x k).2.length ≤ k + (if (putTo l x k).1 = true then 1 else 0) := by
  induction k with
  | zero => simp [putTo]
  | succ k ih =>
    unfold putTo
    split
    · rename_i h
      rw [h.1] at ih
      simp at ih ⊢; omega
    · simp only [List.length_append, List.length_cons, List.length_nil]; omega
theorem put4_len (l : List Int) (x : Int) : (put4 l x).length ≤ l.length + 1 := by
  have h := putTo_len l x l.length
  unfold put4
  split
  · omega
  · split
    · rename_i h1; rw [if_pos h1] at h; exact h
    · rename_i h1; rw [if_neg h1] at h; simp; omega
end Go.Proofs.YtfndnaldgaaieaaGreatDoor
namespace Go.Proofs.YtfndnaldgaaieaaGreatDoor
open Go.RowKit

/-- The place of the first class that has this row, or -1. -/
def clsI : List (List Int) → Int → Int
  | [], _ => -1
  | r :: t, x => if x ∈ r then 0 else if clsI t x < 0 then -1 else clsI t x + 1
theorem clsI_ge : ∀ (ll : List (List Int)) (x : Int), -1 ≤ clsI ll x ∧ clsI ll x < ll.length
  | [], _ => by simp [clsI]
  | r :: t, x => by
    have := clsI_ge t x
    unfold clsI
    split
    · simp
    · split <;> simp <;> omega
theorem clsI_hit : ∀ (ll : List (List Int)) (x : Int) (k : Nat), k < ll.length → (∀ i, i < k → x ∉ ll.getD i []) → x ∈ ll.getD k [] → clsI ll x = (k : Int)
  | [], _, k, h, _, _ => absurd h (Nat.not_lt_zero _)
  | r :: t, x, 0, _, _, h => by
    have h' : x ∈ r := h
    unfold clsI; rw [if_pos h']; rfl
  | r :: t, x, k + 1, h1, h2, h3 => by
    have h4 : x ∉ r := h2 0 (by omega)
    have ih := clsI_hit t x k (by simp at h1; omega) (fun i hi => by have := h2 (i + 1) (by omega); simpa using this) (by simpa using h3)
    unfold clsI; rw [if_neg h4, ih, if_neg (by omega)]; simp
theorem clsI_none : ∀ (ll : List (List Int)) (x : Int), (∀ i, i < ll.length → x ∉ ll.getD i []) → clsI ll x = -1
  | [], _, _ => rfl
  | r :: t, x, h => by
    have h4 : x ∉ r := h 0 (by simp)
    have ih := clsI_none t x (fun i hi => by have := h (i + 1) (by simp; omega); simpa using this)
    unfold clsI; rw [if_neg h4, ih]; rfl
theorem class5_any (v : Value) (ll : List (List Int)) (x : Int) (w : World) (hr : ReadSS w v ll) (hl : ll.length ≤ 1048576) (ht : ∀ i, i < ll.length → (ll.getD i []).length ≤ 1048576) :
    Calls Tryz.prog 51 #[v, .int .i64 x] w fun e w' => e = .returned (.int .i64 (clsI ll x)) ∧ w = w' := by
  obtain ⟨a, cap, rfl, ha⟩ := hr
  have HA := Lib.hid ha
  have HT := Lib.hid ht
  clear ha ht
  go_enter Tryz.func51, Tryz.ntmps51
  go_wp2_with fail
  go_loop [5] (fun iv => ∃ k : Nat, k ≤ ll.length ∧ iv = .int .i64 (k : Int) ∧ Hid (∀ i, i < k → x ∉ ll.getD i [])) (fun iv => ll.length - (intOf iv).toNat)
  case atStart => exact ⟨0, by omega, rfl, Lib.hid (fun i hi => absurd hi (Nat.not_lt_zero _))⟩
  case round =>
    obtain ⟨k, hk, rfl, hno⟩ := hrel
    by_cases hlt : k < ll.length
    · obtain ⟨xa, u, rfl, hx, hu⟩ := HA.out k hlt
      have HQ := Lib.hid (l2Has_any u (ll.getD k []) x w hu (by have := HT.out k hlt; omega))
      have z0 : (0 : Int) ≤ (k : Int) := by omega
      have z1 : (k : Int) < (ll.length : Int) := by omega
      clear hu
      by_cases hm : x ∈ ll.getD k []
      · have HE := Lib.hid (clsI_hit ll x k hlt hno.out hm)
        rw [decide_eq_true hm] at HQ
        clear hm
        go_wp2_with fail
        refine HQ.out.mono ?_
        rintro e w' ⟨rfl, rfl⟩
        go_wp2_with fail
        go_ret
        exact ⟨by rw [HE.out]; rfl, rfl⟩
      · have HN := Lib.hid hm
        rw [decide_eq_false hm] at HQ
        clear hm
        go_wp2_with fail
        refine HQ.out.mono ?_
        rintro e w' ⟨rfl, rfl⟩
        go_wp2_with fail
        go_round
        case rel => exact ⟨k + 1, by omega, by go_num, Lib.hid (fun i hi => by rcases (show i < k ∨ i = k by omega) with h | h; exact hno.out i h; rw [h]; exact HN.out)⟩
        case measure => simp [intOf]; omega
    · obtain rfl : k = ll.length := by omega
      have HE := Lib.hid (clsI_none ll x hno.out)
      go_wp2_with fail
      go_ret
      exact ⟨by rw [HE.out]; rfl, rfl⟩
/-- The rows less one of each of the first k classes. -/
def errTo (ll : List (List Int)) : Nat → Int
  | 0 => 0
  | k + 1 => errTo ll k + max 0 (((ll.getD k []).length : Int) - 1)
theorem errTo_bd (ll : List (List Int)) (h : ∀ i, i < ll.length → (ll.getD i []).length ≤ 1048576) : ∀ k, k ≤ ll.length → 0 ≤ errTo ll k ∧ errTo ll k ≤ 1048576 * k
  | 0, _ => by simp [errTo]
  | k + 1, hk => by
    have ih := errTo_bd ll h k (by omega)
    have := h k (by omega)
    unfold errTo
    omega
theorem errorOf_any (v : Value) (ll : List (List Int)) (w : World) (hr : ReadSS w v ll) (hl : ll.length ≤ 1048576) (ht : ∀ i, i < ll.length → (ll.getD i []).length ≤ 1048576) :
    Calls Tryz.prog 24 #[v] w fun e w' => e = .returned (.int .i64 (errTo ll ll.length)) ∧ w = w' := by
  obtain ⟨a, cap, rfl, ha⟩ := hr
  have HA := Lib.hid ha
  have HT := Lib.hid ht
  have HB := Lib.hid (errTo_bd ll ht)
  clear ha ht
  go_enter Tryz.func24, Tryz.ntmps24
  go_wp2_with fail
  go_loop [3, 4] (fun sv iv => ∃ k : Nat, k ≤ ll.length ∧ iv = .int .i64 (k : Int) ∧ sv = .int .i64 (errTo ll k)) (fun _ iv => ll.length - (intOf iv).toNat)
  case atStart => exact ⟨0, by omega, rfl, rfl⟩
  case round =>
    obtain ⟨k, hk, rfl, rfl⟩ := hrel
    by_cases hlt : k < ll.length
    · obtain ⟨xa, u, rfl, hx, hu⟩ := HA.out k hlt
      obtain ⟨au, cu, rfl, -⟩ := hu
      have hlr := HT.out k hlt
      have hbd := HB.out k hk
      have HS : Hid (errTo ll (k + 1) = errTo ll k + max 0 (((ll.getD k []).length : Int) - 1)) := Lib.hid rfl
      obtain ⟨E, hE⟩ : ∃ E, E = errTo ll k := ⟨_, rfl⟩
      obtain ⟨R, hR⟩ : ∃ R, R = (ll.getD k []).length := ⟨_, rfl⟩
      rw [← hE] at hbd HS ⊢
      rw [← hR] at HS hlr hx
      clear hE hR
      have z0 : (0 : Int) ≤ (k : Int) := by omega
      have z1 : (k : Int) < (ll.length : Int) := by omega
      go_wp2_with fail
      go_round
      case rel => exact ⟨k + 1, by omega, by go_num, by rw [HS.out] <;> first | (congr 2; split <;> omega) | (congr 2) | rfl⟩
      case measure => simp [intOf]; omega
    · obtain rfl : k = ll.length := by omega
      go_wp2_with fail
      go_ret
      exact ⟨rfl, rfl⟩
/-- A row lies in the class of q that f lies in; a class lies within one class of q. -/
def inQ (q : List (List Int)) (f x : Int) : Bool := decide (0 ≤ clsI q x ∧ clsI q x = clsI q f)
def finR (q : List (List Int)) (r : List Int) : Bool := !q.isEmpty && r.all (inQ q (r.getD 0 0))
def finB (p q : List (List Int)) : Bool := p.all (finR q)
set_option maxHeartbeats 1600000 in
theorem isFiner_any (v v' : Value) (p q : List (List Int)) (w : World) (hr : ReadSS w v p) (hq : ReadSS w v' q) (hl : p.length ≤ 1048576) (ht : ∀ i, i < p.length → (p.getD i []).length ≤ 1048576) (hl' : q.length ≤ 1048576) (ht' : ∀ i, i < q.length → (q.getD i []).length ≤ 1048576) :
    Calls Tryz.prog 23 #[v, v'] w fun e w' => e = .returned (.bool (finB p q)) ∧ w = w' := by
  have HC := Lib.hid (fun x => class5_any v' q x w hq hl' ht')
  obtain ⟨a, cap, rfl, ha⟩ := hr
  obtain ⟨a', cap', rfl, -⟩ := hq
  have HA := Lib.hid ha
  have HT := Lib.hid ht
  clear ha ht ht'
  go_enter Tryz.func23, Tryz.ntmps23
  go_wp2_with fail
  go_loop [5] (fun iv => ∃ i : Nat, i ≤ p.length ∧ iv = .int .i64 (i : Int) ∧ Hid ((p.take i).all (finR q) = true)) (fun iv => p.length - (intOf iv).toNat)
  case atStart => exact ⟨0, by omega, rfl, Lib.hid rfl⟩
  case round =>
    obtain ⟨i, hi, rfl, hall⟩ := hrel
    by_cases hlt : i < p.length
    · obtain ⟨xa, u, rfl, hx, hu⟩ := HA.out i hlt
      have hlr := HT.out i hlt
      have HOK := Lib.hid (fun h => all_snoc (p := finR q) hlt hall.out h)
      have HNO := Lib.hid (fun h => all_not (p := finR q) hlt h)
      have hg : p[i] = p.getD i [] := by rw [List.getD_eq_getElem?_getD, List.getElem?_eq_getElem hlt]; rfl
      rw [hg] at HOK HNO
      obtain ⟨r, hrr⟩ : ∃ r, r = p.getD i [] := ⟨_, rfl⟩
      rw [← hrr] at HOK HNO hu hlr
      obtain ⟨ar, cr, rfl, har⟩ := hu
      have HR := Lib.hid har
      clear hg hrr har
      have z0 : (0 : Int) ≤ (i : Int) := by omega
      have z1 : (i : Int) < (p.length : Int) := by omega
      by_cases hq0 : q.length = 0
      · have HX : Hid (finB p q = false) := Lib.hid (HNO.out (by unfold finR; rw [List.eq_nil_of_length_eq_zero hq0]; rfl))
        have hqz : ((q.length : Int) == 0) = true := by rw [hq0]; rfl
        go_wp2_with fail
        go_ret
        exact ⟨ret_b HX.out, rfl⟩
      · have hqz : ((q.length : Int) == 0) = false := by rw [beq_eq_false_iff_ne]; omega
        have HQ0 : Hid (q.isEmpty = false) := Lib.hid (by cases q; simp at hq0; rfl)
        have hqN : ¬ q = [] := fun e => hq0 (by rw [e]; rfl)
        obtain ⟨f, hf⟩ : ∃ f, f = r.getD 0 0 := ⟨_, rfl⟩
        have HFR : Hid (finR q r = r.all (inQ q f)) := Lib.hid (by unfold finR; rw [HQ0.out, ← hf]; rfl)
        have HF0 := Lib.hid hf
        clear hq0 hf
        go_wp2_with fail
        go_loop [6] (fun kv => ∃ k : Nat, k ≤ r.length ∧ kv = .int .i64 (k : Int) ∧ Hid ((r.take k).all (inQ q f) = true)) (fun kv => r.length - (intOf kv).toNat)
        case atStart => exact ⟨0, by omega, rfl, Lib.hid rfl⟩
        case round =>
          obtain ⟨k, hk, rfl, hal⟩ := hrel
          by_cases hlk : k < r.length
          · obtain ⟨xr, rfl, hxk⟩ := HR.out k hlk
            obtain ⟨xr', hx0', hx0⟩ := HR.out 0 (by omega)
            obtain rfl := Option.some.inj hx0'
            rw [Addr.add_zero'] at hx0
            rw [get_getD r 0 (by omega), ← HF0.out] at hx0
            have HO2 : Hid (inQ q f (r.getD k 0) = true → (r.take (k + 1)).all (inQ q f) = true) := Lib.hid (fun h => by rw [← get_getD r k hlk] at h; exact all_snoc hlk hal.out h)
            have HN2 : Hid (inQ q f (r.getD k 0) = false → finB p q = false) := Lib.hid (fun h => HNO.out (by rw [HFR.out]; rw [← get_getD r k hlk] at h; exact all_not hlk h))
            have HI : Hid (inQ q f (r.getD k 0) = decide (0 ≤ clsI q (r.getD k 0) ∧ clsI q (r.getD k 0) = clsI q f)) := Lib.hid rfl
            rw [get_getD r k hlk] at hxk
            obtain ⟨y, hy⟩ : ∃ y, y = r.getD k 0 := ⟨_, rfl⟩
            rw [← hy] at hxk HO2 HN2 HI
            have HY := HC.out y
            have HF := HC.out f
            obtain ⟨cy, hcy⟩ : ∃ cy, cy = clsI q y := ⟨_, rfl⟩
            obtain ⟨cf, hcf⟩ : ∃ cf, cf = clsI q f := ⟨_, rfl⟩
            rw [← hcy] at HY HI
            rw [← hcf] at HF HI
            have HY := Lib.hid HY
            have HF := Lib.hid HF
            have z2 : (0 : Int) ≤ (k : Int) := by omega
            have z3 : (k : Int) < (r.length : Int) := by omega
            have z4 : (0 : Int) < (r.length : Int) := by omega
            have z5 : 0 < r.length := by omega
            clear hy hcy hcf
            by_cases hc0 : cy < 0
            · have HX := Lib.hid (HN2.out (by rw [HI.out, decide_eq_false]; omega))
              go_wp2_with fail
              refine HY.out.mono ?_
              rintro e w' ⟨rfl, rfl⟩
              go_wp2_with fail
              go_ret
              exact ⟨ret_b HX.out, rfl⟩
            · by_cases hcc : cy = cf
              · have HX := Lib.hid (HO2.out (by rw [HI.out, decide_eq_true]; omega))
                have hne : (cy != cf) = false := by rw [hcc]; simp
                clear hcc
                go_wp2_with fail
                refine HY.out.mono ?_
                rintro e w' ⟨rfl, rfl⟩
                go_wp2_with fail
                refine HF.out.mono ?_
                rintro e w' ⟨rfl, rfl⟩
                go_wp2_with fail
                go_round
                case rel => exact ⟨k + 1, by omega, by go_num, HX⟩
                case measure => simp [intOf]; omega
              · have HX := Lib.hid (HN2.out (by rw [HI.out, decide_eq_false]; exact fun h => hcc h.2))
                have hne : (cy != cf) = true := by simpa using hcc
                clear hcc
                go_wp2_with fail
                refine HY.out.mono ?_
                rintro e w' ⟨rfl, rfl⟩
                go_wp2_with fail
                refine HF.out.mono ?_
                rintro e w' ⟨rfl, rfl⟩
                go_wp2_with fail
                go_ret
                exact ⟨ret_b HX.out, rfl⟩
          · obtain rfl : k = r.length := by omega
            have HX : Hid ((p.take (i + 1)).all (finR q) = true) := Lib.hid (HOK.out (by have := hal.out; rw [List.take_length] at this; rw [HFR.out, this]))
            go_wp2_with fail
            go_round
            case rel => exact ⟨i + 1, by omega, by go_num, HX⟩
            case measure => simp [intOf]; omega
    · obtain rfl : i = p.length := by omega
      have HX : Hid (finB p q = true) := Lib.hid (by have := hall.out; rw [List.take_length] at this; exact this)
      go_wp2_with fail
      go_ret
      exact ⟨ret_b HX.out, rfl⟩
end Go.Proofs.YtfndnaldgaaieaaGreatDoor
