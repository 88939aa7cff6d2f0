/- The model's chapter 4: MaximalSets and MinimalSets, by contract. Conditions: as stated. -/
import Derived.Test.YtchdceglcjjggaaAgrD
import Derived.BigQuiet
namespace Go.Proofs.Ytchdceglcjjggaa
open Go.RowKit

def setsOk (l : List Int) : Bool := l.all valB && decide (l.length ≤ 100)
set_option maxHeartbeats 800000 in
theorem l4Sets_any (v : Value) (l : List Int) (w : World) (hr : ReadI w v l) (hl : l.length ≤ 1048576) :
    Calls Try.prog 62 #[v] w fun e w' => e = .returned (.bool (setsOk l)) ∧ w = w' := by
  obtain ⟨a, cap, rfl, ha⟩ := hr
  have HA := Lib.hid ha
  have HV := Lib.hid (fun x => valid_any x w)
  clear ha
  go_enter Try.func62, Try.ntmps62
  go_wp2_with fail
  go_loop [3] (fun iv => ∃ k : Nat, k ≤ l.length ∧ iv = .int .i64 (k : Int) ∧ Hid ((l.take k).all valB = true)) (fun iv => l.length - (intOf iv).toNat)
  case atStart => exact ⟨0, by omega, rfl, Lib.hid rfl⟩
  case round =>
    obtain ⟨k, hk, rfl, hall⟩ := hrel
    by_cases hlt : k < l.length
    · obtain ⟨b, rfl, hb⟩ := HA.out k hlt
      have z0 : (0 : Int) ≤ (k : Int) := by omega
      have z1 : (k : Int) < (l.length : Int) := by omega
      have HOK := Lib.hid (fun h => all_snoc (p := valB) hlt hall.out h)
      have HNO := Lib.hid (fun h => all_not (p := valB) hlt h)
      obtain ⟨y, hy⟩ : ∃ y, y = l[k] := ⟨_, rfl⟩
      rw [← hy] at hb HOK HNO
      have HQ := Lib.hid (HV.out y)
      clear hy
      cases hv : valB y with
      | true =>
        rw [hv] at HQ
        have HX := Lib.hid (HOK.out hv)
        clear hv
        go_wp2_with fail
        refine HQ.out.mono ?_
        rintro e w' ⟨rfl, rfl⟩
        go_wp2_with fail
        go_round
        case rel => exact ⟨k + 1, by omega, by go_num, HX⟩
        case measure => simp [intOf]; omega
      | false =>
        rw [hv] at HQ
        have HX := Lib.hid (HNO.out hv)
        clear hv
        go_wp2_with fail
        refine HQ.out.mono ?_
        rintro e w' ⟨rfl, rfl⟩
        go_wp2_with fail
        go_ret
        exact ⟨ret_b (by unfold setsOk; rw [HX.out]; rfl), rfl⟩
    · obtain rfl : k = l.length := by omega
      have HX : Hid (l.all valB = true) := Lib.hid (by have := hall.out; rwa [List.take_length] at this)
      go_wp2_with fail
      go_ret
      exact ⟨ret_b (by unfold setsOk; rw [HX.out, Bool.true_and, decide_eq_decide]; omega), rfl⟩
/-- Whether x is kept against the first k elements. -/
def topK (l : List Int) (x : Int) : Nat → Bool
  | 0 => true
  | k + 1 => topK l x k && (l.getD k 0 == x || bits .and .i64 x (l.getD k 0) != x)
def mxTo (l : List Int) : Nat → List Int
  | 0 => []
  | i + 1 => if topK l (l.getD i 0) l.length = true then put4 (mxTo l i) (l.getD i 0) else mxTo l i
def maxS (l : List Int) : List Int := if setsOk l = true then mxTo l l.length else []
theorem mxTo_len (l : List Int) (i : Nat) : (mxTo l i).length ≤ i := by
  induction i with
  | zero => simp [mxTo]
  | succ i ih => have := put4_len (mxTo l i) (l.getD i 0); unfold mxTo; split <;> omega
set_option maxHeartbeats 3200000 in
theorem maximalSets_any (v : Value) (l : List Int) (w : World) (hr : ReadI w v l) (hl : l.length ≤ 1048576) :
    Calls Try.prog 25 #[v] w (RetI (maxS l) w) := by
  have HF := Lib.hid (fun w' (hb : Below w.heap.size w w') => l4Sets_any v l w' (hr.kept hb) hl)
  obtain ⟨a, cap, rfl, ha⟩ := hr
  have HA := Lib.hid ha
  clear ha
  have hmk : OwnI (w.alloc (.cells #[] 3)) w.heap.size (.slice (some ⟨w.heap.size, 0, none⟩) 0 0) [] := OwnI.made (World.ownsRow_made w #[] 0 (Nat.le_refl _) (by unfold maxLen; omega) rfl)
  have hb0 : Below w.heap.size w (w.alloc (.cells #[] 3)) := (Below.refl _ _).alloc (Nat.le_refl _) _
  cases hf : setsOk l with
  | false =>
    have HE : Hid (maxS l = []) := Lib.hid (by unfold maxS; rw [hf]; simp)
    rw [hf] at HF
    clear hf
    go_enter Try.func25, Try.ntmps25
    go_wp2_with fail
    refine wp_loop_rounds 1 ?_
    rw [rounds_succ]
    by_cases h0 : l.length = 0
    · obtain rfl := List.eq_nil_of_length_eq_zero h0
      clear h0
      go_wp2_with fail
      go_ret
      exact ⟨_, rfl, by rw [HE.out]; exact hmk, hb0⟩
    · have hd2 : 0 < l.length := by omega
      have hd : decide ((0 : Int) < (l.length : Int)) = true := decide_eq_true (by omega)
      clear h0
      go_wp2_with fail
      refine (HF.out _ hb0).mono ?_
      rintro e w' ⟨rfl, rfl⟩
      go_wp2_with fail
      go_ret
      exact ⟨_, rfl, by rw [HE.out]; exact hmk, hb0⟩
  | true =>
    have HE : Hid (maxS l = mxTo l l.length) := Lib.hid (by unfold maxS; rw [if_pos hf])
    have hl100 : l.length ≤ 100 := by unfold setsOk at hf; simp at hf; exact hf.2
    rw [hf] at HF
    clear hf
    go_enter Try.func25, Try.ntmps25
    go_wp2_with fail
    go_loopw [3, 4] (fun ov iv wr => ∃ i : Nat, i ≤ l.length ∧ iv = .int .i64 (i : Int) ∧ OwnI wr w.heap.size ov (mxTo l i) ∧ Below w.heap.size w wr) (fun _ iv _ => l.length - (intOf iv).toNat)
    case atStart => exact ⟨0, by omega, rfl, hmk, hb0⟩
    case round =>
      clear hmk hb0
      obtain ⟨i, hi, rfl, ho, hb⟩ := hrel
      by_cases hlt : i < l.length
      · have hd : decide ((i : Int) < (l.length : Int)) = true := decide_eq_true (by omega)
        have HS : Hid (mxTo l (i + 1) = if topK l (l.getD i 0) l.length = true then put4 (mxTo l i) (l.getD i 0) else mxTo l i) := Lib.hid rfl
        have htl := mxTo_len l i
        obtain ⟨xa, rfl, hxi⟩ := HA.out i hlt
        rw [get_getD l i hlt] at hxi
        obtain ⟨x, hx⟩ : ∃ x, x = l.getD i 0 := ⟨_, rfl⟩
        rw [← hx] at HS hxi
        obtain ⟨lc, hlc⟩ : ∃ lc, lc = mxTo l i := ⟨_, rfl⟩
        rw [← hlc] at HS ho htl
        have HXI := Lib.hid hxi
        have i0 : (0 : Int) ≤ (i : Int) := by omega
        have i1 : (i : Int) < (l.length : Int) := by omega
        clear hx hlc hxi
        go_wp2_with fail
        refine (HF.out _ hb).mono ?_
        rintro e w2 ⟨rfl, rfl⟩
        go_wp2_with fail
        obtain ⟨wi, rfl⟩ : ∃ wi : World, wi = wr := ⟨_, rfl⟩
        go_loopw [5, 6] (fun tv kv wr => ∃ k : Nat, k ≤ l.length ∧ kv = .int .i64 (k : Int) ∧ tv = .bool (topK l x k) ∧ Below wi.heap.size wi wr) (fun _ kv _ => l.length - (intOf kv).toNat)
        case atStart => exact ⟨0, by omega, rfl, rfl, Below.refl _ _⟩
        case round =>
          obtain ⟨k, hk, rfl, rfl, hbi⟩ := hrel
          have hbw := hb.trans (hbi.mono hb.size)
          have hcx := (hbw.cell (World.block_lt_of_cell? w _ HXI.out)).trans HXI.out
          by_cases hlk : k < l.length
          · obtain ⟨xb, hxb, hyk⟩ := HA.out k hlk
            obtain rfl := Option.some.inj hxb
            have HT2 : Hid (topK l x (k + 1) = (topK l x k && (l.getD k 0 == x || bits .and .i64 x (l.getD k 0) != x))) := Lib.hid rfl
            rw [get_getD l k hlk] at hyk
            obtain ⟨y, hy⟩ : ∃ y, y = l.getD k 0 := ⟨_, rfl⟩
            rw [← hy] at HT2 hyk
            have hcy := (hbw.cell (World.block_lt_of_cell? w _ hyk)).trans hyk
            have k0 : (0 : Int) ≤ (k : Int) := by omega
            have k1 : (k : Int) < (l.length : Int) := by omega
            clear hy hyk hxb
            cases ht : topK l x k with
            | false =>
              rw [ht] at HT2
              clear ht
              go_wp2_with fail
              go_quiet (fail)
              go_wp2_with fail
              go_roundw
              case rel => exact ⟨k + 1, by omega, by go_num, by rw [HT2.out]; rfl, below_drewN hbi _⟩
              case measure => simp [intOf]; omega
            | true =>
              rw [ht] at HT2
              clear ht
              by_cases he : y = x
              · subst he
                have HT3 : Hid (topK l y (k + 1) = true) := Lib.hid (by rw [HT2.out]; simp)
                clear HT2
                go_wp2_with fail
                go_quiet (fail)
                go_wp2_with fail
                go_roundw
                case rel => exact ⟨k + 1, by omega, by go_num, by rw [HT3.out], below_drewN hbi _⟩
                case measure => simp [intOf]; omega
              · have e0 : (y == x) = false := by simpa using he
                rw [e0, Bool.true_and, Bool.false_or] at HT2
                clear he
                go_wp2_with fail
                go_quiet (fail)
                go_wp2_with fail
                go_roundw
                case rel => exact ⟨k + 1, by omega, by go_num, by rw [HT2.out], below_drewN hbi _⟩
                case measure => simp [intOf]; omega
          · obtain rfl : k = l.length := by omega
            have ho3 := ho.kept hbi (fun k hk => (OwnI.lt ho k hk).2)
            have hs3 := hbw.size
            cases ht : topK l x l.length with
            | true =>
              rw [if_pos ht] at HS
              clear ht
              go_wp2_with fail
              refine (l4Put_any _ _ _ w.heap.size _ ho3 (by omega) (by omega)).mono ?_
              rintro e w4 ⟨v4, rfl, ho4, b4⟩
              have hb4 := hbw.trans (b4.mono hbw.size)
              go_wp2_with fail
              go_roundw
              case rel => exact ⟨i + 1, by omega, by go_num, by rw [HS.out]; exact ho4, hb4⟩
              case measure => simp [intOf]; omega
            | false =>
              rw [if_neg (by rw [ht]; simp)] at HS
              clear ht
              go_wp2_with fail
              go_roundw
              case rel => exact ⟨i + 1, by omega, by go_num, by rw [HS.out]; exact ho3, hbw⟩
              case measure => simp [intOf]; omega
      · obtain rfl : i = l.length := by omega
        have hd2 : ¬ l.length < l.length := by omega
        go_wp2_with fail
        go_ret
        exact ⟨_, rfl, by rw [HE.out]; exact ho, hb⟩
/-- Whether x is kept against the first k elements. -/
def lowK (l : List Int) (x : Int) : Nat → Bool
  | 0 => true
  | k + 1 => lowK l x k && (l.getD k 0 == x || bits .and .i64 x (l.getD k 0) != (l.getD k 0))
def mnTo (l : List Int) : Nat → List Int
  | 0 => []
  | i + 1 => if lowK l (l.getD i 0) l.length = true then put4 (mnTo l i) (l.getD i 0) else mnTo l i
def minS (l : List Int) : List Int := if setsOk l = true then mnTo l l.length else []
theorem mnTo_len (l : List Int) (i : Nat) : (mnTo l i).length ≤ i := by
  induction i with
  | zero => simp [mnTo]
  | succ i ih => have := put4_len (mnTo l i) (l.getD i 0); unfold mnTo; split <;> omega
set_option maxHeartbeats 3200000 in
theorem minimalSets_any (v : Value) (l : List Int) (w : World) (hr : ReadI w v l) (hl : l.length ≤ 1048576) :
    Calls Try.prog 26 #[v] w (RetI (minS l) w) := by
  have HF := Lib.hid (fun w' (hb : Below w.heap.size w w') => l4Sets_any v l w' (hr.kept hb) hl)
  obtain ⟨a, cap, rfl, ha⟩ := hr
  have HA := Lib.hid ha
  clear ha
  have hmk : OwnI (w.alloc (.cells #[] 3)) w.heap.size (.slice (some ⟨w.heap.size, 0, none⟩) 0 0) [] := OwnI.made (World.ownsRow_made w #[] 0 (Nat.le_refl _) (by unfold maxLen; omega) rfl)
  have hb0 : Below w.heap.size w (w.alloc (.cells #[] 3)) := (Below.refl _ _).alloc (Nat.le_refl _) _
  cases hf : setsOk l with
  | false =>
    have HE : Hid (minS l = []) := Lib.hid (by unfold minS; rw [hf]; simp)
    rw [hf] at HF
    clear hf
    go_enter Try.func26, Try.ntmps26
    go_wp2_with fail
    refine wp_loop_rounds 1 ?_
    rw [rounds_succ]
    by_cases h0 : l.length = 0
    · obtain rfl := List.eq_nil_of_length_eq_zero h0
      clear h0
      go_wp2_with fail
      go_ret
      exact ⟨_, rfl, by rw [HE.out]; exact hmk, hb0⟩
    · have hd2 : 0 < l.length := by omega
      have hd : decide ((0 : Int) < (l.length : Int)) = true := decide_eq_true (by omega)
      clear h0
      go_wp2_with fail
      refine (HF.out _ hb0).mono ?_
      rintro e w' ⟨rfl, rfl⟩
      go_wp2_with fail
      go_ret
      exact ⟨_, rfl, by rw [HE.out]; exact hmk, hb0⟩
  | true =>
    have HE : Hid (minS l = mnTo l l.length) := Lib.hid (by unfold minS; rw [if_pos hf])
    have hl100 : l.length ≤ 100 := by unfold setsOk at hf; simp at hf; exact hf.2
    rw [hf] at HF
    clear hf
    go_enter Try.func26, Try.ntmps26
    go_wp2_with fail
    go_loopw [3, 4] (fun ov iv wr => ∃ i : Nat, i ≤ l.length ∧ iv = .int .i64 (i : Int) ∧ OwnI wr w.heap.size ov (mnTo l i) ∧ Below w.heap.size w wr) (fun _ iv _ => l.length - (intOf iv).toNat)
    case atStart => exact ⟨0, by omega, rfl, hmk, hb0⟩
    case round =>
      clear hmk hb0
      obtain ⟨i, hi, rfl, ho, hb⟩ := hrel
      by_cases hlt : i < l.length
      · have hd : decide ((i : Int) < (l.length : Int)) = true := decide_eq_true (by omega)
        have HS : Hid (mnTo l (i + 1) = if lowK l (l.getD i 0) l.length = true then put4 (mnTo l i) (l.getD i 0) else mnTo l i) := Lib.hid rfl
        have htl := mnTo_len l i
        obtain ⟨xa, rfl, hxi⟩ := HA.out i hlt
        rw [get_getD l i hlt] at hxi
        obtain ⟨x, hx⟩ : ∃ x, x = l.getD i 0 := ⟨_, rfl⟩
        rw [← hx] at HS hxi
        obtain ⟨lc, hlc⟩ : ∃ lc, lc = mnTo l i := ⟨_, rfl⟩
        rw [← hlc] at HS ho htl
        have HXI := Lib.hid hxi
        have i0 : (0 : Int) ≤ (i : Int) := by omega
        have i1 : (i : Int) < (l.length : Int) := by omega
        clear hx hlc hxi
        go_wp2_with fail
        refine (HF.out _ hb).mono ?_
        rintro e w2 ⟨rfl, rfl⟩
        go_wp2_with fail
        obtain ⟨wi, rfl⟩ : ∃ wi : World, wi = wr := ⟨_, rfl⟩
        go_loopw [5, 6] (fun tv kv wr => ∃ k : Nat, k ≤ l.length ∧ kv = .int .i64 (k : Int) ∧ tv = .bool (lowK l x k) ∧ Below wi.heap.size wi wr) (fun _ kv _ => l.length - (intOf kv).toNat)
        case atStart => exact ⟨0, by omega, rfl, rfl, Below.refl _ _⟩
        case round =>
          obtain ⟨k, hk, rfl, rfl, hbi⟩ := hrel
          have hbw := hb.trans (hbi.mono hb.size)
          have hcx := (hbw.cell (World.block_lt_of_cell? w _ HXI.out)).trans HXI.out
          by_cases hlk : k < l.length
          · obtain ⟨xb, hxb, hyk⟩ := HA.out k hlk
            obtain rfl := Option.some.inj hxb
            have HT2 : Hid (lowK l x (k + 1) = (lowK l x k && (l.getD k 0 == x || bits .and .i64 x (l.getD k 0) != (l.getD k 0)))) := Lib.hid rfl
            rw [get_getD l k hlk] at hyk
            obtain ⟨y, hy⟩ : ∃ y, y = l.getD k 0 := ⟨_, rfl⟩
            rw [← hy] at HT2 hyk
            have hcy := (hbw.cell (World.block_lt_of_cell? w _ hyk)).trans hyk
            have k0 : (0 : Int) ≤ (k : Int) := by omega
            have k1 : (k : Int) < (l.length : Int) := by omega
            clear hy hyk hxb
            cases ht : lowK l x k with
            | false =>
              rw [ht] at HT2
              clear ht
              go_wp2_with fail
              go_quiet (fail)
              go_wp2_with fail
              go_roundw
              case rel => exact ⟨k + 1, by omega, by go_num, by rw [HT2.out]; rfl, below_drewN hbi _⟩
              case measure => simp [intOf]; omega
            | true =>
              rw [ht] at HT2
              clear ht
              by_cases he : y = x
              · subst he
                have HT3 : Hid (lowK l y (k + 1) = true) := Lib.hid (by rw [HT2.out]; simp)
                clear HT2
                go_wp2_with fail
                go_quiet (fail)
                go_wp2_with fail
                go_roundw
                case rel => exact ⟨k + 1, by omega, by go_num, by rw [HT3.out], below_drewN hbi _⟩
                case measure => simp [intOf]; omega
              · have e0 : (y == x) = false := by simpa using he
                rw [e0, Bool.true_and, Bool.false_or] at HT2
                clear he
                go_wp2_with fail
                go_quiet (fail)
                go_wp2_with fail
                go_roundw
                case rel => exact ⟨k + 1, by omega, by go_num, by rw [HT2.out], below_drewN hbi _⟩
                case measure => simp [intOf]; omega
          · obtain rfl : k = l.length := by omega
            have ho3 := ho.kept hbi (fun k hk => (OwnI.lt ho k hk).2)
            have hs3 := hbw.size
            cases ht : lowK l x l.length with
            | true =>
              rw [if_pos ht] at HS
              clear ht
              go_wp2_with fail
              refine (l4Put_any _ _ _ w.heap.size _ ho3 (by omega) (by omega)).mono ?_
              rintro e w4 ⟨v4, rfl, ho4, b4⟩
              have hb4 := hbw.trans (b4.mono hbw.size)
              go_wp2_with fail
              go_roundw
              case rel => exact ⟨i + 1, by omega, by go_num, by rw [HS.out]; exact ho4, hb4⟩
              case measure => simp [intOf]; omega
            | false =>
              rw [if_neg (by rw [ht]; simp)] at HS
              clear ht
              go_wp2_with fail
              go_roundw
              case rel => exact ⟨i + 1, by omega, by go_num, by rw [HS.out]; exact ho3, hbw⟩
              case measure => simp [intOf]; omega
      · obtain rfl : i = l.length := by omega
        have hd2 : ¬ l.length < l.length := by omega
        go_wp2_with fail
        go_ret
        exact ⟨_, rfl, by rw [HE.out]; exact ho, hb⟩
end Go.Proofs.Ytchdceglcjjggaa
