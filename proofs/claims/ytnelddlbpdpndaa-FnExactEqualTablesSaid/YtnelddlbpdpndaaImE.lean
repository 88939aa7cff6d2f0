/- slices.Equal and slices.EqualFunc at the program's instances, and the program's EqualTables, by contract. Conditions: as stated. -/
import Derived.Test.YtnelddlbpdpndaaImT
namespace Go.Proofs.Ytnelddlbpdpndaa
open Go.RowKit

set_option maxHeartbeats 800000 in
theorem slEqual_any (v v' : Value) (l l' : List Int) (w : World) (hr : ReadI w v l) (hr' : ReadI w v' l') (hl : l.length ≤ 1000000000) :
    Calls Try.prog 42 #[v, v'] w fun e w' => e = .returned (.bool (eqB l l')) ∧ ∃ m, w' = w.drewN m := by
  obtain ⟨a, cap, rfl, ha⟩ := hr
  obtain ⟨a', cap', rfl, ha'⟩ := hr'
  have HA := Lib.hid ha
  have HA' := Lib.hid ha'
  clear ha ha'
  by_cases hlen : l.length = l'.length
  · have hne : ((l.length : Int) != (l'.length : Int)) = false := by simp [hlen]
    have HL := Lib.hid hlen
    clear hlen
    go_enter Try.func42, Try.ntmps42
    go_wp2_with fail
    go_loopw [13] (fun iv wr => ∃ (k n : Nat), k ≤ l.length ∧ iv = .int .i64 (k : Int) ∧ Hid (l.take k = l'.take k) ∧ wr = w.drewN n) (fun iv _ => l.length - (intOf iv).toNat)
    case atStart => exact ⟨0, 0, by omega, rfl, Lib.hid rfl, rfl⟩
    case round =>
      obtain ⟨k, n, hk, rfl, hsame, rfl⟩ := hrel
      by_cases hlt : k < l.length
      · have hlt' : k < l'.length := by have := HL.out; omega
        obtain ⟨x, rfl, hx⟩ := HA.out k hlt
        obtain ⟨x', rfl, hx'⟩ := HA'.out k hlt'
        have z0 : (0 : Int) ≤ (k : Int) := by omega
        have z1 : (k : Int) < (l.length : Int) := by omega
        have z2 : (k : Int) < (l'.length : Int) := by omega
        by_cases he : l[k] = l'[k]
        · have hb : (l[k] != l'[k]) = false := by simp [he]
          have HE := Lib.hid he
          clear he
          go_wp2_with fail
          go_quiet (fail)
          go_wp2_with fail
          go_roundw
          case rel => exact ⟨k + 1, _, by omega, by go_num, Lib.hid (by rw [List.take_succ_eq_append_getElem hlt, List.take_succ_eq_append_getElem hlt', hsame.out, HE.out]), rfl⟩
          case measure => simp [intOf]; omega
        · have hb : (l[k] != l'[k]) = true := by simpa using he
          have HE := Lib.hid he
          clear he
          go_wp2_with fail
          go_quiet (fail)
          go_wp2_with fail
          go_ret
          exact ⟨ret_b (by unfold eqB; rw [decide_eq_false]; intro e; apply HE.out; simp only [e]), _, World.drewN_drewN _ _ _⟩
      · go_wp2_with fail
        go_ret
        exact ⟨ret_b (by
          unfold eqB
          rw [decide_eq_true]
          have := hsame.out
          rwa [List.take_of_length_le (by omega), List.take_of_length_le (by have := HL.out; omega)] at this), _, rfl⟩
  · have hne : ((l.length : Int) != (l'.length : Int)) = true := by simp; omega
    have HL := Lib.hid hlen
    clear hlen
    go_enter Try.func42, Try.ntmps42
    go_wp2_with fail
    go_ret
    exact ⟨ret_b (by unfold eqB; rw [decide_eq_false]; intro e; exact HL.out (by rw [e])), 0, rfl⟩

set_option maxHeartbeats 1600000 in
theorem slEqualFunc_any (v v' : Value) (ll ll' : List (List Int)) (w : World) (hr : ReadSS w v ll) (hr' : ReadSS w v' ll') (hl : ll.length ≤ 1000000000) (ht : ∀ i, i < ll.length → (ll.getD i []).length ≤ 1000000000) :
    Calls Try.prog 41 #[v, v', .func (.func 42) #[] #[]] w fun e w' => e = .returned (.bool (decide (ll = ll'))) ∧ Below w.heap.size w w' := by
  obtain ⟨a, cap, rfl, ha⟩ := hr
  obtain ⟨a', cap', rfl, ha'⟩ := hr'
  have HA := Lib.hid ha
  have HA' := Lib.hid ha'
  have HT := Lib.hid ht
  clear ha ha' ht
  by_cases hlen : ll.length = ll'.length
  · have hne : ((ll.length : Int) != (ll'.length : Int)) = false := by simp [hlen]
    have HL := Lib.hid hlen
    clear hlen
    go_enter Try.func41, Try.ntmps41
    go_wp2_with fail
    go_loopw [17] (fun iv wr => ∃ (k : Nat), k ≤ ll.length ∧ iv = .int .i64 (k : Int) ∧ Hid (ll.take k = ll'.take k) ∧ Below w.heap.size w wr) (fun iv _ => ll.length - (intOf iv).toNat)
    case atStart => exact ⟨0, by omega, rfl, Lib.hid rfl, Below.refl _ _⟩
    case round =>
      obtain ⟨k, hk, rfl, hsame, hb⟩ := hrel
      by_cases hlt : k < ll.length
      · have hlt' : k < ll'.length := by have := HL.out; omega
        obtain ⟨x, u, rfl, hx, hu⟩ := HA.out k hlt
        obtain ⟨x', u', rfl, hx', hu'⟩ := HA'.out k hlt'
        have HQ := Lib.hid (slEqual_any u u' _ _ wr (hu.kept hb) (hu'.kept hb) (HT.out k hlt))
        have hy := (hb.cell (World.block_lt_of_cell? w _ hx)).trans hx
        have hy' := (hb.cell (World.block_lt_of_cell? w _ hx')).trans hx'
        have z0 : (0 : Int) ≤ (k : Int) := by omega
        have z1 : (k : Int) < (ll.length : Int) := by omega
        have z2 : (k : Int) < (ll'.length : Int) := by omega
        clear hx hx' hu hu'
        by_cases he : ll.getD k [] = ll'.getD k []
        · have hq : eqB (ll.getD k []) (ll'.getD k []) = true := decide_eq_true he
          rw [hq] at HQ
          have HE := Lib.hid he
          clear he hq
          go_wp2_with fail
          refine HQ.out.mono ?_
          rintro e w' ⟨rfl, m, rfl⟩
          go_wp2_with fail
          go_roundw
          case rel => exact ⟨k + 1, by omega, by go_num, Lib.hid (by rw [take_succ_getD ll [] k hlt, take_succ_getD ll' [] k hlt', hsame.out, HE.out]), below_drewN hb _⟩
          case measure => simp [intOf]; omega
        · have hq : eqB (ll.getD k []) (ll'.getD k []) = false := decide_eq_false he
          rw [hq] at HQ
          have HE2 := Lib.hid he
          clear he hq
          go_wp2_with fail
          refine HQ.out.mono ?_
          rintro e w' ⟨rfl, m, rfl⟩
          go_wp2_with fail
          go_ret
          exact ⟨ret_b (by rw [decide_eq_false (p := ll = ll') (by intro e; apply HE2.out; rw [e])]), below_drewN hb _⟩
      · go_wp2_with fail
        go_ret
        exact ⟨ret_b (by rw [decide_eq_true (p := ll = ll') (take_eq_all hsame.out (by omega) (by have := HL.out; omega))]), hb⟩
  · have hne : ((ll.length : Int) != (ll'.length : Int)) = true := by simp; omega
    have HL := Lib.hid hlen
    clear hlen
    go_enter Try.func41, Try.ntmps41
    go_wp2_with fail
    go_ret
    exact ⟨ret_b (by rw [decide_eq_false (p := ll = ll') (by intro e; exact HL.out (by rw [e]))]), Below.refl _ _⟩

set_option maxHeartbeats 1600000 in
theorem implEqualTables_any (c c' : Int) (v v' : Value) (ll ll' : List (List Int)) (w : World) (hr : ReadSS w v ll) (hr' : ReadSS w v' ll') (hl : ll.length ≤ 1000000000) (ht : ∀ i, i < ll.length → (ll.getD i []).length ≤ 1000000000) :
    Calls Try.prog 22 #[.agg #[.int .i64 c, v], .agg #[.int .i64 c', v']] w fun e w' => e = .returned (.bool (eqTb c c' ll ll')) ∧ Below w.heap.size w w' := by
  have hb2 : Below w.heap.size w ((w.alloc (.cells #[.int .i64 c, v] 27)).alloc (.cells #[.int .i64 c', v'] 27)) := (((Below.refl w.heap.size w).alloc (Nat.le_refl _) (.cells #[.int .i64 c, v] 27)).alloc (by simp) (.cells #[.int .i64 c', v'] 27))
  obtain ⟨⟨x0, x1⟩, x2, x3⟩ := box4 (w := w) (c := c) (v := v) (c' := c') (v' := v') (T := 27) (Below.refl _ _)
  have HQ := Lib.hid (slEqualFunc_any v v' ll ll' _ (hr.kept hb2) (hr'.kept hb2) hl ht)
  have HB := Lib.hid hb2
  clear hb2
  obtain ⟨a, cap, rfl, ha⟩ := hr
  obtain ⟨a', cap', rfl, ha'⟩ := hr'
  clear ha ha' ht
  by_cases hc : c = c'
  · have hn : (c == c') = true := by simp [hc]
    have HE := Lib.hid hc
    clear hc
    go_enter Try.func22, Try.ntmps22
    go_wp2_with fail
    refine HQ.out.mono ?_
    rintro e w' ⟨rfl, hb⟩
    go_wp2_with fail
    go_ret
    exact ⟨ret_b (by unfold eqTb; rw [decide_eq_true HE.out]; simp), HB.out.trans (hb.mono HB.out.size)⟩
  · have hn : (c == c') = false := by simpa using hc
    have HE := Lib.hid hc
    clear hc
    go_enter Try.func22, Try.ntmps22
    go_wp2_with fail
    go_ret
    exact ⟨ret_b (by unfold eqTb; rw [decide_eq_false HE.out]; rfl), HB.out⟩
end Go.Proofs.Ytnelddlbpdpndaa
