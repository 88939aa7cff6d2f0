/- The model's EqualTables, by contract. Conditions: as stated. -/
import Derived.Test.YtnelddlbpdpndaaSpecT
namespace Go.Proofs.Ytnelddlbpdpndaa
open Go.RowKit

set_option maxHeartbeats 800000 in
theorem l2Ints_any (v v' : Value) (l l' : List Int) (w : World) (hr : ReadI w v l) (hr' : ReadI w v' l') (hl : l.length ≤ 1000000000) :
    Calls Try.prog 40 #[v, v'] w fun e w' => e = .returned (.bool (eqB l l')) ∧ ∃ m, w' = w.drewN m := by
  obtain ⟨a, cap, rfl, ha⟩ := hr
  obtain ⟨a', cap', rfl, ha'⟩ := hr'
  have HA := Lib.hid ha
  have HA' := Lib.hid ha'
  clear ha ha'
  by_cases hlen : l.length = l'.length
  · have hne : ((l.length : Int) != (l'.length : Int)) = false := by simp [hlen]
    have HL := Lib.hid hlen
    clear hlen
    go_enter Try.func40, Try.ntmps40
    go_wp2_with fail
    go_loopw [5] (fun iv wr => ∃ (k n : Nat), k ≤ l.length ∧ iv = .int .i64 (k : Int) ∧ Hid (l.take k = l'.take k) ∧ wr = w.drewN n) (fun iv _ => l.length - (intOf iv).toNat)
    case atStart => exact ⟨0, 0, by omega, rfl, Lib.hid rfl, rfl⟩
    case round =>
      obtain ⟨k, n, hk, rfl, hsame, rfl⟩ := hrel
      by_cases hlt : k < l.length
      · have hlt' : k < l'.length := by have := HL.out; omega
        obtain ⟨x, rfl, hx⟩ := HA.out k hlt
        obtain ⟨x', rfl, hx'⟩ := HA'.out k hlt'
        have z0 : (0 : Int) ≤ (k : Int) := by omega
        have z1 : (k : Int) < (l.length : Int) := by omega
        have z2 : (k : Int) < (l'.length : Int) := by omega
        by_cases he : l[k] = l'[k]
        · have hb : (l[k] != l'[k]) = false := by simp [he]
          have HE := Lib.hid he
          clear he
          go_wp2_with fail
          go_quiet (fail)
          go_wp2_with fail
          go_roundw
          case rel => exact ⟨k + 1, _, by omega, by go_num, Lib.hid (by rw [List.take_succ_eq_append_getElem hlt, List.take_succ_eq_append_getElem hlt', hsame.out, HE.out]), rfl⟩
          case measure => simp [intOf]; omega
        · have hb : (l[k] != l'[k]) = true := by simpa using he
          have HE := Lib.hid he
          clear he
          go_wp2_with fail
          go_quiet (fail)
          go_wp2_with fail
          go_ret
          exact ⟨ret_b (by unfold eqB; rw [decide_eq_false]; intro e; apply HE.out; simp only [e]), _, World.drewN_drewN _ _ _⟩
      · go_wp2_with fail
        go_ret
        exact ⟨ret_b (by
          unfold eqB
          rw [decide_eq_true]
          have := hsame.out
          rwa [List.take_of_length_le (by omega), List.take_of_length_le (by have := HL.out; omega)] at this), _, rfl⟩
  · have hne : ((l.length : Int) != (l'.length : Int)) = true := by simp; omega
    have HL := Lib.hid hlen
    clear hlen
    go_enter Try.func40, Try.ntmps40
    go_wp2_with fail
    go_ret
    exact ⟨ret_b (by unfold eqB; rw [decide_eq_false]; intro e; exact HL.out (by rw [e])), 0, rfl⟩

/-- The cells of two boxed tables, later. -/
theorem box4 {w wr : World} {c c' : Int} {v v' : Value} {T : TypeId} (hb : Below ((w.alloc (.cells #[.int .i64 c, v] T)).alloc (.cells #[.int .i64 c', v'] T)).heap.size ((w.alloc (.cells #[.int .i64 c, v] T)).alloc (.cells #[.int .i64 c', v'] T)) wr) :
    (wr.cell? ⟨w.heap.size, 0, none⟩ = some (.int .i64 c) ∧ wr.cell? ⟨w.heap.size, 1, none⟩ = some v) ∧ wr.cell? ⟨w.heap.size + 1, 0, none⟩ = some (.int .i64 c') ∧ wr.cell? ⟨w.heap.size + 1, 1, none⟩ = some v' := by
  have h1 := box2 (w := w) ((Below.refl _ _).alloc (Nat.le_refl _) (.cells #[.int .i64 c', v'] T) |>.trans (hb.mono (by simp)))
  have h2 := box2 (w := w.alloc (.cells #[.int .i64 c, v] T)) hb
  exact ⟨h1, by simpa using h2⟩
set_option maxHeartbeats 1600000 in
theorem equalTables_any (c c' : Int) (v v' : Value) (ll ll' : List (List Int)) (w : World) (hr : ReadSS w v ll) (hr' : ReadSS w v' ll') (hl : ll.length ≤ 1000000000) (ht : ∀ i, i < ll.length → (ll.getD i []).length ≤ 1000000000) :
    Calls Try.prog 21 #[.agg #[.int .i64 c, v], .agg #[.int .i64 c', v']] w fun e w' => e = .returned (.bool (eqTb c c' ll ll')) ∧ Below w.heap.size w w' := by
  obtain ⟨a, cap, rfl, ha⟩ := hr
  obtain ⟨a', cap', rfl, ha'⟩ := hr'
  have HA := Lib.hid ha
  have HA' := Lib.hid ha'
  have HT := Lib.hid ht
  clear ha ha' ht
  have hb2 := (((Below.refl w.heap.size w).alloc (Nat.le_refl _) (.cells #[.int .i64 c, .slice a ll.length cap] 27)).alloc (by simp) (.cells #[.int .i64 c', .slice a' ll'.length cap'] 27))
  by_cases hc : c = c'
  · have hn : (c != c') = false := by simp [hc]
    have HE := Lib.hid hc
    clear hc
    by_cases hlen : ll.length = ll'.length
    · have hne : ((ll.length : Int) != (ll'.length : Int)) = false := by simp [hlen]
      have HL := Lib.hid hlen
      clear hlen
      go_enter Try.func21, Try.ntmps21
      go_wp2_with fail
      go_loopw [5] (fun iv wr => ∃ (k : Nat), k ≤ ll.length ∧ iv = .int .i64 (k : Int) ∧ Hid (ll.take k = ll'.take k) ∧ Below ((w.alloc (.cells #[.int .i64 c, .slice a ll.length cap] 27)).alloc (.cells #[.int .i64 c', .slice a' ll'.length cap'] 27)).heap.size ((w.alloc (.cells #[.int .i64 c, .slice a ll.length cap] 27)).alloc (.cells #[.int .i64 c', .slice a' ll'.length cap'] 27)) wr) (fun iv _ => ll.length - (intOf iv).toNat)
      case atStart => exact ⟨0, by omega, rfl, Lib.hid rfl, Below.refl _ _⟩
      case round =>
        obtain ⟨k, hk, rfl, hsame, hb0⟩ := hrel
        obtain ⟨⟨hc0, hc1⟩, hc2, hc3⟩ := box4 hb0
        have hb := hb2.trans (hb0.mono hb2.size)
        have HB := Lib.hid hb0
        clear hb0
        by_cases hlt : k < ll.length
        · have hlt' : k < ll'.length := by have := HL.out; omega
          obtain ⟨x, u, rfl, hx, hu⟩ := HA.out k hlt
          obtain ⟨x', u', rfl, hx', hu'⟩ := HA'.out k hlt'
          have HQ := Lib.hid (fun n => l2Ints_any u u' _ _ (wr.drewN n) ((hu.kept hb).kept (below_drewN (Below.refl _ _) n)) ((hu'.kept hb).kept (below_drewN (Below.refl _ _) n)) (HT.out k hlt))
          have hy := (hb.cell (World.block_lt_of_cell? w _ hx)).trans hx
          have hy' := (hb.cell (World.block_lt_of_cell? w _ hx')).trans hx'
          have z0 : (0 : Int) ≤ (k : Int) := by omega
          have z1 : (k : Int) < (ll.length : Int) := by omega
          have z2 : (k : Int) < (ll'.length : Int) := by omega
          clear hx hx' hu hu'
          by_cases he : ll.getD k [] = ll'.getD k []
          · have hq : eqB (ll.getD k []) (ll'.getD k []) = true := decide_eq_true he
            rw [hq] at HQ
            have HE := Lib.hid he
            clear he hq
            go_wp2_with fail
            go_quiet ((go_at_call 40; exact Calls.quiet_of (HQ.out _)))
            go_wp2_with fail
            go_roundw
            case rel => exact ⟨k + 1, by omega, by go_num, Lib.hid (by rw [take_succ_getD ll [] k hlt, take_succ_getD ll' [] k hlt', hsame.out, HE.out]), below_drewN HB.out _⟩
            case measure => simp [intOf]; omega
          · have hq : eqB (ll.getD k []) (ll'.getD k []) = false := decide_eq_false he
            rw [hq] at HQ
            have HE2 := Lib.hid he
            clear he hq
            go_wp2_with fail
            go_quiet ((go_at_call 40; exact Calls.quiet_of (HQ.out _)))
            go_wp2_with fail
            go_ret
            exact ⟨ret_b (by unfold eqTb; rw [decide_eq_false (p := ll = ll') (by intro e; apply HE2.out; rw [e])]; simp), below_drewN hb _⟩
        · go_wp2_with fail
          go_ret
          exact ⟨ret_b (by unfold eqTb; rw [decide_eq_true HE.out, decide_eq_true (p := ll = ll') (take_eq_all hsame.out (by omega) (by have := HL.out; omega))]; rfl), hb⟩
    · have hne : ((ll.length : Int) != (ll'.length : Int)) = true := by simp; omega
      have HL := Lib.hid hlen
      clear hlen
      go_enter Try.func21, Try.ntmps21
      go_wp2_with fail
      go_ret
      exact ⟨ret_b (by unfold eqTb; rw [decide_eq_false (p := ll = ll') (by intro e; exact HL.out (by rw [e]))]; simp), hb2⟩
  · have hn : (c != c') = true := by simpa using hc
    have HE := Lib.hid hc
    clear hc
    go_enter Try.func21, Try.ntmps21
    go_wp2_with fail
    go_ret
    exact ⟨ret_b (by unfold eqTb; rw [decide_eq_false HE.out]; rfl), hb2⟩
/-- What is held of a region in which tables are loaded and copied: the cells of two boxes, and the second table's rows. -/
theorem keepT {w5 w6 w7 : World} {p q r t : Addr} {u0 u1 u2 u3 : Value} {vx : Value} {ll : List (List Int)} (h : (w6.cell? p = some u0 ∧ w6.cell? q = some u1) ∧ (w6.cell? r = some u2 ∧ w6.cell? t = some u3) ∧ ReadSS w6 vx ll ∧ Below w5.heap.size w5 w6) (hb : Below w6.heap.size w6 w7) :
    (w7.cell? p = some u0 ∧ w7.cell? q = some u1) ∧ (w7.cell? r = some u2 ∧ w7.cell? t = some u3) ∧ ReadSS w7 vx ll ∧ Below w5.heap.size w5 w7 := by
  have k : ∀ {a : Addr} {u : Value}, w6.cell? a = some u → w7.cell? a = some u := fun e => (hb.cell (World.block_lt_of_cell? w6 _ e)).trans e
  exact ⟨⟨k h.1.1, k h.1.2⟩, ⟨k h.2.1.1, k h.2.1.2⟩, h.2.2.1.kept hb, h.2.2.2.trans (hb.mono h.2.2.2.size)⟩
theorem keepQ {w5 w6 w7 : World} {p q r t : Addr} {u0 u1 u2 u3 : Value} (h : ((w6.cell? p = some u0 ∧ w6.cell? q = some u1) ∧ w6.cell? r = some u2 ∧ w6.cell? t = some u3) ∧ Below w5.heap.size w5 w6) (hb : Below w6.heap.size w6 w7) :
    ((w7.cell? p = some u0 ∧ w7.cell? q = some u1) ∧ w7.cell? r = some u2 ∧ w7.cell? t = some u3) ∧ Below w5.heap.size w5 w7 := by
  have k : ∀ {a : Addr} {u : Value}, w6.cell? a = some u → w7.cell? a = some u := fun e => (hb.cell (World.block_lt_of_cell? w6 _ e)).trans e
  exact ⟨⟨⟨k h.1.1.1, k h.1.1.2⟩, k h.1.2.1, k h.1.2.2⟩, h.2.trans (hb.mono h.2.size)⟩
end Go.Proofs.Ytnelddlbpdpndaa
