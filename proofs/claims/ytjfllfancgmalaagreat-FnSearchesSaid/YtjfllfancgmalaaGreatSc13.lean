/- Texts of this claim, merged: SpecT2, SeaG, ClnA, ClnB, MarkD. Conditions: as stated. -/
import Derived.Test.YtjfllfancgmalaaGreatSc2
import Derived.Test.YtjfllfancgmalaaGreatSc12
import Derived.Test.YtjfllfancgmalaaGreatSc11
import Derived.Laws.AppendOwnNone
import Derived.Lib.SliceRun
import Derived.Deep.AppendLies
namespace Go.Proofs.YtjfllfancgmalaaGreat
open Go.RowKit

set_option maxHeartbeats 800000 in
theorem l2Ints_any (v v' : Value) (l l' : List Int) (w : World) (hr : ReadI w v l) (hr' : ReadI w v' l') (hl : l.length ≤ 1000000000) :
    Calls Tryz.prog 55 #[v, v'] w fun e w' => e = .returned (.bool (eqB l l')) ∧ ∃ m, w' = w.drewN m := by
  obtain ⟨a, cap, rfl, ha⟩ := hr
  obtain ⟨a', cap', rfl, ha'⟩ := hr'
  have HA := Lib.hid ha
  have HA' := Lib.hid ha'
  clear ha ha'
  by_cases hlen : l.length = l'.length
  · have hne : ((l.length : Int) != (l'.length : Int)) = false := by simp [hlen]
    have HL := Lib.hid hlen
    clear hlen
    go_enter Tryz.func55, Tryz.ntmps55
    go_wp2_with fail
    go_loopw [5] (fun iv wr => ∃ (k n : Nat), k ≤ l.length ∧ iv = .int .i64 (k : Int) ∧ Hid (l.take k = l'.take k) ∧ wr = w.drewN n) (fun iv _ => l.length - (intOf iv).toNat)
    case atStart => exact ⟨0, 0, by omega, rfl, Lib.hid rfl, rfl⟩
    case round =>
      obtain ⟨k, n, hk, rfl, hsame, rfl⟩ := hrel
      by_cases hlt : k < l.length
      · have hlt' : k < l'.length := by have := HL.out; omega
        obtain ⟨x, rfl, hx⟩ := HA.out k hlt
        obtain ⟨x', rfl, hx'⟩ := HA'.out k hlt'
        have z0 : (0 : Int) ≤ (k : Int) := by omega
        have z1 : (k : Int) < (l.length : Int) := by omega
        have z2 : (k : Int) < (l'.length : Int) := by omega
        by_cases he : l[k] = l'[k]
        · have hb : (l[k] != l'[k]) = false := by simp [he]
          have HE := Lib.hid he
          clear he
          go_wp2_with fail
          go_quiet (fail)
          go_wp2_with fail
          go_roundw
          case rel => exact ⟨k + 1, _, by omega, by go_num, Lib.hid (by rw [List.take_succ_eq_append_getElem hlt, List.take_succ_eq_append_getElem hlt', hsame.out, HE.out]), rfl⟩
          case measure => simp [intOf]; omega
        · have hb : (l[k] != l'[k]) = true := by simpa using he
          have HE := Lib.hid he
          clear he
          go_wp2_with fail
          go_quiet (fail)
          go_wp2_with fail
          go_ret
          exact ⟨ret_b (by unfold eqB; rw [decide_eq_false]; intro e; apply HE.out; simp only [e]), _, World.drewN_drewN _ _ _⟩
      · go_wp2_with fail
        go_ret
        exact ⟨ret_b (by
          unfold eqB
          rw [decide_eq_true]
          have := hsame.out
          rwa [List.take_of_length_le (by omega), List.take_of_length_le (by have := HL.out; omega)] at this), _, rfl⟩
  · have hne : ((l.length : Int) != (l'.length : Int)) = true := by simp; omega
    have HL := Lib.hid hlen
    clear hlen
    go_enter Tryz.func55, Tryz.ntmps55
    go_wp2_with fail
    go_ret
    exact ⟨ret_b (by unfold eqB; rw [decide_eq_false]; intro e; exact HL.out (by rw [e])), 0, rfl⟩

/-- The cells of two boxed tables, later. -/
theorem box4 {w wr : World} {c c' : Int} {v v' : Value} {T : TypeId} (hb : Below ((w.alloc (.cells #[.int .i64 c, v] T)).alloc (.cells #[.int .i64 c', v'] T)).heap.size ((w.alloc (.cells #[.int .i64 c, v] T)).alloc (.cells #[.int .i64 c', v'] T)) wr) :
    (wr.cell? ⟨w.heap.size, 0, none⟩ = some (.int .i64 c) ∧ wr.cell? ⟨w.heap.size, 1, none⟩ = some v) ∧ wr.cell? ⟨w.heap.size + 1, 0, none⟩ = some (.int .i64 c') ∧ wr.cell? ⟨w.heap.size + 1, 1, none⟩ = some v' := by
  have h1 := box2 (w := w) ((Below.refl _ _).alloc (Nat.le_refl _) (.cells #[.int .i64 c', v'] T) |>.trans (hb.mono (by simp)))
  have h2 := box2 (w := w.alloc (.cells #[.int .i64 c, v] T)) hb
  exact ⟨h1, by simpa using h2⟩
set_option maxHeartbeats 1600000 in
theorem equalTables_any (c c' : Int) (v v' : Value) (ll ll' : List (List Int)) (w : World) (hr : ReadSS w v ll) (hr' : ReadSS w v' ll') (hl : ll.length ≤ 1000000000) (ht : ∀ i, i < ll.length → (ll.getD i []).length ≤ 1000000000) :
    Calls Tryz.prog 29 #[.agg #[.int .i64 c, v], .agg #[.int .i64 c', v']] w fun e w' => e = .returned (.bool (eqTb c c' ll ll')) ∧ Below w.heap.size w w' := by
  obtain ⟨a, cap, rfl, ha⟩ := hr
  obtain ⟨a', cap', rfl, ha'⟩ := hr'
  have HA := Lib.hid ha
  have HA' := Lib.hid ha'
  have HT := Lib.hid ht
  clear ha ha' ht
  have hb2 := (((Below.refl w.heap.size w).alloc (Nat.le_refl _) (.cells #[.int .i64 c, .slice a ll.length cap] 26)).alloc (by simp) (.cells #[.int .i64 c', .slice a' ll'.length cap'] 26))
  by_cases hc : c = c'
  · have hn : (c != c') = false := by simp [hc]
    have HE := Lib.hid hc
    clear hc
    by_cases hlen : ll.length = ll'.length
    · have hne : ((ll.length : Int) != (ll'.length : Int)) = false := by simp [hlen]
      have HL := Lib.hid hlen
      clear hlen
      go_enter Tryz.func29, Tryz.ntmps29
      go_wp2_with fail
      go_loopw [5] (fun iv wr => ∃ (k : Nat), k ≤ ll.length ∧ iv = .int .i64 (k : Int) ∧ Hid (ll.take k = ll'.take k) ∧ Below ((w.alloc (.cells #[.int .i64 c, .slice a ll.length cap] 26)).alloc (.cells #[.int .i64 c', .slice a' ll'.length cap'] 26)).heap.size ((w.alloc (.cells #[.int .i64 c, .slice a ll.length cap] 26)).alloc (.cells #[.int .i64 c', .slice a' ll'.length cap'] 26)) wr) (fun iv _ => ll.length - (intOf iv).toNat)
      case atStart => exact ⟨0, by omega, rfl, Lib.hid rfl, Below.refl _ _⟩
      case round =>
        obtain ⟨k, hk, rfl, hsame, hb0⟩ := hrel
        obtain ⟨⟨hc0, hc1⟩, hc2, hc3⟩ := box4 hb0
        have hb := hb2.trans (hb0.mono hb2.size)
        have HB := Lib.hid hb0
        clear hb0
        by_cases hlt : k < ll.length
        · have hlt' : k < ll'.length := by have := HL.out; omega
          obtain ⟨x, u, rfl, hx, hu⟩ := HA.out k hlt
          obtain ⟨x', u', rfl, hx', hu'⟩ := HA'.out k hlt'
          have HQ := Lib.hid (fun n => l2Ints_any u u' _ _ (wr.drewN n) ((hu.kept hb).kept (below_drewN (Below.refl _ _) n)) ((hu'.kept hb).kept (below_drewN (Below.refl _ _) n)) (HT.out k hlt))
          have hy := (hb.cell (World.block_lt_of_cell? w _ hx)).trans hx
          have hy' := (hb.cell (World.block_lt_of_cell? w _ hx')).trans hx'
          have z0 : (0 : Int) ≤ (k : Int) := by omega
          have z1 : (k : Int) < (ll.length : Int) := by omega
          have z2 : (k : Int) < (ll'.length : Int) := by omega
          clear hx hx' hu hu'
          by_cases he : ll.getD k [] = ll'.getD k []
          · have hq : eqB (ll.getD k []) (ll'.getD k []) = true := decide_eq_true he
            rw [hq] at HQ
            have HE := Lib.hid he
            clear he hq
            go_wp2_with fail
            go_quiet ((go_at_call 55; exact Calls.quiet_of (HQ.out _)))
            go_wp2_with fail
            go_roundw
            case rel => exact ⟨k + 1, by omega, by go_num, Lib.hid (by rw [take_succ_getD ll [] k hlt, take_succ_getD ll' [] k hlt', hsame.out, HE.out]), below_drewN HB.out _⟩
            case measure => simp [intOf]; omega
          · have hq : eqB (ll.getD k []) (ll'.getD k []) = false := decide_eq_false he
            rw [hq] at HQ
            have HE2 := Lib.hid he
            clear he hq
            go_wp2_with fail
            go_quiet ((go_at_call 55; exact Calls.quiet_of (HQ.out _)))
            go_wp2_with fail
            go_ret
            exact ⟨ret_b (by unfold eqTb; rw [decide_eq_false (p := ll = ll') (by intro e; apply HE2.out; rw [e])]; simp), below_drewN hb _⟩
        · go_wp2_with fail
          go_ret
          exact ⟨ret_b (by unfold eqTb; rw [decide_eq_true HE.out, decide_eq_true (p := ll = ll') (take_eq_all hsame.out (by omega) (by have := HL.out; omega))]; rfl), hb⟩
    · have hne : ((ll.length : Int) != (ll'.length : Int)) = true := by simp; omega
      have HL := Lib.hid hlen
      clear hlen
      go_enter Tryz.func29, Tryz.ntmps29
      go_wp2_with fail
      go_ret
      exact ⟨ret_b (by unfold eqTb; rw [decide_eq_false (p := ll = ll') (by intro e; exact HL.out (by rw [e]))]; simp), hb2⟩
  · have hn : (c != c') = true := by simpa using hc
    have HE := Lib.hid hc
    clear hc
    go_enter Tryz.func29, Tryz.ntmps29
    go_wp2_with fail
    go_ret
    exact ⟨ret_b (by unfold eqTb; rw [decide_eq_false HE.out]; rfl), hb2⟩
/-- What is held of a region in which tables are loaded and copied: the cells of two boxes, and the second table's rows. -/
theorem keepT {w5 w6 w7 : World} {p q r t : Addr} {u0 u1 u2 u3 : Value} {vx : Value} {ll : List (List Int)} (h : (w6.cell? p = some u0 ∧ w6.cell? q = some u1) ∧ (w6.cell? r = some u2 ∧ w6.cell? t = some u3) ∧ ReadSS w6 vx ll ∧ Below w5.heap.size w5 w6) (hb : Below w6.heap.size w6 w7) :
    (w7.cell? p = some u0 ∧ w7.cell? q = some u1) ∧ (w7.cell? r = some u2 ∧ w7.cell? t = some u3) ∧ ReadSS w7 vx ll ∧ Below w5.heap.size w5 w7 := by
  have k : ∀ {a : Addr} {u : Value}, w6.cell? a = some u → w7.cell? a = some u := fun e => (hb.cell (World.block_lt_of_cell? w6 _ e)).trans e
  exact ⟨⟨k h.1.1, k h.1.2⟩, ⟨k h.2.1.1, k h.2.1.2⟩, h.2.2.1.kept hb, h.2.2.2.trans (hb.mono h.2.2.2.size)⟩
theorem keepQ {w5 w6 w7 : World} {p q r t : Addr} {u0 u1 u2 u3 : Value} (h : ((w6.cell? p = some u0 ∧ w6.cell? q = some u1) ∧ w6.cell? r = some u2 ∧ w6.cell? t = some u3) ∧ Below w5.heap.size w5 w6) (hb : Below w6.heap.size w6 w7) :
    ((w7.cell? p = some u0 ∧ w7.cell? q = some u1) ∧ w7.cell? r = some u2 ∧ w7.cell? t = some u3) ∧ Below w5.heap.size w5 w7 := by
  have k : ∀ {a : Addr} {u : Value}, w6.cell? a = some u → w7.cell? a = some u := fun e => (hb.cell (World.block_lt_of_cell? w6 _ e)).trans e
  exact ⟨⟨⟨k h.1.1.1, k h.1.1.2⟩, k h.1.2.1, k h.1.2.2⟩, h.2.trans (hb.mono h.2.size)⟩
end Go.Proofs.YtjfllfancgmalaaGreat
namespace Go.Proofs.YtjfllfancgmalaaGreat
open Go.RowKit

def eqSea (c c' : Int) (ll ll' : List (List Int)) (m m' at_ at' : Int) (F F' : List (Int × Int)) (t t' : Int) : Bool := eqTb c c' ll ll' && (m == m') && (at_ == at') && decide (F = F') && (t == t')
section
set_option maxRecDepth 20000
set_option maxHeartbeats 1600000
theorem equalSearches8_any (c c' m m' at_ at' t t' : Int) (v v' f f' : Value) (ll ll' : List (List Int)) (F F' : List (Int × Int)) (w : World) (hr : ReadSS w v ll) (hr' : ReadSS w v' ll') (hl : ll.length ≤ 1000000000) (ht : ∀ i, i < ll.length → (ll.getD i []).length ≤ 1000000000) (hf : ReadD w f F) (hf' : ReadD w f' F') (hF : F.length ≤ 1048576) :
    Calls Tryz.prog 7 #[srcV c v m at_ f t, srcV c' v' m' at' f' t'] w fun e w' => e = .returned (.bool (eqSea c c' ll ll' m m' at_ at' F F' t t')) ∧ Below w.heap.size w w' := by
  have HT := Lib.hid (fun w' (hb : Below w.heap.size w w') => equalTables_any c c' v v' ll ll' w' (hr.kept hb) (hr'.kept hb) hl ht)
  have HD := Lib.hid (fun w' (hb : Below w.heap.size w w') => sameDeps_any f f' F F' w' (hf.kept hb) (hf'.kept hb) hF)
  have hb1 := (Below.refl w.heap.size w).alloc (Nat.le_refl _) (.cells #[.int .i64 c, v, .int .i64 m, .int .i64 at_, f, .int .i64 t] 29)
  have h12 := (Below.refl (w.alloc (.cells #[.int .i64 c, v, .int .i64 m, .int .i64 at_, f, .int .i64 t] 29)).heap.size (w.alloc (.cells #[.int .i64 c, v, .int .i64 m, .int .i64 at_, f, .int .i64 t] 29))).alloc (Nat.le_refl _) (.cells #[.int .i64 c', v', .int .i64 m', .int .i64 at', f', .int .i64 t'] 29)
  have hb2 := hb1.trans (h12.mono hb1.size)
  have HSA := Lib.hid ((SBx.mk' w 29 c v m at_ f t).kept h12)
  have hs2 := SBx.mk' (w.alloc (.cells #[.int .i64 c, v, .int .i64 m, .int .i64 at_, f, .int .i64 t] 29)) 29 c' v' m' at' f' t'
  rw [World.size_alloc] at hs2
  have HSB := Lib.hid hs2
  have HB := Lib.hid hb2
  obtain ⟨a, cap, rfl, -⟩ := hr
  obtain ⟨a', cap', rfl, -⟩ := hr'
  obtain ⟨af, capf, rfl, -⟩ := hf
  obtain ⟨af', capf', rfl, -⟩ := hf'
  obtain ⟨⟨c0, c1⟩, ⟨c2, c3⟩, c4, c5⟩ := HSA.out
  obtain ⟨⟨d0, d1⟩, ⟨d2, d3⟩, d4, d5⟩ := HSB.out
  have hE : eqSea c c' ll ll' m m' at_ at' F F' t t' = (eqTb c c' ll ll' && (m == m') && (at_ == at') && decide (F = F') && (t == t')) := rfl
  obtain ⟨e1, he1⟩ : ∃ e1, e1 = eqTb c c' ll ll' := ⟨_, rfl⟩
  obtain ⟨e4, he4⟩ : ∃ e4, e4 = decide (F = F') := ⟨_, rfl⟩
  obtain ⟨e2, he2⟩ : ∃ e2, (m == m') = e2 := ⟨_, rfl⟩
  obtain ⟨e3, he3⟩ : ∃ e3, (at_ == at') = e3 := ⟨_, rfl⟩
  obtain ⟨e5, he5⟩ : ∃ e5, (t == t') = e5 := ⟨_, rfl⟩
  rw [← he1, ← he4, he2, he3, he5] at hE
  rw [← he1] at HT
  rw [← he4] at HD
  have HE := Lib.hid hE
  unfold srcV
  clear hb1 h12 hb2 hs2 ht he1 he4 hE
  cases e1 with
  | false =>
    go_enter Tryz.func7, Tryz.ntmps7
    go_wp2_with fail
    refine (HT.out _ HB.out).mono ?_
    rintro e w1 ⟨rfl, b1⟩
    have hb3 := HB.out.trans (b1.mono HB.out.size)
    go_wp2_with fail
    go_ret
    exact ⟨ret_b (by rw [HE.out]; rfl), hb3⟩
  | true =>
    cases e2 with
    | false =>
      go_enter Tryz.func7, Tryz.ntmps7
      go_wp2_with fail
      refine (HT.out _ HB.out).mono ?_
      rintro e w1 ⟨rfl, b1⟩
      have hb3 := HB.out.trans (b1.mono HB.out.size)
      have HS1 := Lib.hid (HSA.out.kept b1)
      have HS2 := Lib.hid (HSB.out.kept b1)
      clear b1 c0 c1 c2 c3 c4 c5 d0 d1 d2 d3 d4 d5
      obtain ⟨⟨c0, c1⟩, ⟨c2, c3⟩, c4, c5⟩ := HS1.out
      obtain ⟨⟨d0, d1⟩, ⟨d2, d3⟩, d4, d5⟩ := HS2.out
      go_wp2_with fail
      go_ret
      exact ⟨ret_b (by rw [HE.out]; rfl), hb3⟩
    | true =>
      cases e3 with
      | false =>
        go_enter Tryz.func7, Tryz.ntmps7
        go_wp2_with fail
        refine (HT.out _ HB.out).mono ?_
        rintro e w1 ⟨rfl, b1⟩
        have hb3 := HB.out.trans (b1.mono HB.out.size)
        have HS1 := Lib.hid (HSA.out.kept b1)
        have HS2 := Lib.hid (HSB.out.kept b1)
        clear b1 c0 c1 c2 c3 c4 c5 d0 d1 d2 d3 d4 d5
        obtain ⟨⟨c0, c1⟩, ⟨c2, c3⟩, c4, c5⟩ := HS1.out
        obtain ⟨⟨d0, d1⟩, ⟨d2, d3⟩, d4, d5⟩ := HS2.out
        go_wp2_with fail
        go_ret
        exact ⟨ret_b (by rw [HE.out]; rfl), hb3⟩
      | true =>
        go_enter Tryz.func7, Tryz.ntmps7
        go_wp2_with fail
        refine (HT.out _ HB.out).mono ?_
        rintro e w1 ⟨rfl, b1⟩
        have hb3 := HB.out.trans (b1.mono HB.out.size)
        have HS1 := Lib.hid (HSA.out.kept b1)
        have HS2 := Lib.hid (HSB.out.kept b1)
        clear b1 c0 c1 c2 c3 c4 c5 d0 d1 d2 d3 d4 d5
        obtain ⟨⟨c0, c1⟩, ⟨c2, c3⟩, c4, c5⟩ := HS1.out
        obtain ⟨⟨d0, d1⟩, ⟨d2, d3⟩, d4, d5⟩ := HS2.out
        go_wp2_with fail
        refine (HD.out _ hb3).mono ?_
        rintro e w2 ⟨rfl, b2⟩
        have hb4 := hb3.trans (b2.mono hb3.size)
        have HS3 := Lib.hid (HS1.out.kept b2)
        have HS4 := Lib.hid (HS2.out.kept b2)
        clear b2 c0 c1 c2 c3 c4 c5 d0 d1 d2 d3 d4 d5
        obtain ⟨⟨c0, c1⟩, ⟨c2, c3⟩, c4, c5⟩ := HS3.out
        obtain ⟨⟨d0, d1⟩, ⟨d2, d3⟩, d4, d5⟩ := HS4.out
        cases e4 with
        | false =>
          go_wp2_with fail
          go_ret
          exact ⟨ret_b (by rw [HE.out]; rfl), hb4⟩
        | true =>
          go_wp2_with fail
          go_ret
          exact ⟨ret_b (by rw [HE.out]; rfl), hb4⟩
end
end Go.Proofs.YtjfllfancgmalaaGreat
namespace Go.Proofs.YtjfllfancgmalaaGreat
open Go.RowKit

section
variable {P : Program} {w : World}
theorem run_append_all (base : Nat) (t ty e : TypeId) (i : TypeInfo) (z : Value) (size bytes : Nat) (ht : P.underlying t = some (.slice e)) (hi : P.info? e = some i) (hz : i.zero = some z)
    (hsize : i.size = size) (hby : i.bytes = bytes) (hzs : z.cells.size = size) (hsz : 0 < size)
    (v : Value) (n : Nat) (xs : List Value) (hown : w.ownsRow base e size v n xs)
    (a : Option Addr) (m c : Nat) (news : List Value) (hl : news.length = m * size) (hnews : ∀ j u, news[j]? = some u → ∃ x, a = some x ∧ w.cell? (x.add j) = some u) (h1 : ∀ u ∈ news, u.oneCell' = true)
    (h63 : n + m ≤ maxLen) (hbytes : (n + m) * bytes ≤ 140737488355328) (hbase : base ≤ w.heap.size) :
    ∃ v' w', (Builtin.append_ #[t, t] ty #[v, .slice a m c]).run P w = .ok v' w' ∧ w'.ownsRow base e size v' (n + m) (xs ++ news) ∧ w.grownBy w' v.ownBlock := by
  cases a with
  | some x =>
    obtain ⟨v', w', h2, h3, h4, -⟩ := run_append_own_at (P := P) w base t ty e i z size bytes ht hi hz hsize hby hzs hsz v n xs hown x m c news hl (fun j u hu => by
      obtain ⟨y, hy, hc⟩ := hnews j u hu
      cases hy
      exact hc) h1 h63 hbytes hbase
    exact ⟨v', w', h2, h3, h4⟩
  | none =>
    have hn : news = [] := by
      cases news with
      | nil => rfl
      | cons u us =>
        obtain ⟨y, hy, -⟩ := hnews 0 u rfl
        cases hy
    subst hn
    have hm : m = 0 := by
      rcases Nat.eq_zero_or_pos m with h | h
      · exact h
      · exfalso
        have := Nat.mul_pos h hsz
        rw [← hl] at this
        exact Nat.lt_irrefl 0 this
    subst hm
    refine ⟨v, w, ?_, by rw [Nat.add_zero, List.append_nil]; exact hown, ⟨rfl, rfl, rfl, Nat.le_refl _, fun _ _ _ => rfl⟩⟩
    rcases hown.2 with ⟨rfl, rfl⟩ | ⟨g, cap, cur, rfl, _, _, hnc, _⟩
    · simp [Builtin.append_, run_underlying ht, sizeOf, typeInfo, hi, Builtin.lenOf, Builtin.firstCells]
    · simp [Builtin.append_, run_underlying ht, sizeOf, typeInfo, hi, Builtin.lenOf, Builtin.firstCells, hnc, storeCells]
theorem wp_append_all {o : Oper} {a : Act} {K : Act → World → Prop} {Q : Exit → Act → World → Prop} (s x : Operand) (t : TypeId)
    (ho : o.op = .call { callee := .builtin .append, args := #[s, x], argTypes := #[t, t] })
    (base : Nat) (e : TypeId) (i : TypeInfo) (z : Value) (size bytes : Nat) (ht : P.underlying t = some (.slice e)) (hi : P.info? e = some i) (hz : i.zero = some z)
    (hsize : i.size = size) (hby : i.bytes = bytes) (hzs : z.cells.size = size) (hsz : 0 < size)
    (v : Value) (n : Nat) (xs : List Value) (hs : a.eval s = v) (hown : w.ownsRow base e size v n xs)
    (ad : Option Addr) (m c : Nat) (news : List Value) (hx : a.eval x = .slice ad m c) (hl : news.length = m * size) (hnews : ∀ j u, news[j]? = some u → ∃ x, ad = some x ∧ w.cell? (x.add j) = some u) (h1 : ∀ u ∈ news, u.oneCell' = true)
    (h63 : n + m ≤ maxLen) (hbytes : (n + m) * bytes ≤ 140737488355328) (hbase : base ≤ w.heap.size)
    (h : ∀ v' w', w'.ownsRow base e size v' (n + m) (xs ++ news) → w.grownBy w' v.ownBlock → K (a.put o.dst v') w') : o.wp P a w K Q := by
  obtain ⟨v', w', hr, h2, h3⟩ := run_append_all (P := P) (w := w) base t o.type e i z size bytes ht hi hz hsize hby hzs hsz v n xs hown ad m c news hl hnews h1 h63 hbytes hbase
  unfold Oper.wp execOp
  simp only [ho, resolve, invoke, builtin, Sem.run_bind, Sem.run_pure, Result.andThen_ok, List.map_toArray, List.map_cons, List.map_nil, hs, hx, hr]
  exact h v' w' h2 h3
theorem wpList_append_all {ops : Array Oper} {rest : List Oper} {o : Oper} {a : Act} {Q : Exit → Act → World → Prop} (hgd : o.guard = none) (s x : Operand) (t : TypeId)
    (ho : o.op = .call { callee := .builtin .append, args := #[s, x], argTypes := #[t, t] })
    (base : Nat) (e : TypeId) (i : TypeInfo) (z : Value) (size bytes : Nat) (ht : P.underlying t = some (.slice e)) (hi : P.info? e = some i) (hz : i.zero = some z)
    (hsize : i.size = size) (hby : i.bytes = bytes) (hzs : z.cells.size = size) (hsz : 0 < size)
    (v : Value) (n : Nat) (xs : List Value) (hs : a.eval s = v) (hown : w.ownsRow base e size v n xs)
    (ad : Option Addr) (m c : Nat) (news : List Value) (hx : a.eval x = .slice ad m c) (hl : news.length = m * size) (hnews : ∀ j u, news[j]? = some u → ∃ x, ad = some x ∧ w.cell? (x.add j) = some u) (h1 : ∀ u ∈ news, u.oneCell' = true)
    (h63 : n + m ≤ maxLen) (hbytes : (n + m) * bytes ≤ 140737488355328) (hbase : base ≤ w.heap.size)
    (h : ∀ v' w', w'.ownsRow base e size v' (n + m) (xs ++ news) → w.grownBy w' v.ownBlock → wpList P ops Q rest (a.put o.dst v') w') : wpList P ops Q (o :: rest) a w :=
  wpList_plain hgd fun _ hK => wp_append_all s x t ho base e i z size bytes ht hi hz hsize hby hzs hsz v n xs hs hown ad m c news hx hl hnews h1 h63 hbytes hbase fun v' w' h2 h3 => hK _ _ (h v' w' h2 h3)
theorem step_append_all {ops : Array Oper} {o : Oper} {a : Act} {K : Act → World → Prop} {Q : Exit → Act → World → Prop} {E : Prop} (hgd : o.guard = none) (s x : Operand) (t : TypeId)
    (ho : o.op = .call { callee := .builtin .append, args := #[s, x], argTypes := #[t, t] })
    (base : Nat) (e : TypeId) (i : TypeInfo) (z : Value) (size bytes : Nat) (ht : P.underlying t = some (.slice e)) (hi : P.info? e = some i) (hz : i.zero = some z)
    (hsize : i.size = size) (hby : i.bytes = bytes) (hzs : z.cells.size = size) (hsz : 0 < size)
    (v : Value) (n : Nat) (xs : List Value) (hs : a.eval s = v) (hown : w.ownsRow base e size v n xs)
    (ad : Option Addr) (m c : Nat) (news : List Value) (hx : a.eval x = .slice ad m c) (hl : news.length = m * size) (hnews : ∀ j u, news[j]? = some u → ∃ x, ad = some x ∧ w.cell? (x.add j) = some u) (h1 : ∀ u ∈ news, u.oneCell' = true)
    (h63 : n + m ≤ maxLen) (hbytes : (n + m) * bytes ≤ 140737488355328) (hbase : base ≤ w.heap.size)
    (h : ∀ v' w', w'.ownsRow base e size v' (n + m) (xs ++ news) → w.grownBy w' v.ownBlock → K (a.put o.dst v') w') :
    if Region.wanted o (yielded ops a.tmps) = true then Oper.wp P o a w K Q else E := by
  have hw : Region.wanted o (yielded ops a.tmps) = true := by simp [Region.wanted, hgd]
  rw [if_pos hw]
  exact wp_append_all s x t ho base e i z size bytes ht hi hz hsize hby hzs hsz v n xs hs hown ad m c news hx hl hnews h1 h63 hbytes hbase h
end
theorem intsV_each (l : List Int) : ∀ u ∈ intsV l, u.oneCell' = true := by intro u hu; unfold intsV at hu; rw [List.mem_map] at hu; obtain ⟨x, -, rfl⟩ := hu; rfl
/-- The cells that a whole slice brings. -/
theorem newsI {w : World} {a : Option Addr} {c : Nat} {l : List Int} (h : ReadI w (.slice a l.length c) l) : ∀ j u, (intsV l)[j]? = some u → ∃ x, a = some x ∧ w.cell? (x.add j) = some u := by
  intro j u hu
  have hj : j < l.length := by
    have := (List.getElem?_eq_some_iff.1 hu).1
    rwa [intsV_length] at this
  rw [intsV_get l j hj] at hu
  obtain ⟨a', cap, hv, hc⟩ := h
  cases hv
  obtain ⟨x, hx, hcell⟩ := hc j hj
  exact ⟨x, hx, by rw [hcell, ← hu]⟩
theorem depsV_one (l : List (Int × Int)) : ∀ u ∈ depsV l, u.oneCell' = true := by
  induction l with
  | nil => intro u hu; cases hu
  | cons d l ih =>
    intro u hu
    unfold depsV at hu
    rcases List.mem_cons.1 hu with rfl | hu
    · rfl
    · rcases List.mem_cons.1 hu with rfl | hu
      · rfl
      · exact ih u hu
theorem cell_inB {w w' : World} {p : Addr} {v : Value} (h : w.cell? p = some v) (b : Below w.heap.size w w') : w'.cell? p = some v := (b.cell (World.block_lt_of_cell? w _ h)).trans h
theorem add_off (b o j : Nat) : (⟨b, o, none⟩ : Addr).add j = ⟨b, o + j, none⟩ := by unfold Addr.add; split <;> simp_all
theorem newsD {w : World} {a : Option Addr} {c : Nat} {l : List (Int × Int)} (h : ReadD w (.slice a l.length c) l) : ∀ j u, (depsV l)[j]? = some u → ∃ x, a = some x ∧ w.cell? (x.add j) = some u := by
  intro j u hu
  have hj : j < l.length * 2 := by
    have := (List.getElem?_eq_some_iff.1 hu).1
    rwa [depsV_len] at this
  obtain ⟨a', cap, hv, hc⟩ := h
  cases hv
  have hi : j / 2 < l.length := by omega
  obtain ⟨b, o, ha, h0, h1⟩ := hc (j / 2) hi
  obtain ⟨g0, g1⟩ := depsV_get l (j / 2) hi
  refine ⟨⟨b, o, none⟩, ha, ?_⟩
  rw [add_off]
  rcases Nat.mod_two_eq_zero_or_one j with hm | hm
  · have e : j / 2 * 2 = j := by omega
    rw [e] at h0 g0
    rw [h0, ← hu, g0]
  · have e : j / 2 * 2 + 1 = j := by omega
    have e2 : o + j / 2 * 2 + 1 = o + j := by omega
    rw [e2] at h1
    rw [e] at g1
    rw [h1, ← hu, g1]
/-- The value of a row of a slice of rows. -/
def rowV (w : World) (a : Option Addr) (i : Nat) : Value := match a with | some x => (w.cell? (x.add i)).getD (.slice none 0 0) | none => .slice none 0 0
theorem rowV_at {w : World} {v : Value} {ll : List (List Int)} (h : ReadSS w v ll) : ∃ a c, v = .slice a ll.length c ∧ ∀ i, i < ll.length → ReadI w (rowV w a i) (ll.getD i []) ∧ ∃ x, a = some x ∧ w.cell? (x.add i) = some (rowV w a i) := by
  obtain ⟨a, c, hv, hc⟩ := h
  refine ⟨a, c, hv, fun i hi => ?_⟩
  obtain ⟨x, u, rfl, hx, hr⟩ := hc i hi
  have e : rowV w (some x) i = u := by simp only [rowV, hx]; rfl
  rw [e]
  exact ⟨hr, x, rfl, hx⟩
theorem newsR {w : World} {a : Option Addr} {n : Nat} (h : ∀ i, i < n → ∃ x, a = some x ∧ w.cell? (x.add i) = some (rowV w a i)) : ∀ j u, ((List.range n).map (rowV w a))[j]? = some u → ∃ x, a = some x ∧ w.cell? (x.add j) = some u := by
  intro j u hu
  have hj : j < n := by simpa using (List.getElem?_eq_some_iff.1 hu).1
  obtain ⟨x, hx, hc⟩ := h j hj
  rw [List.getElem?_map, List.getElem?_range hj] at hu
  simp only [Option.map_some, Option.some.injEq] at hu
  exact ⟨x, hx, by rw [hc, hu]⟩
theorem rowV_one {w : World} {a : Option Addr} {n : Nat} {ll : List (List Int)} (h : ∀ i, i < n → ReadI w (rowV w a i) (ll.getD i [])) : ∀ u ∈ (List.range n).map (rowV w a), u.oneCell' = true := by
  intro u hu
  rw [List.mem_map] at hu
  obtain ⟨i, hi, rfl⟩ := hu
  obtain ⟨b, c, e, -⟩ := h i (List.mem_range.1 hi)
  rw [e]
  rfl
/-- A new row of the call's own without cells. -/
theorem own_made (w : World) (B : Nat) (T : TypeId) (n : Nat) (hB : B ≤ w.heap.size) : (w.alloc (.cells #[] T)).ownsRow B T n (.slice (some ⟨w.heap.size, 0, none⟩) 0 0) 0 [] := World.ownsRow_made w #[] 0 hB (by unfold maxLen; omega) (by simp)
set_option maxRecDepth 20000 in
set_option maxHeartbeats 1600000 in
theorem cloneI_any (v : Value) (l : List Int) (w : World) (hr : ReadI w v l) (hl : l.length ≤ 1048576) :
    Calls Tryz.prog 69 #[v] w (RetI l w) := by
  obtain ⟨j0, hi, hz0, hz1, hz2⟩ := info_parts info3j
  have HJ : Hid (_ ∧ _ ∧ _ ∧ _) := Lib.hid ⟨hi, hz0, hz1, hz2⟩
  clear hi hz0 hz1 hz2
  have hrd := hr
  obtain ⟨a, cap, rfl, hc⟩ := hr
  cases a with
  | none =>
    have h0 : l = [] := by
      cases l with
      | nil => rfl
      | cons x l =>
        obtain ⟨y, hy, -⟩ := hc 0 (by simp)
        cases hy
    subst h0
    clear hc
    have HQ := fun (W : World) (n c : Nat) => Lib.run_eql_slice_nil (P := Tryz.prog) W 52 3 none n c 0 0 Tryz.underlying52
    go_enter Tryz.func69, Tryz.ntmps69
    go_wp2_with fail
    go_ret
    exact ⟨_, rfl, World.ownsRow_nil _ _ _ _, Below.refl _ _⟩
  | some x =>
    have HB := Lib.hid ((Below.refl w.heap.size w).alloc (Nat.le_refl _) (.cells #[] 3))
    have HR := Lib.hid (hrd.kept HB.out)
    have HO := Lib.hid (own_made w w.heap.size 3 1 (Nat.le_refl _))
    clear hc hrd
    have HQ := fun (W : World) (n c : Nat) => Lib.run_eql_slice_nil (P := Tryz.prog) W 52 3 (some x) n c 0 0 Tryz.underlying52
    go_enter Tryz.func69, Tryz.ntmps69
    go_wp2_with (at_builtin; refine wpList_append_all rfl _ _ 52 rfl w.heap.size 3 j0 (.int .i64 0) 1 8 Tryz.underlying52 HJ.out.1 HJ.out.2.1 HJ.out.2.2.1 HJ.out.2.2.2 rfl (by decide) _ _ _ rfl HO.out (some x) l.length cap (intsV l) rfl (by rw [intsV_length]; simp) (newsI HR.out) (intsV_each l) (by unfold maxLen; omega) (by omega) (by simp) ?_; intro v1 w1 hown1 hgrow1; have ho1 : OwnI w1 w.heap.size v1 l := (by unfold OwnI; simpa using hown1); have hb1 := HB.out.grown hgrow1 (by simp) (fun k hk => by cases hk; exact Nat.le_refl _); clear hown1 hgrow1)
    go_ret
    exact ⟨_, rfl, ho1, hb1⟩
set_option maxRecDepth 20000 in
set_option maxHeartbeats 1600000 in
theorem cloneD_any (v : Value) (l : List (Int × Int)) (w : World) (hr : ReadD w v l) (hl : l.length ≤ 1048576) :
    Calls Tryz.prog 51 #[v] w (RetD l w) := by
  obtain ⟨i0, hi, hz0, hz1, hz2⟩ := info_parts infoDp
  have HI : Hid (_ ∧ _ ∧ _ ∧ _) := Lib.hid ⟨hi, hz0, hz1, hz2⟩
  clear hi hz0 hz1 hz2
  have hrd := hr
  obtain ⟨a, cap, rfl, hc⟩ := hr
  cases a with
  | none =>
    have h0 : l = [] := by
      cases l with
      | nil => rfl
      | cons x l =>
        obtain ⟨y, o, hy, -⟩ := hc 0 (by simp)
        cases hy
    subst h0
    clear hc
    have HQ := fun (W : World) (n c : Nat) => Lib.run_eql_slice_nil (P := Tryz.prog) W 27 38 none n c 0 0 Tryz.underlying27
    go_enter Tryz.func51, Tryz.ntmps51
    go_wp2_with fail
    go_ret
    exact ⟨_, rfl, World.ownsRow_nil _ _ _ _, Below.refl _ _⟩
  | some x =>
    have HB := Lib.hid ((Below.refl w.heap.size w).alloc (Nat.le_refl _) (.cells #[] 38))
    have HR := Lib.hid (hrd.kept HB.out)
    have HO := Lib.hid (own_made w w.heap.size 38 2 (Nat.le_refl _))
    clear hc hrd
    have HQ := fun (W : World) (n c : Nat) => Lib.run_eql_slice_nil (P := Tryz.prog) W 27 38 (some x) n c 0 0 Tryz.underlying27
    go_enter Tryz.func51, Tryz.ntmps51
    go_wp2_with (at_builtin; refine wpList_append_all rfl _ _ 27 rfl w.heap.size 38 i0 (.agg #[.int .i64 0, .int .i64 0]) 2 16 Tryz.underlying27 HI.out.1 HI.out.2.1 HI.out.2.2.1 HI.out.2.2.2 rfl (by decide) _ _ _ rfl HO.out (some x) l.length cap (depsV l) rfl (by rw [depsV_len]) (newsD HR.out) (depsV_one l) (by unfold maxLen; omega) (by omega) (by simp) ?_; intro v1 w1 hown1 hgrow1; have ho1 : OwnD w1 w.heap.size v1 l := (by unfold OwnD; simpa using hown1); have hb1 := HB.out.grown hgrow1 (by simp) (fun k hk => by cases hk; exact Nat.le_refl _); clear hown1 hgrow1)
    go_ret
    exact ⟨_, rfl, ho1, hb1⟩
set_option maxRecDepth 20000 in
set_option maxHeartbeats 1600000 in
theorem cloneR_any (n cap : Nat) (a : Option Addr) (ll : List (List Int)) (w : World) (hr : ∀ i, i < n → ReadI w (rowV w a i) (ll.getD i [])) (hc : ∀ i, i < n → ∃ x, a = some x ∧ w.cell? (x.add i) = some (rowV w a i)) (hl : n ≤ 1048576) :
    Calls Tryz.prog 68 #[.slice a n cap] w fun e w' => ∃ v', e = .returned v' ∧ w'.ownsRow w.heap.size 52 1 v' n ((List.range n).map (rowV w a)) ∧ Below w.heap.size w w' := by
  obtain ⟨i0, hi, hz0, hz1, hz2⟩ := info_parts infoSj
  have HI : Hid (_ ∧ _ ∧ _ ∧ _) := Lib.hid ⟨hi, hz0, hz1, hz2⟩
  clear hi hz0 hz1 hz2
  cases a with
  | none =>
    have h0 : n = 0 := by
      rcases Nat.eq_zero_or_pos n with h | h
      · exact h
      · obtain ⟨y, hy, -⟩ := hc 0 h
        cases hy
    subst h0
    clear hc hr
    have HQ := fun (W : World) (n c : Nat) => Lib.run_eql_slice_nil (P := Tryz.prog) W 24 52 none n c 0 0 Tryz.underlying24
    go_enter Tryz.func68, Tryz.ntmps68
    go_wp2_with fail
    go_ret
    exact ⟨_, rfl, World.ownsRow_nil _ _ _ _, Below.refl _ _⟩
  | some x =>
    have HB := Lib.hid ((Below.refl w.heap.size w).alloc (Nat.le_refl _) (.cells #[] 52))
    have HN : Hid (∀ j u, ((List.range n).map (rowV w (some x)))[j]? = some u → ∃ y, some x = some y ∧ (w.alloc (.cells #[] 52)).cell? (y.add j) = some u) := Lib.hid (fun j u hu => by
      obtain ⟨y, h1, h2⟩ := newsR hc j u hu
      exact ⟨y, h1, cell_inB h2 HB.out⟩)
    have HV := Lib.hid (rowV_one (ll := ll) hr)
    have HO := Lib.hid (own_made w w.heap.size 52 1 (Nat.le_refl _))
    obtain ⟨R, hR⟩ : ∃ R, R = (List.range n).map (rowV w (some x)) := ⟨_, rfl⟩
    have hRl : R.length = n := by rw [hR]; simp
    rw [← hR] at HN HV ⊢
    clear hc hr hR
    have HQ := fun (W : World) (n c : Nat) => Lib.run_eql_slice_nil (P := Tryz.prog) W 24 52 (some x) n c 0 0 Tryz.underlying24
    go_enter Tryz.func68, Tryz.ntmps68
    go_wp2_with (at_builtin; refine wpList_append_all rfl _ _ 24 rfl w.heap.size 52 i0 (.slice none 0 0) 1 24 Tryz.underlying24 HI.out.1 HI.out.2.1 HI.out.2.2.1 HI.out.2.2.2 rfl (by decide) _ _ _ rfl HO.out (some x) n cap R rfl (by rw [hRl]; simp) HN.out HV.out (by unfold maxLen; omega) (by omega) (by simp) ?_; intro v1 w1 hown1 hgrow1; have ho1 : w1.ownsRow w.heap.size 52 1 v1 n R := (by simpa using hown1); have hb1 := HB.out.grown hgrow1 (by simp) (fun k hk => by cases hk; exact Nat.le_refl _); clear hown1 hgrow1)
    go_ret
    exact ⟨_, rfl, ho1, hb1⟩
end Go.Proofs.YtjfllfancgmalaaGreat
namespace Go.Proofs.YtjfllfancgmalaaGreat
open Go.RowKit

/-- A row of n rows whose first k are the call's own; the others are the values V still. -/
def Half (w : World) (B : Nat) (v : Value) (n k : Nat) (V : Nat → Value) (ll : List (List Int)) : Prop :=
  ∃ U : Nat → Value, w.ownsRow B 52 1 v n ((List.range n).map U) ∧ (∀ i, i < k → OwnI w B (U i) (ll.getD i [])) ∧
    (∀ i j, i < j → j < k → ∀ g, (U i).ownBlock = some g → (U j).ownBlock ≠ some g) ∧ (∀ i, k ≤ i → i < n → U i = V i)
theorem Half.start {w : World} {B n : Nat} {v : Value} {V : Nat → Value} {ll : List (List Int)} (h : w.ownsRow B 52 1 v n ((List.range n).map V)) : Half w B v n 0 V ll :=
  ⟨V, h, fun _ hi => absurd hi (Nat.not_lt_zero _), fun _ _ _ hj => absurd hj (Nat.not_lt_zero _), fun _ _ _ => rfl⟩
theorem Half.done {w : World} {B : Nat} {v : Value} {V : Nat → Value} {ll : List (List Int)} (h : Half w B v ll.length ll.length V ll) : OwnSS w B w.heap.size v ll := by
  obtain ⟨U, h1, h2, h3, -⟩ := h
  exact ⟨U, h1, fun g hg => (World.ownsRow.lt h1 g hg).2, fun i hi => ⟨h2 i hi, fun g hg => ((h2 i hi).lt g hg).2⟩, h3⟩
theorem ownsRow_below {w w' : World} {B n : Nat} {T : TypeId} {v : Value} {xs : List Value} {s : Nat} (h : w.ownsRow B T s v n xs) (hb : Below w.heap.size w w') : w'.ownsRow B T s v n xs := by
  refine ⟨h.1, ?_⟩
  rcases h.2 with hn | ⟨g, cap, cur, rfl, hB, hgg, rest⟩
  · exact .inl hn
  · exact .inr ⟨g, cap, cur, rfl, hB, (hb.block g (Array.getElem?_eq_some_iff.1 hgg).1).trans hgg, rest⟩
theorem Half.at_ {w : World} {B g n c k : Nat} {V : Nat → Value} {ll : List (List Int)} (h : Half w B (.slice (some ⟨g, 0, none⟩) n c) n k V ll) (hk : k < n) : w.cell? ⟨g, k, none⟩ = some (V k) ∧ w.frozen? ⟨g, k, none⟩ = false := by
  obtain ⟨U, h1, h2, h3, h4⟩ := h
  refine ⟨?_, World.ownsRow.frozenAt h1 k⟩
  rw [World.ownsRow.cellAt h1 k (by omega), ← h4 k (Nat.le_refl _) hk]
  simp [hk]
theorem Half.step {w w1 : World} {B g n c k : Nat} {u : Value} {V : Nat → Value} {ll : List (List Int)} (h : Half w B (.slice (some ⟨g, 0, none⟩) n c) n k V ll) (hk : k < n) (hb : Below w.heap.size w w1) (hu : OwnI w1 w.heap.size u (ll.getD k [])) (hB : B ≤ w.heap.size) :
    Half (w1.setCell ⟨g, k, none⟩ u) B (.slice (some ⟨g, 0, none⟩) n c) n (k + 1) V ll := by
  obtain ⟨U, h1, h2, h3, h4⟩ := h
  have h1' := ownsRow_below h1 hb
  have h2' := fun i hi => (h2 i hi).kept hb (fun q hq => ((h2 i hi).lt q hq).2)
  obtain ⟨s1, -⟩ := World.ownsRow.stored h1' k u
  have hap : ∀ i, i < k → (U i).ownBlock ≠ some g := fun i hi => row_apart h1' (h2' i hi) g rfl
  have hapu : u.ownBlock ≠ some g := row_apart h1' hu g rfl
  have hblk : ∀ q, q ≠ g → (w1.setCell ⟨g, k, none⟩ u).heap[q]? = w1.heap[q]? := fun q hq => Below.heap_setCell _ _ _ _ hq
  refine ⟨fun i => if i = k then u else U i, ?_, fun i hi => ?_, fun i j hij hj q => ?_, fun i hi hin => ?_⟩
  · have e : (List.range n).map (fun i => if i = k then u else U i) = ((List.range n).map U).set k u := by
      apply List.ext_getElem
      · simp
      · intro i h1 h2
        simp only [List.length_map, List.length_range] at h1
        rw [List.getElem_set]
        simp only [List.getElem_map, List.getElem_range]
        by_cases h : i = k
        · simp [h]
        · rw [if_neg h, if_neg (fun e => h e.symm)]
    rw [e]; exact s1
  · by_cases hik : i = k
    · subst hik
      simp only [if_true]
      exact (hu.base hB).same (fun q hq => hblk q (fun e => hapu (by rw [← e]; exact hq)))
    · simp only [hik, if_false]
      exact (h2' i (by omega)).same (fun q hq => hblk q (fun e => hap i (by omega) (by rw [← e]; exact hq)))
  · have hik : ¬ i = k := by omega
    by_cases hjk : j = k
    · simp only [hik, hjk, if_true, if_false]
      intro a b
      have := (hu.lt q b).1
      have := ((h2 i (by omega)).lt q a).2
      omega
    · simp only [hik, hjk, if_false]; exact h3 i j hij (by omega) q
  · have hik : ¬ i = k := by omega
    simp only [hik, if_false]
    exact h4 i (by omega) hin
section
set_option maxRecDepth 20000
set_option maxHeartbeats 1600000
theorem tabCopied_any (c : Int) (v : Value) (ll : List (List Int)) (w : World) (hr : ReadSS w v ll) (hl : ll.length ≤ 1048576) (ht : ∀ i, i < ll.length → (ll.getD i []).length ≤ 1048576) :
    Calls Tryz.prog 46 #[.agg #[.int .i64 c, v]] w (RetT c ll w) := by
  have hb1 := (Below.refl w.heap.size w).alloc (Nat.le_refl _) (.cells #[.int .i64 c, v] 26)
  have h12 := (Below.refl (w.alloc (.cells #[.int .i64 c, v] 26)).heap.size _).alloc (Nat.le_refl _) (.cells #[.int .i64 0, .slice none 0 0] 26)
  have hb2 := hb1.trans (h12.mono hb1.size)
  have hx := heap_alloc_new (w.alloc (.cells #[.int .i64 c, v] 26)) (.cells #[.int .i64 0, .slice none 0 0] 26)
  rw [World.size_alloc] at hx
  have c0 := cell_inB (zero2 w 26 (.int .i64 c) v).1 h12
  have c1 := cell_inB (zero2 w 26 (.int .i64 c) v).2 h12
  obtain ⟨W, hW⟩ : ∃ W, W = (w.alloc (.cells #[.int .i64 c, v] 26)).alloc (.cells #[.int .i64 0, .slice none 0 0] 26) := ⟨_, rfl⟩
  have hWs : W.heap.size = w.heap.size + 1 + 1 := by rw [hW]; simp
  rw [← hW] at hb2 hx c0 c1
  have hr2 := hr.kept hb2
  obtain ⟨a, cap, rfl, hrow⟩ := rowV_at hr2
  have HC := Lib.hid (cloneR_any ll.length cap a ll W (fun i hi => (hrow i hi).1) (fun i hi => (hrow i hi).2) hl)
  obtain ⟨V, hV⟩ : ∃ V, V = rowV W a := ⟨_, rfl⟩
  rw [← hV] at HC
  have HV := Lib.hid (fun i (hi : i < ll.length) w' (hb : Below W.heap.size W w') => cloneI_any (V i) (ll.getD i []) w' (by rw [hV]; exact (hrow i hi).1.kept hb) (ht i hi))
  have HB2 := Lib.hid hb2
  have HX := Lib.hid hx
  have HC0 := Lib.hid c0
  have HWS := Lib.hid hWs
  obtain ⟨n, hn⟩ : ∃ n, n = ll.length := ⟨_, rfl⟩
  have HNN := Lib.hid hn
  rw [← hn] at HC HV c1 hl hW ⊢
  clear hrow hV hb1 h12 hb2 hx hr hr2 ht hn hWs c0
  rw [hW] at HC c1
  go_enter Tryz.func46, Tryz.ntmps46
  go_wp2_with fail
  refine HC.out.mono ?_
  rintro e w1 ⟨v1, rfl, ho1, b1⟩
  rw [← hW] at ho1 b1
  have HB1 := Lib.hid b1
  rcases ownsRow_shape ho1 with ⟨rfl, h0⟩ | ⟨g, c1', rfl, -, hg0, hg1⟩
  · subst h0
    have hx1 := (b1.block (w.heap.size + 1) (by rw [HWS.out]; omega)).trans HX.out
    have f0 := frozen_of_row w1 (w.heap.size + 1) 0 _ _ hx1
    have f1 := frozen_of_row w1 (w.heap.size + 1) 1 _ _ hx1
    have c0' := cell_inB HC0.out b1
    have d0 : w1.cell? ⟨w.heap.size + 1, 0, none⟩ = some (.int .i64 0) := by rw [cell_of_row w1 (w.heap.size + 1) 0 _ _ _ hx1]; rfl
    have d1 : w1.cell? ⟨w.heap.size + 1, 1, none⟩ = some (.slice none 0 0) := by rw [cell_of_row w1 (w.heap.size + 1) 1 _ _ _ hx1]; rfl
    have hb9 := ((HB2.out.trans (b1.mono HB2.out.size)).setCell (p := ⟨w.heap.size + 1, 0, none⟩) (by simp) (.int .i64 c)).setCell (p := ⟨w.heap.size + 1, 1, none⟩) (by simp) (.slice none 0 0)
    have hll : ll = [] := List.length_eq_zero_iff.1 HNN.out.symm
    have HB9 := Lib.hid hb9
    have HL := Lib.hid hll
    clear hx1 b1 c1 hb9 hll
    go_wp2_with fail
    go_loopw [11] (fun iv wr => iv = .int .i64 0 ∧ wr = w1) (fun _ _ => 0)
    case atStart => exact ⟨rfl, rfl⟩
    case round =>
      obtain ⟨rfl, rfl⟩ := hrel
      go_wp2_with fail
      exact bodyPost_ret (v := .agg #[.int .i64 c, .slice none 0 0]) (by simp [results, Tryz.results46, go_sem, d0, d1]) rfl ⟨_, rfl, by rw [HL.out]; exact OwnSS.nil _ _ _, HB9.out⟩
  · have HH := Lib.hid (Half.start (ll := ll) ho1)
    clear b1 c1 ho1
    go_wp2_with fail
    go_loopw [11] (fun iv wr => ∃ k, k ≤ n ∧ iv = .int .i64 (k : Int) ∧ Hid (Half wr W.heap.size (.slice (some ⟨g, 0, none⟩) n c1') n k V ll) ∧ Hid (Below W.heap.size W wr)) (fun iv _ => n - (intOf iv).toNat)
    case atStart => exact ⟨0, by omega, rfl, HH, HB1⟩
    case round =>
      obtain ⟨k, hk, rfl, hh, hb⟩ := hrel
      obtain ⟨w2, hw2⟩ : ∃ w', w' = wr := ⟨_, rfl⟩
      rw [← hw2] at hh hb ⊢
      clear hw2
      by_cases hlt : k < n
      · obtain ⟨k0, k1⟩ := hh.out.at_ hlt
        have z0 : (0 : Int) ≤ (k : Int) := by omega
        have z1 : (k : Int) < (n : Int) := by omega
        have HVK := Lib.hid (HV.out k hlt w2 hb.out)
        clear HH HB1
        obtain ⟨x, hxv⟩ : ∃ x, x = V k := ⟨_, rfl⟩
        rw [← hxv] at HVK k0
        clear hxv
        go_wp2_with fail
        refine HVK.out.mono ?_
        rintro e w3 ⟨u, rfl, hu, b3⟩
        obtain ⟨L, hL⟩ : ∃ L, L = ll.getD k [] := ⟨_, rfl⟩
        rw [← hL] at hu
        obtain ⟨au, capu, rfl, -⟩ := hu.read
        rw [hL] at hu
        have h3 := Lib.hid (Half.step hh.out hlt b3 hu hb.out.size)
        have hb3 := Lib.hid ((hb.out.trans (b3.mono hb.out.size)).setCell (p := ⟨g, k, none⟩) hg0 (.slice au (ll.getD k []).length capu))
        have k3 := (b3.cell (World.block_lt_of_cell? _ _ k0)).trans k0
        have f3 := (b3.frozen (p := ⟨g, k, none⟩) (World.block_lt_of_cell? _ _ k0)).trans k1
        clear k0 k1 b3 hu hh hb
        go_wp2_with fail
        go_roundw
        case rel => exact ⟨k + 1, by omega, by go_num, h3, hb3⟩
        case measure => simp [intOf]; omega
      · obtain rfl : k = n := by omega
        have hx1 := (hb.out.block (w.heap.size + 1) (by rw [HWS.out]; omega)).trans HX.out
        have f0 := frozen_of_row w2 (w.heap.size + 1) 0 _ _ hx1
        have f1 := frozen_of_row w2 (w.heap.size + 1) 1 _ _ hx1
        have c0' := cell_inB HC0.out hb.out
        have d0 : w2.cell? ⟨w.heap.size + 1, 0, none⟩ = some (.int .i64 0) := by rw [cell_of_row w2 (w.heap.size + 1) 0 _ _ _ hx1]; rfl
        have d1 : w2.cell? ⟨w.heap.size + 1, 1, none⟩ = some (.slice none 0 0) := by rw [cell_of_row w2 (w.heap.size + 1) 1 _ _ _ hx1]; rfl
        have ho9 := (Half.done (ll := ll) (by rw [← HNN.out]; exact hh.out))
        have hs9 : W.heap.size ≤ w2.heap.size := hb.out.size
        have ho10 := (ho9.same (((Same.refl W.heap.size w2.heap.size w2).setCell (p := ⟨w.heap.size + 1, 0, none⟩) (.inl (by rw [HWS.out]; simp)) (.int .i64 c)).setCell (p := ⟨w.heap.size + 1, 1, none⟩) (.inl (by rw [HWS.out]; simp)) (.slice (some ⟨g, 0, none⟩) k c1')))
        have hb9 := ((HB2.out.trans (hb.out.mono HB2.out.size)).setCell (p := ⟨w.heap.size + 1, 0, none⟩) (by simp) (.int .i64 c)).setCell (p := ⟨w.heap.size + 1, 1, none⟩) (by simp) (.slice (some ⟨g, 0, none⟩) k c1')
        have HO10 := Lib.hid (ho10.base HB2.out.size (Nat.le_refl _))
        have HB9 := Lib.hid hb9
        clear hx1 ho9 ho10 hb9 hs9 hh hb
        go_wp2_with fail
        exact bodyPost_ret (v := .agg #[.int .i64 c, .slice (some ⟨g, 0, none⟩) k c1']) (by simp [results, Tryz.results46, go_sem, d0, d1]) rfl ⟨_, rfl, HO10.out.base (Nat.le_refl _) (by simp), HB9.out⟩
end
end Go.Proofs.YtjfllfancgmalaaGreat
namespace Go.Proofs.YtjfllfancgmalaaGreat
open Go.RowKit

/-- k, k + 1; k + 2, k + 3; and so on. -/
def upD (k : Int) (n : Nat) : List (Int × Int) := (List.range n).map fun (j : Nat) => (k + 2 * (j : Int), k + 2 * (j : Int) + 1)
theorem upD_length (k : Int) (n : Nat) : (upD k n).length = n := by simp [upD]
theorem upD_get (k : Int) (n j : Nat) (h : j < n) : (upD k n).getD j (0, 0) = (k + 2 * (j : Int), k + 2 * (j : Int) + 1) := by
  rw [List.getD_eq_getElem?_getD, List.getElem?_eq_getElem (by rw [upD_length]; exact h)]
  simp [upD]
theorem upD_start (k : Int) (l : List (Int × Int)) : upD k 0 ++ l.drop 0 = l := by simp [upD]
theorem upD_step (k : Int) (l : List (Int × Int)) (j : Nat) (h : j < l.length) : (upD k j ++ l.drop j).set j (k + 2 * (j : Int), k + 2 * (j : Int) + 1) = upD k (j + 1) ++ l.drop (j + 1) := by
  have e : upD k (j + 1) = upD k j ++ [(k + 2 * (j : Int), k + 2 * (j : Int) + 1)] := by simp [upD, List.range_succ]
  rw [List.set_append, if_neg (by rw [upD_length]; omega), upD_length, Nat.sub_self, List.drop_eq_getElem_cons h, e, List.append_assoc]
  rfl
theorem OwnD.num {w : World} {B g n cap : Nat} {ds : List (Int × Int)} (h : OwnD w B (.slice (some ⟨g, 0, none⟩) n cap) ds) : n = ds.length := by
  rcases h.2 with ⟨h', _⟩ | ⟨g', cap', cur, h', _⟩ <;> simp at h'; omega
theorem OwnD.cells2 {w : World} {B g n cap : Nat} {ds : List (Int × Int)} (h : OwnD w B (.slice (some ⟨g, 0, none⟩) n cap) ds) (j : Nat) (hj : j < ds.length) :
    (w.cell? ⟨g, j * 2, none⟩ = some (.int .i64 (ds.getD j (0, 0)).1) ∧ w.cell? ⟨g, j * 2 + 1, none⟩ = some (.int .i64 (ds.getD j (0, 0)).2)) ∧ w.frozen? ⟨g, j * 2, none⟩ = false ∧ w.frozen? ⟨g, j * 2 + 1, none⟩ = false := by
  have hn := h.num
  subst hn
  exact ⟨⟨by rw [World.ownsRow.cellAt h (j * 2) (by omega), (depsV_get ds j hj).1], by rw [World.ownsRow.cellAt h (j * 2 + 1) (by omega), (depsV_get ds j hj).2]⟩, World.ownsRow.frozenAt h _, World.ownsRow.frozenAt h _⟩
theorem OwnD.store2 {w : World} {B g n cap : Nat} {ds : List (Int × Int)} (h : OwnD w B (.slice (some ⟨g, 0, none⟩) n cap) ds) (j : Nat) (a b : Int) :
    OwnD ((w.setCell ⟨g, j * 2, none⟩ (.int .i64 a)).setCell ⟨g, j * 2 + 1, none⟩ (.int .i64 b)) B (.slice (some ⟨g, 0, none⟩) n cap) (ds.set j (a, b)) ∧ w.grownBy ((w.setCell ⟨g, j * 2, none⟩ (.int .i64 a)).setCell ⟨g, j * 2 + 1, none⟩ (.int .i64 b)) (some g) := by
  refine ⟨h.store j a b, ?_⟩
  have hn := h.num
  subst hn
  obtain ⟨h1, h2⟩ := World.ownsRow.stored h (j * 2) (.int .i64 a)
  obtain ⟨h3, h4⟩ := World.ownsRow.stored h1 (j * 2 + 1) (.int .i64 b)
  exact ⟨h4.os.trans h2.os, h4.tape.trans h2.tape, h4.output.trans h2.output, Nat.le_trans h2.size h4.size, fun q hq hne => (h4.block q (Nat.lt_of_lt_of_le hq h2.size) hne).trans (h2.block q hq hne)⟩
/-! ### With their bounds -/
def OwnDR (w : World) (B C : Nat) (v : Value) (l : List (Int × Int)) : Prop := OwnD w B v l ∧ ∀ g, v.ownBlock = some g → g < C
theorem OwnD.range {w : World} {B : Nat} {v : Value} {l : List (Int × Int)} (h : OwnD w B v l) : OwnDR w B w.heap.size v l := ⟨h, fun g hg => (h.lt g hg).2⟩
theorem OwnDR.same {w w' : World} {B C : Nat} {v : Value} {l : List (Int × Int)} (h : OwnDR w B C v l) (hs : Same B C w w') : OwnDR w' B C v l := by
  refine ⟨⟨h.1.1, ?_⟩, h.2⟩
  rcases h.1.2 with hn | ⟨g, cap, cur, rfl, hB, hgg, rest⟩
  · exact .inl hn
  · exact .inr ⟨g, cap, cur, rfl, hB, (hs g hB (h.2 g rfl)).trans hgg, rest⟩
theorem OwnDR.read {w : World} {B C : Nat} {v : Value} {l : List (Int × Int)} (h : OwnDR w B C v l) : ReadD w v l := h.1.read
def MarkDs (k : Int) (l : List (Int × Int)) (B C : Nat) (v : Value) (w : World) (e : Ending) (w' : World) : Prop := e = .returned (.int .i64 (k + 2 * (l.length : Int))) ∧ OwnDR w' B C v (upD k l.length) ∧ Mid B C w w'
end Go.Proofs.YtjfllfancgmalaaGreat
