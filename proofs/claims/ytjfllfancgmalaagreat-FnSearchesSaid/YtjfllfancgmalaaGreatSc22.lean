/- Texts of this claim, merged: ImE, DdS, SrA, SeaE. Conditions: as stated. -/
import Derived.Test.YtjfllfancgmalaaGreatSc15
import Derived.Test.YtjfllfancgmalaaGreatSc11
import Derived.Test.YtjfllfancgmalaaGreatSc13
import Derived.Test.YtjfllfancgmalaaGreatCtBm
import Derived.Test.YtjfllfancgmalaaGreatSc12
namespace Go.Proofs.YtjfllfancgmalaaGreat
open Go.RowKit

set_option maxHeartbeats 800000 in
theorem slEqual_any (v v' : Value) (l l' : List Int) (w : World) (hr : ReadI w v l) (hr' : ReadI w v' l') (hl : l.length ≤ 1000000000) :
    Calls Tryz.prog 77 #[v, v'] w fun e w' => e = .returned (.bool (eqB l l')) ∧ ∃ m, w' = w.drewN m := by
  obtain ⟨a, cap, rfl, ha⟩ := hr
  obtain ⟨a', cap', rfl, ha'⟩ := hr'
  have HA := Lib.hid ha
  have HA' := Lib.hid ha'
  clear ha ha'
  by_cases hlen : l.length = l'.length
  · have hne : ((l.length : Int) != (l'.length : Int)) = false := by simp [hlen]
    have HL := Lib.hid hlen
    clear hlen
    go_enter Tryz.func77, Tryz.ntmps77
    go_wp2_with fail
    go_loopw [13] (fun iv wr => ∃ (k n : Nat), k ≤ l.length ∧ iv = .int .i64 (k : Int) ∧ Hid (l.take k = l'.take k) ∧ wr = w.drewN n) (fun iv _ => l.length - (intOf iv).toNat)
    case atStart => exact ⟨0, 0, by omega, rfl, Lib.hid rfl, rfl⟩
    case round =>
      obtain ⟨k, n, hk, rfl, hsame, rfl⟩ := hrel
      by_cases hlt : k < l.length
      · have hlt' : k < l'.length := by have := HL.out; omega
        obtain ⟨x, rfl, hx⟩ := HA.out k hlt
        obtain ⟨x', rfl, hx'⟩ := HA'.out k hlt'
        have z0 : (0 : Int) ≤ (k : Int) := by omega
        have z1 : (k : Int) < (l.length : Int) := by omega
        have z2 : (k : Int) < (l'.length : Int) := by omega
        by_cases he : l[k] = l'[k]
        · have hb : (l[k] != l'[k]) = false := by simp [he]
          have HE := Lib.hid he
          clear he
          go_wp2_with fail
          go_quiet (fail)
          go_wp2_with fail
          go_roundw
          case rel => exact ⟨k + 1, _, by omega, by go_num, Lib.hid (by rw [List.take_succ_eq_append_getElem hlt, List.take_succ_eq_append_getElem hlt', hsame.out, HE.out]), rfl⟩
          case measure => simp [intOf]; omega
        · have hb : (l[k] != l'[k]) = true := by simpa using he
          have HE := Lib.hid he
          clear he
          go_wp2_with fail
          go_quiet (fail)
          go_wp2_with fail
          go_ret
          exact ⟨ret_b (by unfold eqB; rw [decide_eq_false]; intro e; apply HE.out; simp only [e]), _, World.drewN_drewN _ _ _⟩
      · go_wp2_with fail
        go_ret
        exact ⟨ret_b (by
          unfold eqB
          rw [decide_eq_true]
          have := hsame.out
          rwa [List.take_of_length_le (by omega), List.take_of_length_le (by have := HL.out; omega)] at this), _, rfl⟩
  · have hne : ((l.length : Int) != (l'.length : Int)) = true := by simp; omega
    have HL := Lib.hid hlen
    clear hlen
    go_enter Tryz.func77, Tryz.ntmps77
    go_wp2_with fail
    go_ret
    exact ⟨ret_b (by unfold eqB; rw [decide_eq_false]; intro e; exact HL.out (by rw [e])), 0, rfl⟩

set_option maxHeartbeats 1600000 in
theorem slEqualFunc_any (v v' : Value) (ll ll' : List (List Int)) (w : World) (hr : ReadSS w v ll) (hr' : ReadSS w v' ll') (hl : ll.length ≤ 1000000000) (ht : ∀ i, i < ll.length → (ll.getD i []).length ≤ 1000000000) :
    Calls Tryz.prog 76 #[v, v', .func (.func 77) #[] #[]] w fun e w' => e = .returned (.bool (decide (ll = ll'))) ∧ Below w.heap.size w w' := by
  obtain ⟨a, cap, rfl, ha⟩ := hr
  obtain ⟨a', cap', rfl, ha'⟩ := hr'
  have HA := Lib.hid ha
  have HA' := Lib.hid ha'
  have HT := Lib.hid ht
  clear ha ha' ht
  by_cases hlen : ll.length = ll'.length
  · have hne : ((ll.length : Int) != (ll'.length : Int)) = false := by simp [hlen]
    have HL := Lib.hid hlen
    clear hlen
    go_enter Tryz.func76, Tryz.ntmps76
    go_wp2_with fail
    go_loopw [17] (fun iv wr => ∃ (k : Nat), k ≤ ll.length ∧ iv = .int .i64 (k : Int) ∧ Hid (ll.take k = ll'.take k) ∧ Below w.heap.size w wr) (fun iv _ => ll.length - (intOf iv).toNat)
    case atStart => exact ⟨0, by omega, rfl, Lib.hid rfl, Below.refl _ _⟩
    case round =>
      obtain ⟨k, hk, rfl, hsame, hb⟩ := hrel
      by_cases hlt : k < ll.length
      · have hlt' : k < ll'.length := by have := HL.out; omega
        obtain ⟨x, u, rfl, hx, hu⟩ := HA.out k hlt
        obtain ⟨x', u', rfl, hx', hu'⟩ := HA'.out k hlt'
        have HQ := Lib.hid (slEqual_any u u' _ _ wr (hu.kept hb) (hu'.kept hb) (HT.out k hlt))
        have hy := (hb.cell (World.block_lt_of_cell? w _ hx)).trans hx
        have hy' := (hb.cell (World.block_lt_of_cell? w _ hx')).trans hx'
        have z0 : (0 : Int) ≤ (k : Int) := by omega
        have z1 : (k : Int) < (ll.length : Int) := by omega
        have z2 : (k : Int) < (ll'.length : Int) := by omega
        clear hx hx' hu hu'
        by_cases he : ll.getD k [] = ll'.getD k []
        · have hq : eqB (ll.getD k []) (ll'.getD k []) = true := decide_eq_true he
          rw [hq] at HQ
          have HE := Lib.hid he
          clear he hq
          go_wp2_with fail
          refine HQ.out.mono ?_
          rintro e w' ⟨rfl, m, rfl⟩
          go_wp2_with fail
          go_roundw
          case rel => exact ⟨k + 1, by omega, by go_num, Lib.hid (by rw [take_succ_getD ll [] k hlt, take_succ_getD ll' [] k hlt', hsame.out, HE.out]), below_drewN hb _⟩
          case measure => simp [intOf]; omega
        · have hq : eqB (ll.getD k []) (ll'.getD k []) = false := decide_eq_false he
          rw [hq] at HQ
          have HE2 := Lib.hid he
          clear he hq
          go_wp2_with fail
          refine HQ.out.mono ?_
          rintro e w' ⟨rfl, m, rfl⟩
          go_wp2_with fail
          go_ret
          exact ⟨ret_b (by rw [decide_eq_false (p := ll = ll') (by intro e; apply HE2.out; rw [e])]), below_drewN hb _⟩
      · go_wp2_with fail
        go_ret
        exact ⟨ret_b (by rw [decide_eq_true (p := ll = ll') (take_eq_all hsame.out (by omega) (by have := HL.out; omega))]), hb⟩
  · have hne : ((ll.length : Int) != (ll'.length : Int)) = true := by simp; omega
    have HL := Lib.hid hlen
    clear hlen
    go_enter Tryz.func76, Tryz.ntmps76
    go_wp2_with fail
    go_ret
    exact ⟨ret_b (by rw [decide_eq_false (p := ll = ll') (by intro e; exact HL.out (by rw [e]))]), Below.refl _ _⟩

set_option maxHeartbeats 1600000 in
theorem implEqualTables_any (c c' : Int) (v v' : Value) (ll ll' : List (List Int)) (w : World) (hr : ReadSS w v ll) (hr' : ReadSS w v' ll') (hl : ll.length ≤ 1000000000) (ht : ∀ i, i < ll.length → (ll.getD i []).length ≤ 1000000000) :
    Calls Tryz.prog 58 #[.agg #[.int .i64 c, v], .agg #[.int .i64 c', v']] w fun e w' => e = .returned (.bool (eqTb c c' ll ll')) ∧ Below w.heap.size w w' := by
  have hb2 : Below w.heap.size w ((w.alloc (.cells #[.int .i64 c, v] 26)).alloc (.cells #[.int .i64 c', v'] 26)) := (((Below.refl w.heap.size w).alloc (Nat.le_refl _) (.cells #[.int .i64 c, v] 26)).alloc (by simp) (.cells #[.int .i64 c', v'] 26))
  obtain ⟨⟨x0, x1⟩, x2, x3⟩ := box4 (w := w) (c := c) (v := v) (c' := c') (v' := v') (T := 26) (Below.refl _ _)
  have HQ := Lib.hid (slEqualFunc_any v v' ll ll' _ (hr.kept hb2) (hr'.kept hb2) hl ht)
  have HB := Lib.hid hb2
  clear hb2
  obtain ⟨a, cap, rfl, ha⟩ := hr
  obtain ⟨a', cap', rfl, ha'⟩ := hr'
  clear ha ha' ht
  by_cases hc : c = c'
  · have hn : (c == c') = true := by simp [hc]
    have HE := Lib.hid hc
    clear hc
    go_enter Tryz.func58, Tryz.ntmps58
    go_wp2_with fail
    refine HQ.out.mono ?_
    rintro e w' ⟨rfl, hb⟩
    go_wp2_with fail
    go_ret
    exact ⟨ret_b (by unfold eqTb; rw [decide_eq_true HE.out]; simp), HB.out.trans (hb.mono HB.out.size)⟩
  · have hn : (c == c') = false := by simpa using hc
    have HE := Lib.hid hc
    clear hc
    go_enter Tryz.func58, Tryz.ntmps58
    go_wp2_with fail
    go_ret
    exact ⟨ret_b (by unfold eqTb; rw [decide_eq_false HE.out]; rfl), HB.out⟩
end Go.Proofs.YtjfllfancgmalaaGreat
namespace Go.Proofs.YtjfllfancgmalaaGreat
open Go.RowKit

set_option maxHeartbeats 800000 in
theorem slEqualD_any (v v' : Value) (d e : List (Int × Int)) (w : World) (hr : ReadD w v d) (hr' : ReadD w v' e) (hl : d.length ≤ 1048576) :
    Calls Tryz.prog 78 #[v, v'] w fun e' w' => e' = .returned (.bool (decide (d = e))) ∧ Below w.heap.size w w' := by
  obtain ⟨p, cap, rfl, ha⟩ := hr
  obtain ⟨p', cap', rfl, ha'⟩ := hr'
  have HA := Lib.hid ha
  have HA' := Lib.hid ha'
  clear ha ha'
  by_cases hlen : d.length = e.length
  · have HLE := Lib.hid hlen
    clear hlen
    have hne : ((d.length : Int) != (e.length : Int)) = false := by rw [HLE.out]; simp
    go_enter Tryz.func78, Tryz.ntmps78
    go_wp2_with fail
    go_loopw [13] (fun iv wr => ∃ i : Nat, i ≤ d.length ∧ iv = .int .i64 (i : Int) ∧ Hid (d.take i = e.take i) ∧ Below w.heap.size w wr) (fun iv _ => d.length - (intOf iv).toNat)
    case atStart => exact ⟨0, by omega, rfl, Lib.hid (by simp), Below.refl _ _⟩
    case round =>
      obtain ⟨i, hi, rfl, HT, hb⟩ := hrel
      by_cases hlt : i < d.length
      · obtain ⟨b, o, rfl, h0, h1⟩ := HA.out i hlt
        have hle2 : i < e.length := by rw [← HLE.out]; exact hlt
        obtain ⟨b', o', rfl, h0', h1'⟩ := HA'.out i hle2
        replace h0 := (hb.cell (World.block_lt_of_cell? w _ h0)).trans h0
        replace h1 := (hb.cell (World.block_lt_of_cell? w _ h1)).trans h1
        replace h0' := (hb.cell (World.block_lt_of_cell? w _ h0')).trans h0'
        replace h1' := (hb.cell (World.block_lt_of_cell? w _ h1')).trans h1'
        have z0 : (0 : Int) ≤ (i : Int) := by omega
        have z1 : (i : Int) < (d.length : Int) := by omega
        have z2 : (i : Int) < (e.length : Int) := Int.ofNat_lt.2 hle2
        have HX := Lib.hid (take_succ_getD d (0, 0) i hlt)
        have HY := Lib.hid (take_succ_getD e (0, 0) i hle2)
        obtain ⟨⟨x0, x1⟩, hx⟩ : ∃ z, z = d.getD i (0, 0) := ⟨_, rfl⟩
        obtain ⟨⟨y0, y1⟩, hy⟩ : ∃ z, z = e.getD i (0, 0) := ⟨_, rfl⟩
        rw [← hx] at h0 h1 HX
        rw [← hy] at h0' h1' HY
        simp only at h0 h1 h0' h1'
        by_cases he : x0 = y0 ∧ x1 = y1
        · obtain ⟨rfl, rfl⟩ := he
          have HN : Hid (d.take (i + 1) = e.take (i + 1)) := Lib.hid (by rw [HX.out, HY.out, HT.out])
          go_wp2_with fail
          go_region
          go_wp2_with fail
          go_roundw
          case rel => exact ⟨i + 1, by omega, by go_num, HN, hb.drew⟩
          case measure => simp [intOf]; omega
        · have HN : Hid (decide (d = e) = false) := Lib.hid (decide_eq_false fun h => he (by
            subst h
            rw [← hx] at hy
            cases hy; exact ⟨rfl, rfl⟩))
          by_cases he0 : x0 = y0
          · have he1 : ¬ x1 = y1 := fun h => he ⟨he0, h⟩
            clear he hx hy
            go_wp2_with fail
            go_region
            go_wp2_with fail
            go_ret
            exact ⟨ret_b HN.out, hb.drew⟩
          · clear he hx hy
            go_wp2_with fail
            go_region
            go_wp2_with fail
            go_ret
            exact ⟨ret_b HN.out, hb.drew⟩
      · obtain rfl : i = d.length := by omega
        have HN : Hid (decide (d = e) = true) := Lib.hid (decide_eq_true (by
          have h := HT.out
          rw [List.take_length, HLE.out, List.take_length] at h
          exact h))
        go_wp2_with fail
        go_ret
        exact ⟨ret_b HN.out, hb⟩
  · have HN : Hid (decide (d = e) = false) := Lib.hid (decide_eq_false fun h => hlen (by rw [h]))
    have hne : ((d.length : Int) != (e.length : Int)) = true := by rw [bne_iff_ne]; omega
    clear hlen
    go_enter Tryz.func78, Tryz.ntmps78
    go_wp2_with fail
    go_ret
    exact ⟨ret_b HN.out, Below.refl _ _⟩
theorem implSameDeps_any (v v' : Value) (d e : List (Int × Int)) (w : World) (hr : ReadD w v d) (hr' : ReadD w v' e) (hl : d.length ≤ 1048576) (_hl' : e.length ≤ 1048576) :
    Calls Tryz.prog 59 #[v, v'] w fun e' w' => e' = .returned (.bool (decide (d = e))) ∧ Below w.heap.size w w' := by
  have HS := Lib.hid (slEqualD_any v v' d e w hr hr' hl)
  go_enter Tryz.func59, Tryz.ntmps59
  go_wp2_with fail
  refine HS.out.mono ?_
  rintro e' w' ⟨rfl, hb⟩
  go_wp2_with fail
  go_ret
  exact ⟨rfl, hb⟩
end Go.Proofs.YtjfllfancgmalaaGreat
namespace Go.Proofs.YtjfllfancgmalaaGreat
open Go.RowKit

section
set_option maxRecDepth 20000
set_option maxHeartbeats 1600000
theorem implEqualSearches_any (c c' m m' at_ at' t t' : Int) (v v' f f' : Value) (ll ll' : List (List Int)) (F F' : List (Int × Int)) (w : World) (hr : ReadSS w v ll) (hr' : ReadSS w v' ll') (hl : ll.length ≤ 1000000000) (ht : ∀ i, i < ll.length → (ll.getD i []).length ≤ 1000000000) (hf : ReadD w f F) (hf' : ReadD w f' F') (hF : F.length ≤ 1048576) (hF' : F'.length ≤ 1048576) :
    Calls Tryz.prog 34 #[srcV c v m at_ f t, srcV c' v' m' at' f' t'] w fun e w' => e = .returned (.bool (eqSea c c' ll ll' m m' at_ at' F F' t t')) ∧ Below w.heap.size w w' := by
  have HT := Lib.hid (fun w' (hb : Below w.heap.size w w') => implEqualTables_any c c' v v' ll ll' w' (hr.kept hb) (hr'.kept hb) hl ht)
  have HD := Lib.hid (fun w' (hb : Below w.heap.size w w') => implSameDeps_any f f' F F' w' (hf.kept hb) (hf'.kept hb) hF hF')
  have hb1 := (Below.refl w.heap.size w).alloc (Nat.le_refl _) (.cells #[.int .i64 c, v, .int .i64 m, .int .i64 at_, f, .int .i64 t] 29)
  have h12 := (Below.refl (w.alloc (.cells #[.int .i64 c, v, .int .i64 m, .int .i64 at_, f, .int .i64 t] 29)).heap.size (w.alloc (.cells #[.int .i64 c, v, .int .i64 m, .int .i64 at_, f, .int .i64 t] 29))).alloc (Nat.le_refl _) (.cells #[.int .i64 c', v', .int .i64 m', .int .i64 at', f', .int .i64 t'] 29)
  have hb2 := hb1.trans (h12.mono hb1.size)
  have HSA := Lib.hid ((SBx.mk' w 29 c v m at_ f t).kept h12)
  have hs2 := SBx.mk' (w.alloc (.cells #[.int .i64 c, v, .int .i64 m, .int .i64 at_, f, .int .i64 t] 29)) 29 c' v' m' at' f' t'
  rw [World.size_alloc] at hs2
  have HSB := Lib.hid hs2
  have HB := Lib.hid hb2
  obtain ⟨a, cap, rfl, -⟩ := hr
  obtain ⟨a', cap', rfl, -⟩ := hr'
  obtain ⟨af, capf, rfl, -⟩ := hf
  obtain ⟨af', capf', rfl, -⟩ := hf'
  obtain ⟨⟨c0, c1⟩, ⟨c2, c3⟩, c4, c5⟩ := HSA.out
  obtain ⟨⟨d0, d1⟩, ⟨d2, d3⟩, d4, d5⟩ := HSB.out
  have hE : eqSea c c' ll ll' m m' at_ at' F F' t t' = (eqTb c c' ll ll' && (m == m') && (at_ == at') && decide (F = F') && (t == t')) := rfl
  obtain ⟨e1, he1⟩ : ∃ e1, e1 = eqTb c c' ll ll' := ⟨_, rfl⟩
  obtain ⟨e4, he4⟩ : ∃ e4, e4 = decide (F = F') := ⟨_, rfl⟩
  obtain ⟨e2, he2⟩ : ∃ e2, (m == m') = e2 := ⟨_, rfl⟩
  obtain ⟨e3, he3⟩ : ∃ e3, (at_ == at') = e3 := ⟨_, rfl⟩
  obtain ⟨e5, he5⟩ : ∃ e5, (t == t') = e5 := ⟨_, rfl⟩
  rw [← he1, ← he4, he2, he3, he5] at hE
  rw [← he1] at HT
  rw [← he4] at HD
  have HE := Lib.hid hE
  unfold srcV
  clear hb1 h12 hb2 hs2 ht he1 he4 hE
  cases e1 with
  | false =>
    go_enter Tryz.func34, Tryz.ntmps34
    go_wp2_with fail
    refine (HT.out _ HB.out).mono ?_
    rintro e w1 ⟨rfl, b1⟩
    have hb3 := HB.out.trans (b1.mono HB.out.size)
    go_wp2_with fail
    go_ret
    exact ⟨ret_b (by rw [HE.out]; rfl), hb3⟩
  | true =>
    cases e2 with
    | false =>
      go_enter Tryz.func34, Tryz.ntmps34
      go_wp2_with fail
      refine (HT.out _ HB.out).mono ?_
      rintro e w1 ⟨rfl, b1⟩
      have hb3 := HB.out.trans (b1.mono HB.out.size)
      have HS1 := Lib.hid (HSA.out.kept b1)
      have HS2 := Lib.hid (HSB.out.kept b1)
      clear b1 c0 c1 c2 c3 c4 c5 d0 d1 d2 d3 d4 d5
      obtain ⟨⟨c0, c1⟩, ⟨c2, c3⟩, c4, c5⟩ := HS1.out
      obtain ⟨⟨d0, d1⟩, ⟨d2, d3⟩, d4, d5⟩ := HS2.out
      go_wp2_with fail
      go_ret
      exact ⟨ret_b (by rw [HE.out]; rfl), hb3⟩
    | true =>
      cases e3 with
      | false =>
        go_enter Tryz.func34, Tryz.ntmps34
        go_wp2_with fail
        refine (HT.out _ HB.out).mono ?_
        rintro e w1 ⟨rfl, b1⟩
        have hb3 := HB.out.trans (b1.mono HB.out.size)
        have HS1 := Lib.hid (HSA.out.kept b1)
        have HS2 := Lib.hid (HSB.out.kept b1)
        clear b1 c0 c1 c2 c3 c4 c5 d0 d1 d2 d3 d4 d5
        obtain ⟨⟨c0, c1⟩, ⟨c2, c3⟩, c4, c5⟩ := HS1.out
        obtain ⟨⟨d0, d1⟩, ⟨d2, d3⟩, d4, d5⟩ := HS2.out
        go_wp2_with fail
        go_ret
        exact ⟨ret_b (by rw [HE.out]; rfl), hb3⟩
      | true =>
        cases e5 with
        | false =>
          go_enter Tryz.func34, Tryz.ntmps34
          go_wp2_with fail
          refine (HT.out _ HB.out).mono ?_
          rintro e w1 ⟨rfl, b1⟩
          have hb3 := HB.out.trans (b1.mono HB.out.size)
          have HS1 := Lib.hid (HSA.out.kept b1)
          have HS2 := Lib.hid (HSB.out.kept b1)
          clear b1 c0 c1 c2 c3 c4 c5 d0 d1 d2 d3 d4 d5
          obtain ⟨⟨c0, c1⟩, ⟨c2, c3⟩, c4, c5⟩ := HS1.out
          obtain ⟨⟨d0, d1⟩, ⟨d2, d3⟩, d4, d5⟩ := HS2.out
          go_wp2_with fail
          go_ret
          exact ⟨ret_b (by rw [HE.out]; simp), hb3⟩
        | true =>
          go_enter Tryz.func34, Tryz.ntmps34
          go_wp2_with fail
          refine (HT.out _ HB.out).mono ?_
          rintro e w1 ⟨rfl, b1⟩
          have hb3 := HB.out.trans (b1.mono HB.out.size)
          have HS1 := Lib.hid (HSA.out.kept b1)
          have HS2 := Lib.hid (HSB.out.kept b1)
          clear b1 c0 c1 c2 c3 c4 c5 d0 d1 d2 d3 d4 d5
          obtain ⟨⟨c0, c1⟩, ⟨c2, c3⟩, c4, c5⟩ := HS1.out
          obtain ⟨⟨d0, d1⟩, ⟨d2, d3⟩, d4, d5⟩ := HS2.out
          go_wp2_with fail
          refine (HD.out _ hb3).mono ?_
          rintro e w2 ⟨rfl, b2⟩
          have hb4 := hb3.trans (b2.mono hb3.size)
          have HS3 := Lib.hid (HS1.out.kept b2)
          have HS4 := Lib.hid (HS2.out.kept b2)
          clear b2 c0 c1 c2 c3 c4 c5 d0 d1 d2 d3 d4 d5
          obtain ⟨⟨c0, c1⟩, ⟨c2, c3⟩, c4, c5⟩ := HS3.out
          obtain ⟨⟨d0, d1⟩, ⟨d2, d3⟩, d4, d5⟩ := HS4.out
          cases e4 with
          | false =>
            go_wp2_with fail
            go_ret
            exact ⟨ret_b (by rw [HE.out]; rfl), hb4⟩
          | true =>
            go_wp2_with fail
            go_ret
            exact ⟨ret_b (by rw [HE.out]; rfl), hb4⟩
end
section
set_option maxRecDepth 20000
set_option maxHeartbeats 1600000
theorem hasEnded_any (C K : Nat) (hC1 : 1 ≤ C) (hC : C ≤ 5) (m t : Int) (a af : Option Addr) (n1 n2 cap capf : Nat) (w : World) :
    Calls Tryz.prog 38 #[srcV (C : Int) (.slice a n1 cap) m (K : Int) (.slice af n2 capf) t] w fun e w' => e = .returned (.bool (decide (K = C * 2 ^ C))) ∧ Below w.heap.size w w' := by
  have HCD := Lib.hid (fun w' => cands_any C hC1 hC m (K : Int) t a af n1 n2 cap capf w')
  have HLL := Lib.hid (cdL_len C (C * 2 ^ C))
  obtain ⟨N, hN⟩ : ∃ N, N = C * 2 ^ C := ⟨_, rfl⟩
  rw [← hN] at HCD HLL ⊢
  have HB1 := Lib.hid ((Below.refl w.heap.size w).alloc (Nat.le_refl _) (.cells #[.int .i64 (C : Int), .slice a n1 cap, .int .i64 m, .int .i64 (K : Int), .slice af n2 capf, .int .i64 t] 29))
  obtain ⟨⟨c0, c1⟩, ⟨c2, c3⟩, c4, c5⟩ := SBx.mk' w 29 (C : Int) (.slice a n1 cap) m (K : Int) (.slice af n2 capf) t
  obtain ⟨bb, hbb⟩ : ∃ bb, ((K : Int) == (N : Int)) = bb := ⟨_, rfl⟩
  have HE : Hid (decide (K = N) = bb) := Lib.hid (by rw [← hbb, Bool.eq_iff_iff, decide_eq_true_iff, beq_iff_eq]; omega)
  unfold srcV at HCD ⊢
  clear hN
  go_enter Tryz.func38, Tryz.ntmps38
  go_wp2_with fail
  refine wp_region_noPanic ?_
  refine wp_region_held_drew (S := (fun w' => ((w'.cell? ⟨w.heap.size, 0, none⟩ = some (.int .i64 (C : Int)) ∧ w'.cell? ⟨w.heap.size, 1, none⟩ = some (.slice a n1 cap)) ∧ (w'.cell? ⟨w.heap.size, 2, none⟩ = some (.int .i64 m) ∧ w'.cell? ⟨w.heap.size, 3, none⟩ = some (.int .i64 (K : Int))) ∧ w'.cell? ⟨w.heap.size, 4, none⟩ = some (.slice af n2 capf) ∧ w'.cell? ⟨w.heap.size, 5, none⟩ = some (.int .i64 t)) ∧ Below w.heap.size w w')) (by kernel_rfl) ?_ (fun hHeld => ?_)
  · ((try dsimp only); (first | exact keepS hHeld b91 | exact ⟨⟨⟨c0, c1⟩, ⟨c2, c3⟩, c4, c5⟩, HB1.out.drew⟩))
  refine wpAnyH_take (i := 0) (v := ?_) rfl (by kernel_rfl) (by kernel_rfl) (by kernel_rfl) (fun _ _ _ h => h) (Or.inl ⟨by rfl, ?_⟩) (by assumption) ?_
  rotate_left
  · (intro w hSw; (try dsimp only at hSw); go_simp; (try with_reducible rfl))
  (try simp only [Act.put, List.getElem_toArray, List.getElem_cons_zero, List.setIfInBounds_toArray, List.set_cons_zero, List.set_cons_succ])
  refine wpAnyH_take (i := 1) (v := ?_) rfl (by kernel_rfl) (by kernel_rfl) (by kernel_rfl) (fun _ _ _ h => h) (Or.inl ⟨by rfl, ?_⟩) (by assumption) ?_
  rotate_left
  · (intro w hSw; (try dsimp only at hSw); go_simp; (try with_reducible rfl))
  (try simp only [Act.put, List.getElem_toArray, List.getElem_cons_succ, List.getElem_cons_zero, List.setIfInBounds_toArray, List.set_cons_zero, List.set_cons_succ])
  refine wpAnyH_take (i := 2) (v := ?_) rfl (by kernel_rfl) (by kernel_rfl) (by kernel_rfl) (fun _ _ _ h => h) (Or.inl ⟨by rfl, ?_⟩) (by assumption) ?_
  rotate_left
  · (intro w hSw; (try dsimp only at hSw); go_simp; (try with_reducible rfl))
  (try simp only [Act.put, List.getElem_toArray, List.getElem_cons_succ, List.getElem_cons_zero, List.setIfInBounds_toArray, List.set_cons_zero, List.set_cons_succ])
  refine wpAnyH_ready (rs := [3]) (by kernel_rfl) (by simp) (AllReadyH.cons rfl (fun K hK => ?_) AllReadyH.nil)
  (first | ((go_at_call 39; refine (HCD.out _).mono ?_; rintro e w91 ⟨vo, rfl, oo, b91⟩; obtain ⟨ad, cpd, hov⟩ := oo.shape; rw [HLL.out] at hov; subst hov; clear oo)) | (go_simp; (go_at_call 39; refine (HCD.out _).mono ?_; rintro e w91 ⟨vo, rfl, oo, b91⟩; obtain ⟨ad, cpd, hov⟩ := oo.shape; rw [HLL.out] at hov; subst hov; clear oo)))
  (try (go_wp2_with fail))
  refine hK.out _ _ ?_ (fun hHeld => ?_)
  · ((try dsimp only); (first | exact keepS hHeld b91 | exact ⟨⟨⟨c0, c1⟩, ⟨c2, c3⟩, c4, c5⟩, HB1.out.drew⟩))
  clear hK K
  (try simp only [Act.put, List.getElem_toArray, List.getElem_cons_succ, List.getElem_cons_zero, List.setIfInBounds_toArray, List.set_cons_zero, List.set_cons_succ])
  refine wpAnyH_take (i := 4) (v := ?_) rfl (by kernel_rfl) (by kernel_rfl) (by kernel_rfl) (fun _ _ _ h => h) (Or.inl ⟨by rfl, ?_⟩) (by assumption) ?_
  rotate_left
  · (intro w hSw; (try dsimp only at hSw); go_simp; (try with_reducible rfl))
  (try simp only [Act.put, List.getElem_toArray, List.getElem_cons_succ, List.getElem_cons_zero, List.setIfInBounds_toArray, List.set_cons_zero, List.set_cons_succ])
  refine wpAnyH_take (i := 5) (v := ?_) rfl (by kernel_rfl) (by kernel_rfl) (by kernel_rfl) (fun _ _ _ h => h) (Or.inl ⟨by rfl, ?_⟩) (by assumption) ?_
  rotate_left
  · (intro w hSw; (try dsimp only at hSw); go_simp; (try with_reducible rfl))
  (try simp only [Act.put, List.getElem_toArray, List.getElem_cons_succ, List.getElem_cons_zero, List.setIfInBounds_toArray, List.set_cons_zero, List.set_cons_succ])
  refine wpAnyH_take (i := 6) (v := ?_) rfl (by kernel_rfl) (by kernel_rfl) (by kernel_rfl) (fun _ _ _ h => h) (Or.inl ⟨by rfl, ?_⟩) (by assumption) ?_
  rotate_left
  · (intro w hSw; (try dsimp only at hSw); go_simp; (try with_reducible rfl))
  (try simp only [Act.put, List.getElem_toArray, List.getElem_cons_succ, List.getElem_cons_zero, List.setIfInBounds_toArray, List.set_cons_zero, List.set_cons_succ])
  refine wpAnyH_done (by kernel_rfl) ?_ _
  refine NoPanic.normal ?_
  go_wp2_with fail
  go_ret
  exact ⟨ret_b HE.out, hHeld.2⟩
end
/-- A search and whether there is one, in memory of the call's own. -/
def RetSeaB (c m at_ t : Int) (ll : List (List Int)) (F : List (Int × Int)) (b : Bool) (w : World) (e : Ending) (w' : World) : Prop :=
  ∃ (u g : Value) (C : Nat), e = .returned (.tuple #[srcV c u m at_ g t, .bool b]) ∧ OwnSS w' w.heap.size C u ll ∧ OwnD w' C g F ∧ w.heap.size ≤ C ∧ C ≤ w'.heap.size ∧ Below w.heap.size w w'
def nsC (c : Int) (ll : List (List Int)) (m : Int) : Int := if fineT c ll m = true then c else 0
def nsM (c : Int) (ll : List (List Int)) (m : Int) : Int := if fineT c ll m = true then m else 0
def nsL (c : Int) (ll : List (List Int)) (m : Int) : List (List Int) := if fineT c ll m = true then ll else []
section
set_option maxRecDepth 20000
set_option maxHeartbeats 1600000
theorem implNewSearch_any (c m : Int) (v : Value) (ll : List (List Int)) (w : World) (hr : ReadSS w v ll) (hl : ll.length ≤ 1048576) (ht : ∀ i, i < ll.length → (ll.getD i []).length ≤ 1048576) :
    Calls Tryz.prog 21 #[.agg #[.int .i64 c, v], .int .i64 m] w (RetSeaB (nsC c ll m) (nsM c ll m) 0 0 (nsL c ll m) [] (fineT c ll m) w) := by
  have HF := Lib.hid (fun w' (hb : Below w.heap.size w w') => inMode_any c m v ll w' (hr.kept hb) hl ht)
  have HT := Lib.hid (fun w' (hb : Below w.heap.size w w') => tabCopied_any c v ll w' (hr.kept hb) hl ht)
  obtain ⟨a, cap, rfl, -⟩ := hr
  have hb1 := (Below.refl w.heap.size w).alloc (Nat.le_refl _) (.cells #[.int .i64 c, .slice a ll.length cap] 26)
  have h12 := (Below.refl (w.alloc (.cells #[.int .i64 c, .slice a ll.length cap] 26)).heap.size _).alloc (Nat.le_refl _) (.cells #[.int .i64 0, .slice none 0 0, .int .i64 0, .int .i64 0, .slice none 0 0, .int .i64 0] 29)
  have HB := Lib.hid (hb1.trans (h12.mono hb1.size))
  have hy := SBI.new (w.alloc (.cells #[.int .i64 c, .slice a ll.length cap] 26)) (.int .i64 0) (.slice none 0 0) (.int .i64 0) (.int .i64 0) (.slice none 0 0) (.int .i64 0)
  rw [World.size_alloc] at hy
  have HY := Lib.hid hy
  have c0 := cell_inB (zero2 w 26 (.int .i64 c) (.slice a ll.length cap)).1 h12
  have c1 := cell_inB (zero2 w 26 (.int .i64 c) (.slice a ll.length cap)).2 h12
  have C0 := Lib.hid c0
  have C1 := Lib.hid c1
  clear hb1 h12 hy ht
  cases hf : fineT c ll m with
  | false =>
    have H1 : Hid (nsC c ll m = 0) := Lib.hid (by unfold nsC; rw [hf]; rfl)
    have H2 : Hid (nsM c ll m = 0) := Lib.hid (by unfold nsM; rw [hf]; rfl)
    have H3 : Hid (nsL c ll m = []) := Lib.hid (by unfold nsL; rw [hf]; rfl)
    rw [hf] at HF
    rw [H1.out, H2.out, H3.out]
    clear hf H1 H2 H3
    go_enter Tryz.func21, Tryz.ntmps21
    go_wp2_with fail
    refine (HF.out _ HB.out).mono ?_
    rintro e w1 ⟨rfl, b1⟩
    have hb2 := HB.out.trans (b1.mono HB.out.size)
    have hy1 := HY.out.kept b1
    have hlt := hy1.lt
    obtain ⟨⟨d0, d1, d2, d3, d4, d5⟩, g0, g1, g2, g3, g4, g5⟩ := hy1.cells
    have HB5 := Lib.hid (six_below (p := w.heap.size + 1) (.int .i64 0) (.slice none 0 0) (.int .i64 0) (.int .i64 0) (.slice none 0 0) (.int .i64 0) hb2 (by simp))
    clear b1 hb2 hy1 c0 c1
    go_wp2_with fail
    exact bodyPost_ret (v := .tuple #[srcV 0 (.slice none 0 0) 0 0 (.slice none 0 0) 0, .bool false]) (by simp [srcV, results, Tryz.results21, go_sem, d0, d1, d2, d3, d4, d5]) rfl ⟨_, _, w1.heap.size, rfl, OwnSS.nil _ _ _, OwnD.nil _ _, by omega, by simp, HB5.out⟩
  | true =>
    have H1 : Hid (nsC c ll m = c) := Lib.hid (by unfold nsC; rw [hf]; rfl)
    have H2 : Hid (nsM c ll m = m) := Lib.hid (by unfold nsM; rw [hf]; rfl)
    have H3 : Hid (nsL c ll m = ll) := Lib.hid (by unfold nsL; rw [hf]; rfl)
    rw [hf] at HF
    rw [H1.out, H2.out, H3.out]
    clear hf H1 H2 H3
    go_enter Tryz.func21, Tryz.ntmps21
    go_wp2_with fail
    refine (HF.out _ HB.out).mono ?_
    rintro e w1 ⟨rfl, b1⟩
    have HB2 := Lib.hid (HB.out.trans (b1.mono HB.out.size))
    have HY1 := Lib.hid (HY.out.kept b1)
    have e0 := cell_inB C0.out b1
    have e1 := cell_inB C1.out b1
    clear b1 c0 c1
    go_wp2_with fail
    refine (HT.out _ HB2.out).mono ?_
    rintro e w2 ⟨u, rfl, ou, b2⟩
    have hb3 := HB2.out.trans (b2.mono HB2.out.size)
    have hy2 := HY1.out.kept b2
    have hlt := HY1.out.lt
    obtain ⟨au, capu, rfl, -⟩ := ou.read
    obtain ⟨⟨d0, d1, d2, d3, d4, d5⟩, g0, g1, g2, g3, g4, g5⟩ := hy2.cells
    have HB5 := Lib.hid (six_below (p := w.heap.size + 1) (.int .i64 c) (.slice au ll.length capu) (.int .i64 m) (.int .i64 0) (.slice none 0 0) (.int .i64 0) hb3 (by simp))
    have HOU := Lib.hid ((ou.same (six_same w2 (p := w.heap.size + 1) (.int .i64 c) (.slice au ll.length capu) (.int .i64 m) (.int .i64 0) (.slice none 0 0) (.int .i64 0) (.inl hlt))).base (B' := w.heap.size) (C' := w2.heap.size) HB2.out.size (Nat.le_refl _))
    have HS3 := Lib.hid hb3.size
    clear b2 hb3 hy2 e0 e1 ou
    go_wp2_with fail
    exact bodyPost_ret (v := .tuple #[srcV c (.slice au ll.length capu) m 0 (.slice none 0 0) 0, .bool true]) (by simp [srcV, results, Tryz.results21, go_sem, d0, d1, d2, d3, d4, d5]) rfl ⟨_, _, w2.heap.size, rfl, HOU.out, OwnD.nil _ _, HS3.out, by simp, HB5.out⟩
end
end Go.Proofs.YtjfllfancgmalaaGreat
namespace Go.Proofs.YtjfllfancgmalaaGreat
open Go.RowKit

noncomputable def edB (c : Int) (ll : List (List Int)) (m at_ : Int) (F : List (Int × Int)) (t : Int) : Bool := isSB c ll m at_ F t && decide (at_ = ((c.toNat * 2 ^ c.toNat : Nat) : Int))
theorem isSB_fine {c m at_ t : Int} {ll : List (List Int)} {F : List (Int × Int)} (h : isSB c ll m at_ F t = true) : ∃ C K : Nat, c = (C : Int) ∧ at_ = (K : Int) ∧ 1 ≤ C ∧ C ≤ 5 ∧ K ≤ C * 2 ^ C ∧ fineT c ll m = true := by
  unfold isSB at h
  rw [Bool.and_eq_true, Bool.and_eq_true, Bool.and_eq_true, decide_eq_true_iff] at h
  obtain ⟨⟨⟨h1, h2, h3⟩, -⟩, -⟩ := h
  have hb := isT_bd (fineT_isT h1)
  exact ⟨c.toNat, at_.toNat, by omega, by omega, by omega, by omega, by omega, h1⟩
section
set_option maxRecDepth 20000
set_option maxHeartbeats 1600000
theorem isSearched8_any (c m at_ t : Int) (v f : Value) (ll : List (List Int)) (F : List (Int × Int)) (w : World) (hr : ReadSS w v ll) (hl : ll.length ≤ 1048576) (ht : ∀ i, i < ll.length → (ll.getD i []).length ≤ 1048576) (hf : ReadD w f F) (hF : F.length ≤ 1048576) :
    Calls Tryz.prog 23 #[srcV c v m at_ f t] w fun e w' => e = .returned (.bool (edB c ll m at_ F t)) ∧ Below w.heap.size w w' := by
  have HF := Lib.hid (fun w' (hb : Below w.heap.size w w') => isSearch8_any c m at_ t v f ll F w' (hr.kept hb) hl ht (hf.kept hb) hF)
  have hb1 := (Below.refl w.heap.size w).alloc (Nat.le_refl _) (.cells #[.int .i64 c, v, .int .i64 m, .int .i64 at_, f, .int .i64 t] 29)
  have HSB := Lib.hid (SBx.mk' w 29 c v m at_ f t)
  have HB1 := Lib.hid hb1
  obtain ⟨a, cap, rfl, -⟩ := hr
  obtain ⟨af, capf, rfl, -⟩ := hf
  obtain ⟨⟨c0, c1⟩, ⟨c2, c3⟩, c4, c5⟩ := HSB.out
  unfold srcV at *
  clear hb1 ht
  cases hs : isSB c ll m at_ F t with
  | false =>
    have HE : Hid (edB c ll m at_ F t = false) := Lib.hid (by unfold edB; rw [hs]; rfl)
    rw [hs] at HF
    clear hs
    go_enter Tryz.func23, Tryz.ntmps23
    go_wp2_with fail
    refine wp_region_noPanic ?_
    refine wp_region_held_drew (S := (fun w' => ((w'.cell? ⟨w.heap.size, 0, none⟩ = some (.int .i64 c) ∧ w'.cell? ⟨w.heap.size, 1, none⟩ = some (.slice a ll.length cap)) ∧ (w'.cell? ⟨w.heap.size, 2, none⟩ = some (.int .i64 m) ∧ w'.cell? ⟨w.heap.size, 3, none⟩ = some (.int .i64 at_)) ∧ w'.cell? ⟨w.heap.size, 4, none⟩ = some (.slice af F.length capf) ∧ w'.cell? ⟨w.heap.size, 5, none⟩ = some (.int .i64 t)) ∧ Below w.heap.size w w')) (by kernel_rfl) ?_ (fun hHeld => ?_)
    · ((try dsimp only); (first | exact keepS hHeld b92 | exact keepS hHeld b91 | exact ⟨⟨⟨c0, c1⟩, ⟨c2, c3⟩, c4, c5⟩, HB1.out.drew⟩))
    refine wpAnyH_take (i := 0) (v := ?_) rfl (by kernel_rfl) (by kernel_rfl) (by kernel_rfl) (fun _ _ _ h => h) (Or.inl ⟨by rfl, ?_⟩) (by assumption) ?_
    rotate_left
    · (intro w hSw; (try dsimp only at hSw); go_simp; (try with_reducible rfl))
    (try simp only [Act.put, List.getElem_toArray, List.getElem_cons_zero, List.setIfInBounds_toArray, List.set_cons_zero, List.set_cons_succ])
    refine wpAnyH_ready (rs := [1]) (by kernel_rfl) (by simp) (AllReadyH.cons rfl (fun K hK => ?_) AllReadyH.nil)
    (first | ((first | (go_at_call 10; refine (HF.out _ hHeld.2).mono ?_; rintro e w91 ⟨rfl, b91⟩) | (go_at_call 32; refine (HN.out _).mono ?_; rintro e w92 ⟨rfl, b92⟩))) | (go_simp; (first | (go_at_call 10; refine (HF.out _ hHeld.2).mono ?_; rintro e w91 ⟨rfl, b91⟩) | (go_at_call 32; refine (HN.out _).mono ?_; rintro e w92 ⟨rfl, b92⟩))))
    (try (go_wp2_with fail))
    refine hK.out _ _ ?_ (fun hHeld => ?_)
    · ((try dsimp only); (first | exact keepS hHeld b92 | exact keepS hHeld b91 | exact ⟨⟨⟨c0, c1⟩, ⟨c2, c3⟩, c4, c5⟩, HB1.out.drew⟩))
    clear hK K
    (try simp only [Act.put, List.getElem_toArray, List.getElem_cons_succ, List.getElem_cons_zero, List.setIfInBounds_toArray, List.set_cons_zero, List.set_cons_succ])
    refine wpAnyH_take (i := 2) (v := ?_) rfl (by kernel_rfl) (by kernel_rfl) (by kernel_rfl) (fun _ _ _ h => h) (Or.inl ⟨by rfl, ?_⟩) (by assumption) ?_
    rotate_left
    · (intro w hSw; (try dsimp only at hSw); go_simp; (try with_reducible rfl))
    (try simp only [Act.put, List.getElem_toArray, List.getElem_cons_succ, List.getElem_cons_zero, List.setIfInBounds_toArray, List.set_cons_zero, List.set_cons_succ])
    refine wpAnyH_take (i := 3) (v := undef) rfl (by kernel_rfl) (by kernel_rfl) (by kernel_rfl) (fun _ _ _ h => h) (Or.inr ⟨by rfl, rfl⟩) (by assumption) ?_
    (try simp only [Act.put, List.getElem_toArray, List.getElem_cons_succ, List.getElem_cons_zero, List.setIfInBounds_toArray, List.set_cons_zero, List.set_cons_succ])
    refine wpAnyH_take (i := 4) (v := undef) rfl (by kernel_rfl) (by kernel_rfl) (by kernel_rfl) (fun _ _ _ h => h) (Or.inr ⟨by rfl, rfl⟩) (by assumption) ?_
    (try simp only [Act.put, List.getElem_toArray, List.getElem_cons_succ, List.getElem_cons_zero, List.setIfInBounds_toArray, List.set_cons_zero, List.set_cons_succ])
    refine wpAnyH_take (i := 5) (v := undef) rfl (by kernel_rfl) (by kernel_rfl) (by kernel_rfl) (fun _ _ _ h => h) (Or.inr ⟨by rfl, rfl⟩) (by assumption) ?_
    (try simp only [Act.put, List.getElem_toArray, List.getElem_cons_succ, List.getElem_cons_zero, List.setIfInBounds_toArray, List.set_cons_zero, List.set_cons_succ])
    refine wpAnyH_take (i := 6) (v := undef) rfl (by kernel_rfl) (by kernel_rfl) (by kernel_rfl) (fun _ _ _ h => h) (Or.inr ⟨by rfl, rfl⟩) (by assumption) ?_
    (try simp only [Act.put, List.getElem_toArray, List.getElem_cons_succ, List.getElem_cons_zero, List.setIfInBounds_toArray, List.set_cons_zero, List.set_cons_succ])
    refine wpAnyH_take (i := 7) (v := undef) rfl (by kernel_rfl) (by kernel_rfl) (by kernel_rfl) (fun _ _ _ h => h) (Or.inr ⟨by rfl, rfl⟩) (by assumption) ?_
    (try simp only [Act.put, List.getElem_toArray, List.getElem_cons_succ, List.getElem_cons_zero, List.setIfInBounds_toArray, List.set_cons_zero, List.set_cons_succ])
    refine wpAnyH_take (i := 8) (v := undef) rfl (by kernel_rfl) (by kernel_rfl) (by kernel_rfl) (fun _ _ _ h => h) (Or.inr ⟨by rfl, rfl⟩) (by assumption) ?_
    (try simp only [Act.put, List.getElem_toArray, List.getElem_cons_succ, List.getElem_cons_zero, List.setIfInBounds_toArray, List.set_cons_zero, List.set_cons_succ])
    refine wpAnyH_take (i := 9) (v := undef) rfl (by kernel_rfl) (by kernel_rfl) (by kernel_rfl) (fun _ _ _ h => h) (Or.inr ⟨by rfl, rfl⟩) (by assumption) ?_
    (try simp only [Act.put, List.getElem_toArray, List.getElem_cons_succ, List.getElem_cons_zero, List.setIfInBounds_toArray, List.set_cons_zero, List.set_cons_succ])
    refine wpAnyH_take (i := 10) (v := ?_) rfl (by kernel_rfl) (by kernel_rfl) (by kernel_rfl) (fun _ _ _ h => h) (Or.inl ⟨by rfl, ?_⟩) (by assumption) ?_
    rotate_left
    · (intro w hSw; (try dsimp only at hSw); go_simp; (try with_reducible rfl))
    (try simp only [Act.put, List.getElem_toArray, List.getElem_cons_succ, List.getElem_cons_zero, List.setIfInBounds_toArray, List.set_cons_zero, List.set_cons_succ])
    refine wpAnyH_take (i := 11) (v := ?_) rfl (by kernel_rfl) (by kernel_rfl) (by kernel_rfl) (fun _ _ _ h => h) (Or.inl ⟨by rfl, ?_⟩) (by assumption) ?_
    rotate_left
    · (intro w hSw; (try dsimp only at hSw); go_simp; (try with_reducible rfl))
    (try simp only [Act.put, List.getElem_toArray, List.getElem_cons_succ, List.getElem_cons_zero, List.setIfInBounds_toArray, List.set_cons_zero, List.set_cons_succ])
    refine wpAnyH_done (by kernel_rfl) ?_ _
    refine NoPanic.normal ?_
    clear b91
    go_wp2_with fail
    go_ret
    exact ⟨by rw [HE.out]; rfl, hHeld.2⟩
  | true =>
    obtain ⟨C, K, rfl, rfl, hC1, hC5, hK, -⟩ := isSB_fine hs
    obtain ⟨N, hN⟩ : ∃ N, N = C * 2 ^ C := ⟨_, rfl⟩
    have HN : Hid (∀ w', Calls Tryz.prog 32 #[.int .i64 (C : Int)] w' fun e w'' => e = .returned (.int .i64 (N : Int)) ∧ Below w'.heap.size w' w'') := Lib.hid (fun w' => (count8_any C hC5 w').mono fun e w'' ⟨h1, h2⟩ => ⟨by rw [h1, hN], by rw [← h2]; exact Below.refl _ _⟩)
    obtain ⟨qb, hqb⟩ : ∃ qb, ((K : Int) == (N : Int)) = qb := ⟨_, rfl⟩
    have HE : Hid (edB (C : Int) ll m (K : Int) F t = qb) := Lib.hid (by
      unfold edB
      rw [hs, Bool.true_and, ← hqb, show ((C : Int)).toNat = C from rfl, ← hN, Bool.eq_iff_iff, decide_eq_true_iff, beq_iff_eq])
    rw [hs] at HF
    clear hs hN hK
    go_enter Tryz.func23, Tryz.ntmps23
    go_wp2_with fail
    refine wp_region_noPanic ?_
    refine wp_region_held_drew (S := (fun w' => ((w'.cell? ⟨w.heap.size, 0, none⟩ = some (.int .i64 (C : Int)) ∧ w'.cell? ⟨w.heap.size, 1, none⟩ = some (.slice a ll.length cap)) ∧ (w'.cell? ⟨w.heap.size, 2, none⟩ = some (.int .i64 m) ∧ w'.cell? ⟨w.heap.size, 3, none⟩ = some (.int .i64 (K : Int))) ∧ w'.cell? ⟨w.heap.size, 4, none⟩ = some (.slice af F.length capf) ∧ w'.cell? ⟨w.heap.size, 5, none⟩ = some (.int .i64 t)) ∧ Below w.heap.size w w')) (by kernel_rfl) ?_ (fun hHeld => ?_)
    · ((try dsimp only); (first | exact keepS hHeld b92 | exact keepS hHeld b91 | exact ⟨⟨⟨c0, c1⟩, ⟨c2, c3⟩, c4, c5⟩, HB1.out.drew⟩))
    refine wpAnyH_take (i := 0) (v := ?_) rfl (by kernel_rfl) (by kernel_rfl) (by kernel_rfl) (fun _ _ _ h => h) (Or.inl ⟨by rfl, ?_⟩) (by assumption) ?_
    rotate_left
    · (intro w hSw; (try dsimp only at hSw); go_simp; (try with_reducible rfl))
    (try simp only [Act.put, List.getElem_toArray, List.getElem_cons_zero, List.setIfInBounds_toArray, List.set_cons_zero, List.set_cons_succ])
    refine wpAnyH_ready (rs := [1]) (by kernel_rfl) (by simp) (AllReadyH.cons rfl (fun K hK => ?_) AllReadyH.nil)
    (first | ((first | (go_at_call 10; refine (HF.out _ hHeld.2).mono ?_; rintro e w91 ⟨rfl, b91⟩) | (go_at_call 32; refine (HN.out _).mono ?_; rintro e w92 ⟨rfl, b92⟩))) | (go_simp; (first | (go_at_call 10; refine (HF.out _ hHeld.2).mono ?_; rintro e w91 ⟨rfl, b91⟩) | (go_at_call 32; refine (HN.out _).mono ?_; rintro e w92 ⟨rfl, b92⟩))))
    (try (go_wp2_with fail))
    refine hK.out _ _ ?_ (fun hHeld => ?_)
    · ((try dsimp only); (first | exact keepS hHeld b92 | exact keepS hHeld b91 | exact ⟨⟨⟨c0, c1⟩, ⟨c2, c3⟩, c4, c5⟩, HB1.out.drew⟩))
    clear hK K
    (try simp only [Act.put, List.getElem_toArray, List.getElem_cons_succ, List.getElem_cons_zero, List.setIfInBounds_toArray, List.set_cons_zero, List.set_cons_succ])
    refine wpAnyH_take (i := 2) (v := ?_) rfl (by kernel_rfl) (by kernel_rfl) (by kernel_rfl) (fun _ _ _ h => h) (Or.inl ⟨by rfl, ?_⟩) (by assumption) ?_
    rotate_left
    · (intro w hSw; (try dsimp only at hSw); go_simp; (try with_reducible rfl))
    (try simp only [Act.put, List.getElem_toArray, List.getElem_cons_succ, List.getElem_cons_zero, List.setIfInBounds_toArray, List.set_cons_zero, List.set_cons_succ])
    refine wpAnyH_take (i := 3) (v := ?_) rfl (by kernel_rfl) (by kernel_rfl) (by kernel_rfl) (fun _ _ _ h => h) (Or.inl ⟨by rfl, ?_⟩) (by assumption) ?_
    rotate_left
    · (intro w hSw; (try dsimp only at hSw); go_simp; (try with_reducible rfl))
    (try simp only [Act.put, List.getElem_toArray, List.getElem_cons_succ, List.getElem_cons_zero, List.setIfInBounds_toArray, List.set_cons_zero, List.set_cons_succ])
    refine wpAnyH_take (i := 4) (v := ?_) rfl (by kernel_rfl) (by kernel_rfl) (by kernel_rfl) (fun _ _ _ h => h) (Or.inl ⟨by rfl, ?_⟩) (by assumption) ?_
    rotate_left
    · (intro w hSw; (try dsimp only at hSw); go_simp; (try with_reducible rfl))
    (try simp only [Act.put, List.getElem_toArray, List.getElem_cons_succ, List.getElem_cons_zero, List.setIfInBounds_toArray, List.set_cons_zero, List.set_cons_succ])
    refine wpAnyH_take (i := 5) (v := ?_) rfl (by kernel_rfl) (by kernel_rfl) (by kernel_rfl) (fun _ _ _ h => h) (Or.inl ⟨by rfl, ?_⟩) (by assumption) ?_
    rotate_left
    · (intro w hSw; (try dsimp only at hSw); go_simp; (try with_reducible rfl))
    (try simp only [Act.put, List.getElem_toArray, List.getElem_cons_succ, List.getElem_cons_zero, List.setIfInBounds_toArray, List.set_cons_zero, List.set_cons_succ])
    refine wpAnyH_take (i := 6) (v := ?_) rfl (by kernel_rfl) (by kernel_rfl) (by kernel_rfl) (fun _ _ _ h => h) (Or.inl ⟨by rfl, ?_⟩) (by assumption) ?_
    rotate_left
    · (intro w hSw; (try dsimp only at hSw); go_simp; (try with_reducible rfl))
    (try simp only [Act.put, List.getElem_toArray, List.getElem_cons_succ, List.getElem_cons_zero, List.setIfInBounds_toArray, List.set_cons_zero, List.set_cons_succ])
    refine wpAnyH_take (i := 7) (v := ?_) rfl (by kernel_rfl) (by kernel_rfl) (by kernel_rfl) (fun _ _ _ h => h) (Or.inl ⟨by rfl, ?_⟩) (by assumption) ?_
    rotate_left
    · (intro w hSw; (try dsimp only at hSw); go_simp; (try with_reducible rfl))
    (try simp only [Act.put, List.getElem_toArray, List.getElem_cons_succ, List.getElem_cons_zero, List.setIfInBounds_toArray, List.set_cons_zero, List.set_cons_succ])
    refine wpAnyH_ready (rs := [8]) (by kernel_rfl) (by simp) (AllReadyH.cons rfl (fun K hK => ?_) AllReadyH.nil)
    (first | ((first | (go_at_call 10; refine (HF.out _ hHeld.2).mono ?_; rintro e w91 ⟨rfl, b91⟩) | (go_at_call 32; refine (HN.out _).mono ?_; rintro e w92 ⟨rfl, b92⟩))) | (go_simp; (first | (go_at_call 10; refine (HF.out _ hHeld.2).mono ?_; rintro e w91 ⟨rfl, b91⟩) | (go_at_call 32; refine (HN.out _).mono ?_; rintro e w92 ⟨rfl, b92⟩))))
    (try (go_wp2_with fail))
    refine hK.out _ _ ?_ (fun hHeld => ?_)
    · ((try dsimp only); (first | exact keepS hHeld b92 | exact keepS hHeld b91 | exact ⟨⟨⟨c0, c1⟩, ⟨c2, c3⟩, c4, c5⟩, HB1.out.drew⟩))
    clear hK K
    (try simp only [Act.put, List.getElem_toArray, List.getElem_cons_succ, List.getElem_cons_zero, List.setIfInBounds_toArray, List.set_cons_zero, List.set_cons_succ])
    refine wpAnyH_take (i := 9) (v := ?_) rfl (by kernel_rfl) (by kernel_rfl) (by kernel_rfl) (fun _ _ _ h => h) (Or.inl ⟨by rfl, ?_⟩) (by assumption) ?_
    rotate_left
    · (intro w hSw; (try dsimp only at hSw); go_simp; (try with_reducible rfl))
    (try simp only [Act.put, List.getElem_toArray, List.getElem_cons_succ, List.getElem_cons_zero, List.setIfInBounds_toArray, List.set_cons_zero, List.set_cons_succ])
    refine wpAnyH_take (i := 10) (v := ?_) rfl (by kernel_rfl) (by kernel_rfl) (by kernel_rfl) (fun _ _ _ h => h) (Or.inl ⟨by rfl, ?_⟩) (by assumption) ?_
    rotate_left
    · (intro w hSw; (try dsimp only at hSw); go_simp; (try with_reducible rfl))
    (try simp only [Act.put, List.getElem_toArray, List.getElem_cons_succ, List.getElem_cons_zero, List.setIfInBounds_toArray, List.set_cons_zero, List.set_cons_succ])
    refine wpAnyH_take (i := 11) (v := ?_) rfl (by kernel_rfl) (by kernel_rfl) (by kernel_rfl) (fun _ _ _ h => h) (Or.inl ⟨by rfl, ?_⟩) (by assumption) ?_
    rotate_left
    · (intro w hSw; (try dsimp only at hSw); go_simp; (try with_reducible rfl))
    (try simp only [Act.put, List.getElem_toArray, List.getElem_cons_succ, List.getElem_cons_zero, List.setIfInBounds_toArray, List.set_cons_zero, List.set_cons_succ])
    refine wpAnyH_done (by kernel_rfl) ?_ _
    refine NoPanic.normal ?_
    clear b91 b92
    go_wp2_with fail
    go_ret
    exact ⟨ret_b HE.out, hHeld.2⟩
end
/-- The next candidate. -/
noncomputable def nxB (c : Int) (ll : List (List Int)) (m at_ : Int) (F : List (Int × Int)) (t : Int) : Bool := isSB c ll m at_ F t && !edB c ll m at_ F t
noncomputable def nxD (c : Int) (ll : List (List Int)) (m at_ : Int) (F : List (Int × Int)) (t : Int) : Int × Int := if nxB c ll m at_ F t = true then cdt c.toNat at_.toNat else (0, 0)
section
set_option maxRecDepth 20000
set_option maxHeartbeats 1600000
theorem candidateAt8_any (c m at_ t : Int) (v f : Value) (ll : List (List Int)) (F : List (Int × Int)) (w : World) (hr : ReadSS w v ll) (hl : ll.length ≤ 1048576) (ht : ∀ i, i < ll.length → (ll.getD i []).length ≤ 1048576) (hf : ReadD w f F) (hF : F.length ≤ 1048576) :
    Calls Tryz.prog 14 #[srcV c v m at_ f t] w fun e w' => e = .returned (.tuple #[.agg #[.int .i64 (nxD c ll m at_ F t).1, .int .i64 (nxD c ll m at_ F t).2], .bool (nxB c ll m at_ F t)]) ∧ Below w.heap.size w w' := by
  have HF := Lib.hid (fun w' (hb : Below w.heap.size w w') => isSearch8_any c m at_ t v f ll F w' (hr.kept hb) hl ht (hf.kept hb) hF)
  have HD := Lib.hid (fun w' (hb : Below w.heap.size w w') => isSearched8_any c m at_ t v f ll F w' (hr.kept hb) hl ht (hf.kept hb) hF)
  have hb1 := (Below.refl w.heap.size w).alloc (Nat.le_refl _) (.cells #[.int .i64 c, v, .int .i64 m, .int .i64 at_, f, .int .i64 t] 29)
  have h12 := (Below.refl (w.alloc (.cells #[.int .i64 c, v, .int .i64 m, .int .i64 at_, f, .int .i64 t] 29)).heap.size (w.alloc (.cells #[.int .i64 c, v, .int .i64 m, .int .i64 at_, f, .int .i64 t] 29))).alloc (Nat.le_refl _) (.cells #[.int .i64 0, .int .i64 0] 38)
  have hb2 := hb1.trans (h12.mono hb1.size)
  have HS0 := (SBx.mk' w 29 c v m at_ f t).kept h12
  have hbx := heap_alloc_new (w.alloc (.cells #[.int .i64 c, v, .int .i64 m, .int .i64 at_, f, .int .i64 t] 29)) (.cells #[.int .i64 0, .int .i64 0] 38)
  rw [World.size_alloc] at hbx
  obtain ⟨W, hW⟩ : ∃ W, W = (w.alloc (.cells #[.int .i64 c, v, .int .i64 m, .int .i64 at_, f, .int .i64 t] 29)).alloc (.cells #[.int .i64 0, .int .i64 0] 38) := ⟨_, rfl⟩
  have hWs : w.heap.size + 1 < W.heap.size := by rw [hW]; simp
  rw [← hW] at hb2 HS0 hbx
  have HKX := Lib.hid (fun w' (hb : Below W.heap.size W w') => (hb.block (w.heap.size + 1) hWs).trans hbx)
  have HSB := Lib.hid HS0
  have HB1 := Lib.hid hb2
  obtain ⟨a, cap, rfl, -⟩ := hr
  obtain ⟨af, capf, rfl, -⟩ := hf
  clear hb1 ht h12 HS0 hb2 hWs hbx
  cases hs : isSB c ll m at_ F t with
  | false =>
    have HE : Hid (nxB c ll m at_ F t = false) := Lib.hid (by unfold nxB; rw [hs]; rfl)
    have HE2 : Hid (nxD c ll m at_ F t = (0, 0)) := Lib.hid (by unfold nxD; rw [HE.out]; rfl)
    rw [hs] at HF
    unfold srcV at *
    rw [hW] at HSB HB1 HKX
    obtain ⟨⟨c0, c1⟩, ⟨c2, c3⟩, c4, c5⟩ := HSB.out
    clear hs hW
    go_enter Tryz.func14, Tryz.ntmps14
    go_wp2_with fail
    refine (HF.out _ HB1.out).mono ?_
    rintro e w1 ⟨rfl, b1⟩
    have hb3 := HB1.out.trans (b1.mono HB1.out.size)
    have hk := HKX.out w1 b1
    have d0 : w1.cell? ⟨w.heap.size + 1, 0, none⟩ = some (.int .i64 0) := by rw [cell_of_row w1 (w.heap.size + 1) 0 _ _ _ hk]; rfl
    have d1 : w1.cell? ⟨w.heap.size + 1, 1, none⟩ = some (.int .i64 0) := by rw [cell_of_row w1 (w.heap.size + 1) 1 _ _ _ hk]; rfl
    have f0 := frozen_of_row w1 (w.heap.size + 1) 0 _ _ hk
    have f1 := frozen_of_row w1 (w.heap.size + 1) 1 _ _ hk
    clear b1 hk
    go_wp2_with fail
    exact bodyPost_ret (v := .tuple #[.agg #[.int .i64 0, .int .i64 0], .bool false]) (by simp [results, Tryz.results14, go_sem, d0, d1]) rfl ⟨by rw [HE.out, HE2.out], (hb3.setCell (p := ⟨w.heap.size + 1, 0, none⟩) (Nat.le_succ _) _).setCell (p := ⟨w.heap.size + 1, 1, none⟩) (Nat.le_succ _) _⟩
  | true =>
    obtain ⟨C, K, rfl, rfl, hC1, hC5, hK, -⟩ := isSB_fine hs
    cases hed : edB (C : Int) ll m (K : Int) F t with
    | true =>
      have HE : Hid (nxB (C : Int) ll m (K : Int) F t = false) := Lib.hid (by unfold nxB; rw [hed]; simp)
      have HE2 : Hid (nxD (C : Int) ll m (K : Int) F t = (0, 0)) := Lib.hid (by unfold nxD; rw [HE.out]; rfl)
      rw [hs] at HF
      rw [hed] at HD
      unfold srcV at *
      rw [hW] at HSB HB1 HKX
      obtain ⟨⟨c0, c1⟩, ⟨c2, c3⟩, c4, c5⟩ := HSB.out
      clear hs hed hW hK
      go_enter Tryz.func14, Tryz.ntmps14
      go_wp2_with fail
      refine (HF.out _ HB1.out).mono ?_
      rintro e w1 ⟨rfl, b1⟩
      have hb3 := HB1.out.trans (b1.mono HB1.out.size)
      have HS1 := Lib.hid (HSB.out.kept b1)
      clear c0 c1 c2 c3 c4 c5
      obtain ⟨⟨c0, c1⟩, ⟨c2, c3⟩, c4, c5⟩ := HS1.out
      go_wp2_with fail
      refine (HD.out _ hb3).mono ?_
      rintro e w2 ⟨rfl, b2⟩
      have hb4 := hb3.trans (b2.mono hb3.size)
      have hk := HKX.out w2 (b1.trans (b2.mono b1.size))
      have d0 : w2.cell? ⟨w.heap.size + 1, 0, none⟩ = some (.int .i64 0) := by rw [cell_of_row w2 (w.heap.size + 1) 0 _ _ _ hk]; rfl
      have d1 : w2.cell? ⟨w.heap.size + 1, 1, none⟩ = some (.int .i64 0) := by rw [cell_of_row w2 (w.heap.size + 1) 1 _ _ _ hk]; rfl
      have f0 := frozen_of_row w2 (w.heap.size + 1) 0 _ _ hk
      have f1 := frozen_of_row w2 (w.heap.size + 1) 1 _ _ hk
      clear b1 b2 hk c0 c1 c2 c3 c4 c5
      go_wp2_with fail
      exact bodyPost_ret (v := .tuple #[.agg #[.int .i64 0, .int .i64 0], .bool false]) (by simp [results, Tryz.results14, go_sem, d0, d1]) rfl ⟨by rw [HE.out, HE2.out], (hb4.setCell (p := ⟨w.heap.size + 1, 0, none⟩) (Nat.le_succ _) _).setCell (p := ⟨w.heap.size + 1, 1, none⟩) (Nat.le_succ _) _⟩
    | false =>
      have hlt : K < C * 2 ^ C := by
        refine Nat.lt_of_le_of_ne hK fun e => ?_
        unfold edB at hed
        rw [hs, Bool.true_and, decide_eq_false_iff_not] at hed
        exact hed (by rw [show ((C : Int)).toNat = C from rfl, e])
      obtain ⟨x, r, e, hx, hr5⟩ := cdt_ok hC1 hC5 hlt
      have HE : Hid (nxB (C : Int) ll m (K : Int) F t = true) := Lib.hid (by unfold nxB; rw [hs, hed]; rfl)
      have HE2 : Hid (nxD (C : Int) ll m (K : Int) F t = ((x : Int), (r : Int))) := Lib.hid (by unfold nxD; rw [if_pos HE.out]; exact e)
      have HDK := Lib.hid (fun w' => dep8_any C K x r hC1 hC5 hlt e w')
      rw [hs] at HF
      rw [hed] at HD
      unfold srcV at *
      rw [hW] at HSB HB1 HKX
      obtain ⟨⟨c0, c1⟩, ⟨c2, c3⟩, c4, c5⟩ := HSB.out
      clear hs hed hW hK e hlt
      go_enter Tryz.func14, Tryz.ntmps14
      go_wp2_with fail
      refine (HF.out _ HB1.out).mono ?_
      rintro e w1 ⟨rfl, b1⟩
      have hb3 := HB1.out.trans (b1.mono HB1.out.size)
      have HS1 := Lib.hid (HSB.out.kept b1)
      clear c0 c1 c2 c3 c4 c5
      obtain ⟨⟨c0, c1⟩, ⟨c2, c3⟩, c4, c5⟩ := HS1.out
      go_wp2_with fail
      refine (HD.out _ hb3).mono ?_
      rintro e w2 ⟨rfl, b2⟩
      have hb4 := hb3.trans (b2.mono hb3.size)
      have HS2 := Lib.hid (HS1.out.kept b2)
      clear c0 c1 c2 c3 c4 c5
      obtain ⟨⟨c0, c1⟩, ⟨c2, c3⟩, c4, c5⟩ := HS2.out
      go_wp2_with fail
      refine (HDK.out _).mono ?_
      rintro e w3 ⟨rfl, b3⟩
      have hb5 := hb4.trans (b3.mono hb4.size)
      have b12 := b1.trans (b2.mono b1.size)
      have hk := HKX.out w3 (b12.trans (b3.mono b12.size))
      have d0 : w3.cell? ⟨w.heap.size + 1, 0, none⟩ = some (.int .i64 0) := by rw [cell_of_row w3 (w.heap.size + 1) 0 _ _ _ hk]; rfl
      have d1 : w3.cell? ⟨w.heap.size + 1, 1, none⟩ = some (.int .i64 0) := by rw [cell_of_row w3 (w.heap.size + 1) 1 _ _ _ hk]; rfl
      have f0 := frozen_of_row w3 (w.heap.size + 1) 0 _ _ hk
      have f1 := frozen_of_row w3 (w.heap.size + 1) 1 _ _ hk
      clear b1 b2 b3 b12 hk c0 c1 c2 c3 c4 c5
      go_wp2_with fail
      exact bodyPost_ret (v := .tuple #[.agg #[.int .i64 (x : Int), .int .i64 (r : Int)], .bool true]) (by simp [results, Tryz.results14, go_sem, d0, d1]) rfl ⟨by rw [HE.out, HE2.out], (hb5.setCell (p := ⟨w.heap.size + 1, 0, none⟩) (Nat.le_succ _) _).setCell (p := ⟨w.heap.size + 1, 1, none⟩) (Nat.le_succ _) _⟩
end
end Go.Proofs.YtjfllfancgmalaaGreat
