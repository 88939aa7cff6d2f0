/- Texts of this claim, merged: ClnA, SpecT2, ImT, ImJ, Fam. Conditions: as stated. -/
import Derived.Test.YtnbjcelfdppkcadGreatXz5
import Derived.Test.YtnbjcelfdppkcadGreatXz2
import Derived.Laws.AppendOwnNone
import Derived.Lib.SliceRun
import Derived.Deep.AppendLies
import Derived.Test.YtnbjcelfdppkcadGreatXz3
import Derived.Test.YtnbjcelfdppkcadGreatXz13
import Derived.Test.YtnbjcelfdppkcadGreatXz4
import Derived.Laws.CopyOwn
import Derived.Laws.ResultCell
namespace Go.Proofs.YtnbjcelfdppkcadGreat
open Go.RowKit

section
variable {P : Program} {w : World}
theorem run_append_all (base : Nat) (t ty e : TypeId) (i : TypeInfo) (z : Value) (size bytes : Nat) (ht : P.underlying t = some (.slice e)) (hi : P.info? e = some i) (hz : i.zero = some z)
    (hsize : i.size = size) (hby : i.bytes = bytes) (hzs : z.cells.size = size) (hsz : 0 < size)
    (v : Value) (n : Nat) (xs : List Value) (hown : w.ownsRow base e size v n xs)
    (a : Option Addr) (m c : Nat) (news : List Value) (hl : news.length = m * size) (hnews : ∀ j u, news[j]? = some u → ∃ x, a = some x ∧ w.cell? (x.add j) = some u) (h1 : ∀ u ∈ news, u.oneCell' = true)
    (h63 : n + m ≤ maxLen) (hbytes : (n + m) * bytes ≤ 140737488355328) (hbase : base ≤ w.heap.size) :
    ∃ v' w', (Builtin.append_ #[t, t] ty #[v, .slice a m c]).run P w = .ok v' w' ∧ w'.ownsRow base e size v' (n + m) (xs ++ news) ∧ w.grownBy w' v.ownBlock := by
  cases a with
  | some x =>
    obtain ⟨v', w', h2, h3, h4, -⟩ := run_append_own_at (P := P) w base t ty e i z size bytes ht hi hz hsize hby hzs hsz v n xs hown x m c news hl (fun j u hu => by
      obtain ⟨y, hy, hc⟩ := hnews j u hu
      cases hy
      exact hc) h1 h63 hbytes hbase
    exact ⟨v', w', h2, h3, h4⟩
  | none =>
    have hn : news = [] := by
      cases news with
      | nil => rfl
      | cons u us =>
        obtain ⟨y, hy, -⟩ := hnews 0 u rfl
        cases hy
    subst hn
    have hm : m = 0 := by
      rcases Nat.eq_zero_or_pos m with h | h
      · exact h
      · exfalso
        have := Nat.mul_pos h hsz
        rw [← hl] at this
        exact Nat.lt_irrefl 0 this
    subst hm
    refine ⟨v, w, ?_, by rw [Nat.add_zero, List.append_nil]; exact hown, ⟨rfl, rfl, rfl, Nat.le_refl _, fun _ _ _ => rfl⟩⟩
    rcases hown.2 with ⟨rfl, rfl⟩ | ⟨g, cap, cur, rfl, _, _, hnc, _⟩
    · simp [Builtin.append_, run_underlying ht, sizeOf, typeInfo, hi, Builtin.lenOf, Builtin.firstCells]
    · simp [Builtin.append_, run_underlying ht, sizeOf, typeInfo, hi, Builtin.lenOf, Builtin.firstCells, hnc, storeCells]
theorem wp_append_all {o : Oper} {a : Act} {K : Act → World → Prop} {Q : Exit → Act → World → Prop} (s x : Operand) (t : TypeId)
    (ho : o.op = .call { callee := .builtin .append, args := #[s, x], argTypes := #[t, t] })
    (base : Nat) (e : TypeId) (i : TypeInfo) (z : Value) (size bytes : Nat) (ht : P.underlying t = some (.slice e)) (hi : P.info? e = some i) (hz : i.zero = some z)
    (hsize : i.size = size) (hby : i.bytes = bytes) (hzs : z.cells.size = size) (hsz : 0 < size)
    (v : Value) (n : Nat) (xs : List Value) (hs : a.eval s = v) (hown : w.ownsRow base e size v n xs)
    (ad : Option Addr) (m c : Nat) (news : List Value) (hx : a.eval x = .slice ad m c) (hl : news.length = m * size) (hnews : ∀ j u, news[j]? = some u → ∃ x, ad = some x ∧ w.cell? (x.add j) = some u) (h1 : ∀ u ∈ news, u.oneCell' = true)
    (h63 : n + m ≤ maxLen) (hbytes : (n + m) * bytes ≤ 140737488355328) (hbase : base ≤ w.heap.size)
    (h : ∀ v' w', w'.ownsRow base e size v' (n + m) (xs ++ news) → w.grownBy w' v.ownBlock → K (a.put o.dst v') w') : o.wp P a w K Q := by
  obtain ⟨v', w', hr, h2, h3⟩ := run_append_all (P := P) (w := w) base t o.type e i z size bytes ht hi hz hsize hby hzs hsz v n xs hown ad m c news hl hnews h1 h63 hbytes hbase
  unfold Oper.wp execOp
  simp only [ho, resolve, invoke, builtin, Sem.run_bind, Sem.run_pure, Result.andThen_ok, List.map_toArray, List.map_cons, List.map_nil, hs, hx, hr]
  exact h v' w' h2 h3
theorem wpList_append_all {ops : Array Oper} {rest : List Oper} {o : Oper} {a : Act} {Q : Exit → Act → World → Prop} (hgd : o.guard = none) (s x : Operand) (t : TypeId)
    (ho : o.op = .call { callee := .builtin .append, args := #[s, x], argTypes := #[t, t] })
    (base : Nat) (e : TypeId) (i : TypeInfo) (z : Value) (size bytes : Nat) (ht : P.underlying t = some (.slice e)) (hi : P.info? e = some i) (hz : i.zero = some z)
    (hsize : i.size = size) (hby : i.bytes = bytes) (hzs : z.cells.size = size) (hsz : 0 < size)
    (v : Value) (n : Nat) (xs : List Value) (hs : a.eval s = v) (hown : w.ownsRow base e size v n xs)
    (ad : Option Addr) (m c : Nat) (news : List Value) (hx : a.eval x = .slice ad m c) (hl : news.length = m * size) (hnews : ∀ j u, news[j]? = some u → ∃ x, ad = some x ∧ w.cell? (x.add j) = some u) (h1 : ∀ u ∈ news, u.oneCell' = true)
    (h63 : n + m ≤ maxLen) (hbytes : (n + m) * bytes ≤ 140737488355328) (hbase : base ≤ w.heap.size)
    (h : ∀ v' w', w'.ownsRow base e size v' (n + m) (xs ++ news) → w.grownBy w' v.ownBlock → wpList P ops Q rest (a.put o.dst v') w') : wpList P ops Q (o :: rest) a w :=
  wpList_plain hgd fun _ hK => wp_append_all s x t ho base e i z size bytes ht hi hz hsize hby hzs hsz v n xs hs hown ad m c news hx hl hnews h1 h63 hbytes hbase fun v' w' h2 h3 => hK _ _ (h v' w' h2 h3)
theorem step_append_all {ops : Array Oper} {o : Oper} {a : Act} {K : Act → World → Prop} {Q : Exit → Act → World → Prop} {E : Prop} (hgd : o.guard = none) (s x : Operand) (t : TypeId)
    (ho : o.op = .call { callee := .builtin .append, args := #[s, x], argTypes := #[t, t] })
    (base : Nat) (e : TypeId) (i : TypeInfo) (z : Value) (size bytes : Nat) (ht : P.underlying t = some (.slice e)) (hi : P.info? e = some i) (hz : i.zero = some z)
    (hsize : i.size = size) (hby : i.bytes = bytes) (hzs : z.cells.size = size) (hsz : 0 < size)
    (v : Value) (n : Nat) (xs : List Value) (hs : a.eval s = v) (hown : w.ownsRow base e size v n xs)
    (ad : Option Addr) (m c : Nat) (news : List Value) (hx : a.eval x = .slice ad m c) (hl : news.length = m * size) (hnews : ∀ j u, news[j]? = some u → ∃ x, ad = some x ∧ w.cell? (x.add j) = some u) (h1 : ∀ u ∈ news, u.oneCell' = true)
    (h63 : n + m ≤ maxLen) (hbytes : (n + m) * bytes ≤ 140737488355328) (hbase : base ≤ w.heap.size)
    (h : ∀ v' w', w'.ownsRow base e size v' (n + m) (xs ++ news) → w.grownBy w' v.ownBlock → K (a.put o.dst v') w') :
    if Region.wanted o (yielded ops a.tmps) = true then Oper.wp P o a w K Q else E := by
  have hw : Region.wanted o (yielded ops a.tmps) = true := by simp [Region.wanted, hgd]
  rw [if_pos hw]
  exact wp_append_all s x t ho base e i z size bytes ht hi hz hsize hby hzs hsz v n xs hs hown ad m c news hx hl hnews h1 h63 hbytes hbase h
end
theorem intsV_each (l : List Int) : ∀ u ∈ intsV l, u.oneCell' = true := by intro u hu; unfold intsV at hu; rw [List.mem_map] at hu; obtain ⟨x, -, rfl⟩ := hu; rfl
/-- The cells that a whole slice brings. -/
theorem newsI {w : World} {a : Option Addr} {c : Nat} {l : List Int} (h : ReadI w (.slice a l.length c) l) : ∀ j u, (intsV l)[j]? = some u → ∃ x, a = some x ∧ w.cell? (x.add j) = some u := by
  intro j u hu
  have hj : j < l.length := by
    have := (List.getElem?_eq_some_iff.1 hu).1
    rwa [intsV_length] at this
  rw [intsV_get l j hj] at hu
  obtain ⟨a', cap, hv, hc⟩ := h
  cases hv
  obtain ⟨x, hx, hcell⟩ := hc j hj
  exact ⟨x, hx, by rw [hcell, ← hu]⟩
theorem depsV_one (l : List (Int × Int)) : ∀ u ∈ depsV l, u.oneCell' = true := by
  induction l with
  | nil => intro u hu; cases hu
  | cons d l ih =>
    intro u hu
    unfold depsV at hu
    rcases List.mem_cons.1 hu with rfl | hu
    · rfl
    · rcases List.mem_cons.1 hu with rfl | hu
      · rfl
      · exact ih u hu
theorem cell_inB {w w' : World} {p : Addr} {v : Value} (h : w.cell? p = some v) (b : Below w.heap.size w w') : w'.cell? p = some v := (b.cell (World.block_lt_of_cell? w _ h)).trans h
theorem add_off (b o j : Nat) : (⟨b, o, none⟩ : Addr).add j = ⟨b, o + j, none⟩ := by unfold Addr.add; split <;> simp_all
theorem newsD {w : World} {a : Option Addr} {c : Nat} {l : List (Int × Int)} (h : ReadD w (.slice a l.length c) l) : ∀ j u, (depsV l)[j]? = some u → ∃ x, a = some x ∧ w.cell? (x.add j) = some u := by
  intro j u hu
  have hj : j < l.length * 2 := by
    have := (List.getElem?_eq_some_iff.1 hu).1
    rwa [depsV_len] at this
  obtain ⟨a', cap, hv, hc⟩ := h
  cases hv
  have hi : j / 2 < l.length := by omega
  obtain ⟨b, o, ha, h0, h1⟩ := hc (j / 2) hi
  obtain ⟨g0, g1⟩ := depsV_get l (j / 2) hi
  refine ⟨⟨b, o, none⟩, ha, ?_⟩
  rw [add_off]
  rcases Nat.mod_two_eq_zero_or_one j with hm | hm
  · have e : j / 2 * 2 = j := by omega
    rw [e] at h0 g0
    rw [h0, ← hu, g0]
  · have e : j / 2 * 2 + 1 = j := by omega
    have e2 : o + j / 2 * 2 + 1 = o + j := by omega
    rw [e2] at h1
    rw [e] at g1
    rw [h1, ← hu, g1]
/-- The value of a row of a slice of rows. -/
def rowV (w : World) (a : Option Addr) (i : Nat) : Value := match a with | some x => (w.cell? (x.add i)).getD (.slice none 0 0) | none => .slice none 0 0
theorem rowV_at {w : World} {v : Value} {ll : List (List Int)} (h : ReadSS w v ll) : ∃ a c, v = .slice a ll.length c ∧ ∀ i, i < ll.length → ReadI w (rowV w a i) (ll.getD i []) ∧ ∃ x, a = some x ∧ w.cell? (x.add i) = some (rowV w a i) := by
  obtain ⟨a, c, hv, hc⟩ := h
  refine ⟨a, c, hv, fun i hi => ?_⟩
  obtain ⟨x, u, rfl, hx, hr⟩ := hc i hi
  have e : rowV w (some x) i = u := by simp only [rowV, hx]; rfl
  rw [e]
  exact ⟨hr, x, rfl, hx⟩
theorem newsR {w : World} {a : Option Addr} {n : Nat} (h : ∀ i, i < n → ∃ x, a = some x ∧ w.cell? (x.add i) = some (rowV w a i)) : ∀ j u, ((List.range n).map (rowV w a))[j]? = some u → ∃ x, a = some x ∧ w.cell? (x.add j) = some u := by
  intro j u hu
  have hj : j < n := by simpa using (List.getElem?_eq_some_iff.1 hu).1
  obtain ⟨x, hx, hc⟩ := h j hj
  rw [List.getElem?_map, List.getElem?_range hj] at hu
  simp only [Option.map_some, Option.some.injEq] at hu
  exact ⟨x, hx, by rw [hc, hu]⟩
theorem rowV_one {w : World} {a : Option Addr} {n : Nat} {ll : List (List Int)} (h : ∀ i, i < n → ReadI w (rowV w a i) (ll.getD i [])) : ∀ u ∈ (List.range n).map (rowV w a), u.oneCell' = true := by
  intro u hu
  rw [List.mem_map] at hu
  obtain ⟨i, hi, rfl⟩ := hu
  obtain ⟨b, c, e, -⟩ := h i (List.mem_range.1 hi)
  rw [e]
  rfl
/-- A new row of the call's own without cells. -/
theorem own_made (w : World) (B : Nat) (T : TypeId) (n : Nat) (hB : B ≤ w.heap.size) : (w.alloc (.cells #[] T)).ownsRow B T n (.slice (some ⟨w.heap.size, 0, none⟩) 0 0) 0 [] := World.ownsRow_made w #[] 0 hB (by unfold maxLen; omega) (by simp)
end Go.Proofs.YtnbjcelfdppkcadGreat
namespace Go.Proofs.YtnbjcelfdppkcadGreat
open Go.RowKit

set_option maxHeartbeats 800000 in
theorem l2Ints_any (v v' : Value) (l l' : List Int) (w : World) (hr : ReadI w v l) (hr' : ReadI w v' l') (hl : l.length ≤ 1000000000) :
    Calls Tryz.prog 27 #[v, v'] w fun e w' => e = .returned (.bool (eqB l l')) ∧ ∃ m, w' = w.drewN m := by
  obtain ⟨a, cap, rfl, ha⟩ := hr
  obtain ⟨a', cap', rfl, ha'⟩ := hr'
  have HA := Lib.hid ha
  have HA' := Lib.hid ha'
  clear ha ha'
  by_cases hlen : l.length = l'.length
  · have hne : ((l.length : Int) != (l'.length : Int)) = false := by simp [hlen]
    have HL := Lib.hid hlen
    clear hlen
    go_enter Tryz.func27, Tryz.ntmps27
    go_wp2_with fail
    go_loopw [5] (fun iv wr => ∃ (k n : Nat), k ≤ l.length ∧ iv = .int .i64 (k : Int) ∧ Hid (l.take k = l'.take k) ∧ wr = w.drewN n) (fun iv _ => l.length - (intOf iv).toNat)
    case atStart => exact ⟨0, 0, by omega, rfl, Lib.hid rfl, rfl⟩
    case round =>
      obtain ⟨k, n, hk, rfl, hsame, rfl⟩ := hrel
      by_cases hlt : k < l.length
      · have hlt' : k < l'.length := by have := HL.out; omega
        obtain ⟨x, rfl, hx⟩ := HA.out k hlt
        obtain ⟨x', rfl, hx'⟩ := HA'.out k hlt'
        have z0 : (0 : Int) ≤ (k : Int) := by omega
        have z1 : (k : Int) < (l.length : Int) := by omega
        have z2 : (k : Int) < (l'.length : Int) := by omega
        by_cases he : l[k] = l'[k]
        · have hb : (l[k] != l'[k]) = false := by simp [he]
          have HE := Lib.hid he
          clear he
          go_wp2_with fail
          go_quiet (fail)
          go_wp2_with fail
          go_roundw
          case rel => exact ⟨k + 1, _, by omega, by go_num, Lib.hid (by rw [List.take_succ_eq_append_getElem hlt, List.take_succ_eq_append_getElem hlt', hsame.out, HE.out]), rfl⟩
          case measure => simp [intOf]; omega
        · have hb : (l[k] != l'[k]) = true := by simpa using he
          have HE := Lib.hid he
          clear he
          go_wp2_with fail
          go_quiet (fail)
          go_wp2_with fail
          go_ret
          exact ⟨ret_b (by unfold eqB; rw [decide_eq_false]; intro e; apply HE.out; simp only [e]), _, World.drewN_drewN _ _ _⟩
      · go_wp2_with fail
        go_ret
        exact ⟨ret_b (by
          unfold eqB
          rw [decide_eq_true]
          have := hsame.out
          rwa [List.take_of_length_le (by omega), List.take_of_length_le (by have := HL.out; omega)] at this), _, rfl⟩
  · have hne : ((l.length : Int) != (l'.length : Int)) = true := by simp; omega
    have HL := Lib.hid hlen
    clear hlen
    go_enter Tryz.func27, Tryz.ntmps27
    go_wp2_with fail
    go_ret
    exact ⟨ret_b (by unfold eqB; rw [decide_eq_false]; intro e; exact HL.out (by rw [e])), 0, rfl⟩

/-- The cells of two boxed tables, later. -/
theorem box4 {w wr : World} {c c' : Int} {v v' : Value} {T : TypeId} (hb : Below ((w.alloc (.cells #[.int .i64 c, v] T)).alloc (.cells #[.int .i64 c', v'] T)).heap.size ((w.alloc (.cells #[.int .i64 c, v] T)).alloc (.cells #[.int .i64 c', v'] T)) wr) :
    (wr.cell? ⟨w.heap.size, 0, none⟩ = some (.int .i64 c) ∧ wr.cell? ⟨w.heap.size, 1, none⟩ = some v) ∧ wr.cell? ⟨w.heap.size + 1, 0, none⟩ = some (.int .i64 c') ∧ wr.cell? ⟨w.heap.size + 1, 1, none⟩ = some v' := by
  have h1 := box2 (w := w) ((Below.refl _ _).alloc (Nat.le_refl _) (.cells #[.int .i64 c', v'] T) |>.trans (hb.mono (by simp)))
  have h2 := box2 (w := w.alloc (.cells #[.int .i64 c, v] T)) hb
  exact ⟨h1, by simpa using h2⟩
set_option maxHeartbeats 1600000 in
theorem equalTables_any (c c' : Int) (v v' : Value) (ll ll' : List (List Int)) (w : World) (hr : ReadSS w v ll) (hr' : ReadSS w v' ll') (hl : ll.length ≤ 1000000000) (ht : ∀ i, i < ll.length → (ll.getD i []).length ≤ 1000000000) :
    Calls Tryz.prog 8 #[.agg #[.int .i64 c, v], .agg #[.int .i64 c', v']] w fun e w' => e = .returned (.bool (eqTb c c' ll ll')) ∧ Below w.heap.size w w' := by
  obtain ⟨a, cap, rfl, ha⟩ := hr
  obtain ⟨a', cap', rfl, ha'⟩ := hr'
  have HA := Lib.hid ha
  have HA' := Lib.hid ha'
  have HT := Lib.hid ht
  clear ha ha' ht
  have hb2 := (((Below.refl w.heap.size w).alloc (Nat.le_refl _) (.cells #[.int .i64 c, .slice a ll.length cap] 29)).alloc (by simp) (.cells #[.int .i64 c', .slice a' ll'.length cap'] 29))
  by_cases hc : c = c'
  · have hn : (c != c') = false := by simp [hc]
    have HE := Lib.hid hc
    clear hc
    by_cases hlen : ll.length = ll'.length
    · have hne : ((ll.length : Int) != (ll'.length : Int)) = false := by simp [hlen]
      have HL := Lib.hid hlen
      clear hlen
      go_enter Tryz.func8, Tryz.ntmps8
      go_wp2_with fail
      go_loopw [5] (fun iv wr => ∃ (k : Nat), k ≤ ll.length ∧ iv = .int .i64 (k : Int) ∧ Hid (ll.take k = ll'.take k) ∧ Below ((w.alloc (.cells #[.int .i64 c, .slice a ll.length cap] 29)).alloc (.cells #[.int .i64 c', .slice a' ll'.length cap'] 29)).heap.size ((w.alloc (.cells #[.int .i64 c, .slice a ll.length cap] 29)).alloc (.cells #[.int .i64 c', .slice a' ll'.length cap'] 29)) wr) (fun iv _ => ll.length - (intOf iv).toNat)
      case atStart => exact ⟨0, by omega, rfl, Lib.hid rfl, Below.refl _ _⟩
      case round =>
        obtain ⟨k, hk, rfl, hsame, hb0⟩ := hrel
        obtain ⟨⟨hc0, hc1⟩, hc2, hc3⟩ := box4 hb0
        have hb := hb2.trans (hb0.mono hb2.size)
        have HB := Lib.hid hb0
        clear hb0
        by_cases hlt : k < ll.length
        · have hlt' : k < ll'.length := by have := HL.out; omega
          obtain ⟨x, u, rfl, hx, hu⟩ := HA.out k hlt
          obtain ⟨x', u', rfl, hx', hu'⟩ := HA'.out k hlt'
          have HQ := Lib.hid (fun n => l2Ints_any u u' _ _ (wr.drewN n) ((hu.kept hb).kept (below_drewN (Below.refl _ _) n)) ((hu'.kept hb).kept (below_drewN (Below.refl _ _) n)) (HT.out k hlt))
          have hy := (hb.cell (World.block_lt_of_cell? w _ hx)).trans hx
          have hy' := (hb.cell (World.block_lt_of_cell? w _ hx')).trans hx'
          have z0 : (0 : Int) ≤ (k : Int) := by omega
          have z1 : (k : Int) < (ll.length : Int) := by omega
          have z2 : (k : Int) < (ll'.length : Int) := by omega
          clear hx hx' hu hu'
          by_cases he : ll.getD k [] = ll'.getD k []
          · have hq : eqB (ll.getD k []) (ll'.getD k []) = true := decide_eq_true he
            rw [hq] at HQ
            have HE := Lib.hid he
            clear he hq
            go_wp2_with fail
            go_quiet ((go_at_call 27; exact Calls.quiet_of (HQ.out _)))
            go_wp2_with fail
            go_roundw
            case rel => exact ⟨k + 1, by omega, by go_num, Lib.hid (by rw [take_succ_getD ll [] k hlt, take_succ_getD ll' [] k hlt', hsame.out, HE.out]), below_drewN HB.out _⟩
            case measure => simp [intOf]; omega
          · have hq : eqB (ll.getD k []) (ll'.getD k []) = false := decide_eq_false he
            rw [hq] at HQ
            have HE2 := Lib.hid he
            clear he hq
            go_wp2_with fail
            go_quiet ((go_at_call 27; exact Calls.quiet_of (HQ.out _)))
            go_wp2_with fail
            go_ret
            exact ⟨ret_b (by unfold eqTb; rw [decide_eq_false (p := ll = ll') (by intro e; apply HE2.out; rw [e])]; simp), below_drewN hb _⟩
        · go_wp2_with fail
          go_ret
          exact ⟨ret_b (by unfold eqTb; rw [decide_eq_true HE.out, decide_eq_true (p := ll = ll') (take_eq_all hsame.out (by omega) (by have := HL.out; omega))]; rfl), hb⟩
    · have hne : ((ll.length : Int) != (ll'.length : Int)) = true := by simp; omega
      have HL := Lib.hid hlen
      clear hlen
      go_enter Tryz.func8, Tryz.ntmps8
      go_wp2_with fail
      go_ret
      exact ⟨ret_b (by unfold eqTb; rw [decide_eq_false (p := ll = ll') (by intro e; exact HL.out (by rw [e]))]; simp), hb2⟩
  · have hn : (c != c') = true := by simpa using hc
    have HE := Lib.hid hc
    clear hc
    go_enter Tryz.func8, Tryz.ntmps8
    go_wp2_with fail
    go_ret
    exact ⟨ret_b (by unfold eqTb; rw [decide_eq_false HE.out]; rfl), hb2⟩
/-- What is held of a region in which tables are loaded and copied: the cells of two boxes, and the second table's rows. -/
theorem keepT {w5 w6 w7 : World} {p q r t : Addr} {u0 u1 u2 u3 : Value} {vx : Value} {ll : List (List Int)} (h : (w6.cell? p = some u0 ∧ w6.cell? q = some u1) ∧ (w6.cell? r = some u2 ∧ w6.cell? t = some u3) ∧ ReadSS w6 vx ll ∧ Below w5.heap.size w5 w6) (hb : Below w6.heap.size w6 w7) :
    (w7.cell? p = some u0 ∧ w7.cell? q = some u1) ∧ (w7.cell? r = some u2 ∧ w7.cell? t = some u3) ∧ ReadSS w7 vx ll ∧ Below w5.heap.size w5 w7 := by
  have k : ∀ {a : Addr} {u : Value}, w6.cell? a = some u → w7.cell? a = some u := fun e => (hb.cell (World.block_lt_of_cell? w6 _ e)).trans e
  exact ⟨⟨k h.1.1, k h.1.2⟩, ⟨k h.2.1.1, k h.2.1.2⟩, h.2.2.1.kept hb, h.2.2.2.trans (hb.mono h.2.2.2.size)⟩
theorem keepQ {w5 w6 w7 : World} {p q r t : Addr} {u0 u1 u2 u3 : Value} (h : ((w6.cell? p = some u0 ∧ w6.cell? q = some u1) ∧ w6.cell? r = some u2 ∧ w6.cell? t = some u3) ∧ Below w5.heap.size w5 w6) (hb : Below w6.heap.size w6 w7) :
    ((w7.cell? p = some u0 ∧ w7.cell? q = some u1) ∧ w7.cell? r = some u2 ∧ w7.cell? t = some u3) ∧ Below w5.heap.size w5 w7 := by
  have k : ∀ {a : Addr} {u : Value}, w6.cell? a = some u → w7.cell? a = some u := fun e => (hb.cell (World.block_lt_of_cell? w6 _ e)).trans e
  exact ⟨⟨⟨k h.1.1.1, k h.1.1.2⟩, k h.1.2.1, k h.1.2.2⟩, h.2.trans (hb.mono h.2.size)⟩
end Go.Proofs.YtnbjcelfdppkcadGreat
namespace Go.Proofs.YtnbjcelfdppkcadGreat
open Go.RowKit

theorem implValue_any (x : Int) (w : World) :
    Calls Tryz.prog 102 #[.int .i64 x] w fun e w' => e = .returned (.bool (decide (0 ≤ x ∧ x ≤ 40))) ∧ w = w' := by
  by_cases h1 : 0 ≤ x <;> by_cases h2 : x ≤ 40
  all_goals
    go_enter Tryz.func102, Tryz.ntmps102
    go_wp2
    go_ret
    exact ⟨by simp [h1, h2], rfl⟩
theorem implCell_any (x : Int) (w : World) :
    Calls Tryz.prog 79 #[.int .i64 x] w fun e w' => e = .returned (.bool (cellOk x)) ∧ w = w' := by
  by_cases h1 : 0 ≤ x ∧ x ≤ 40
  · have HV := Lib.hid (implValue_any x w)
    rw [decide_eq_true h1] at HV
    go_enter Tryz.func79, Tryz.ntmps79
    go_wp2_with fail
    refine HV.out.mono ?_
    rintro e w' ⟨rfl, rfl⟩
    go_wp2_with fail
    go_ret
    exact ⟨ret_b (by unfold cellOk; simp; omega), rfl⟩
  · have HV := Lib.hid (implValue_any x w)
    rw [decide_eq_false h1] at HV
    have HN := Lib.hid h1
    clear h1
    by_cases h2 : x = -1
    · subst h2
      go_enter Tryz.func79, Tryz.ntmps79
      go_wp2_with fail
      refine HV.out.mono ?_
      rintro e w' ⟨rfl, rfl⟩
      go_wp2_with fail
      go_ret
      exact ⟨rfl, rfl⟩
    · have hx : (x == -1) = false := by simpa using h2
      have HN2 := Lib.hid h2
      clear h2
      go_enter Tryz.func79, Tryz.ntmps79
      go_wp2_with fail
      refine HV.out.mono ?_
      rintro e w' ⟨rfl, rfl⟩
      go_wp2_with fail
      go_ret
      exact ⟨ret_b (by unfold cellOk; have := HN.out; have := HN2.out; simp; omega), rfl⟩
set_option maxHeartbeats 800000 in
theorem implRow_any (v : Value) (r : List Int) (c : Int) (w : World) (hr : ReadI w v r) (hl : r.length ≤ 1048576) :
    Calls Tryz.prog 43 #[v, .int .i64 c] w fun e w' => e = .returned (.bool (rowOk c r)) ∧ w = w' := by
  obtain ⟨a, cap, rfl, ha⟩ := hr
  have HA := Lib.hid ha
  clear ha
  by_cases hc : (r.length : Int) = c
  · have hd : ((r.length : Int) != c) = false := by simp [hc]
    have HC := Lib.hid hc
    clear hc
    go_enter Tryz.func43, Tryz.ntmps43
    go_wp2_with fail
    go_loop [13] (fun iv => ∃ k : Nat, k ≤ r.length ∧ iv = .int .i64 (k : Int) ∧ Hid ((r.take k).all cellOk = true)) (fun iv => r.length - (intOf iv).toNat)
    case atStart => exact ⟨0, by omega, rfl, Lib.hid rfl⟩
    case round =>
      obtain ⟨k, hk, rfl, hall⟩ := hrel
      by_cases hlt : k < r.length
      · obtain ⟨x, rfl, hx⟩ := HA.out k hlt
        have z0 : (0 : Int) ≤ (k : Int) := by omega
        have z1 : (k : Int) < (r.length : Int) := by omega
        have HI := Lib.hid (implCell_any r[k] w)
        have HOK := Lib.hid (fun h => all_snoc (p := cellOk) hlt hall.out h)
        have HNO := Lib.hid (fun h => all_not (p := cellOk) hlt h)
        obtain ⟨y, hy⟩ : ∃ y : Int, r[k] = y := ⟨_, rfl⟩
        rw [hy] at hx HI HOK HNO
        clear hy
        cases hro : cellOk y with
        | true =>
          rw [hro] at HI
          have HX := Lib.hid (HOK.out hro)
          clear hro
          go_wp2_with fail
          refine HI.out.mono ?_
          rintro e w' ⟨rfl, rfl⟩
          go_wp2_with fail
          go_round
          case rel => exact ⟨k + 1, by omega, by go_num, HX⟩
          case measure => simp [intOf]; omega
        | false =>
          rw [hro] at HI
          have HX := Lib.hid (HNO.out hro)
          clear hro
          go_wp2_with fail
          refine HI.out.mono ?_
          rintro e w' ⟨rfl, rfl⟩
          go_wp2_with fail
          go_ret
          exact ⟨ret_b (by unfold rowOk; rw [HX.out]; rfl), rfl⟩
      · obtain rfl : k = r.length := by omega
        have HX : Hid (r.all cellOk = true) := Lib.hid (by have := hall.out; rwa [List.take_length] at this)
        go_wp2_with fail
        go_ret
        exact ⟨ret_b (by unfold rowOk; rw [HX.out, decide_eq_true HC.out]; rfl), rfl⟩
  · have hd : ((r.length : Int) != c) = true := by simpa using hc
    have HC := Lib.hid hc
    clear hc
    go_enter Tryz.func43, Tryz.ntmps43
    go_wp2_with fail
    go_ret
    exact ⟨ret_b (by unfold rowOk; rw [decide_eq_false HC.out]; simp), rfl⟩

set_option maxHeartbeats 1600000 in
theorem implIsTable_any (c : Int) (v : Value) (ll : List (List Int)) (w : World) (hr : ReadSS w v ll) (hl : ll.length ≤ 1048576) (ht : ∀ i, i < ll.length → (ll.getD i []).length ≤ 1048576) :
    Calls Tryz.prog 14 #[.agg #[.int .i64 c, v]] w fun e w' => e = .returned (.bool (isT c ll)) ∧ Below w.heap.size w w' := by
  obtain ⟨a, cap, rfl, ha⟩ := hr
  have HA := Lib.hid ha
  have HT := Lib.hid ht
  clear ha ht
  have hb1 := (Below.refl w.heap.size w).alloc (Nat.le_refl _) (.cells #[.int .i64 c, .slice a ll.length cap] 29)
  obtain ⟨w1, hw1⟩ : ∃ w1, w1 = w.alloc (.cells #[.int .i64 c, .slice a ll.length cap] 29) := ⟨_, rfl⟩
  have hbx := box2 (w := w) (wr := w1) (c := c) (v := .slice a ll.length cap) (T := 29) (by rw [hw1]; exact Below.refl _ _)
  have hb2 : Below w.heap.size w w1 := by rw [hw1]; exact hb1
  by_cases h1 : 1 ≤ c
  · have g1 : ¬ c < 1 := by omega
    by_cases h5 : c ≤ 5
    · have HCC := Lib.hid (fun w' => colCount_any c w')
      rw [show decide (0 ≤ c ∧ c ≤ 5) = true by simp; omega] at HCC
      by_cases h40 : ll.length ≤ 40
      · have g40 : ¬ (40 : Int) < (ll.length : Int) := by omega
        have HD : Hid ((decide (1 ≤ c ∧ c ≤ 5) && decide (ll.length ≤ 40)) = true) := Lib.hid (by simp; omega)
        clear h5
        go_enter Tryz.func14, Tryz.ntmps14
        go_wp2_with fail
        refine (HCC.out _).mono ?_
        rintro e w' ⟨rfl, rfl⟩
        go_wp2_with fail
        rw [← hw1]
        clear hw1 hb1
        go_loop [23] (fun iv => ∃ k : Nat, k ≤ ll.length ∧ iv = .int .i64 (k : Int) ∧ Hid ((ll.take k).all (rowOk c) = true)) (fun iv => ll.length - (intOf iv).toNat)
        case atStart => exact ⟨0, by omega, rfl, Lib.hid rfl⟩
        case round =>
          obtain ⟨k, hk, rfl, hall⟩ := hrel
          by_cases hlt : k < ll.length
          · obtain ⟨x, u, rfl, hx, hu⟩ := HA.out k hlt
            have hy := (hb2.cell (World.block_lt_of_cell? w _ hx)).trans hx
            have z0 : (0 : Int) ≤ (k : Int) := by omega
            have z1 : (k : Int) < (ll.length : Int) := by omega
            have hg : ll[k] = ll.getD k [] := by rw [List.getD_eq_getElem?_getD, List.getElem?_eq_getElem hlt]; rfl
            have HQ := Lib.hid (implRow_any u (ll.getD k []) c w1 (hu.kept hb2) (HT.out k hlt))
            have HOK := Lib.hid (fun h => all_snoc (p := rowOk c) hlt hall.out h)
            have HNO := Lib.hid (fun h => all_not (p := rowOk c) hlt h)
            rw [hg] at HOK HNO
            obtain ⟨r, hrr⟩ : ∃ r, ll.getD k [] = r := ⟨_, rfl⟩
            rw [hrr] at HQ HOK HNO
            clear hx hu hg hrr
            cases hro : rowOk c r with
            | true =>
              rw [hro] at HQ
              have HX := Lib.hid (HOK.out hro)
              clear hro
              go_wp2_with fail
              refine HQ.out.mono ?_
              rintro e w' ⟨rfl, rfl⟩
              go_wp2_with fail
              go_round
              case rel => exact ⟨k + 1, by omega, by go_num, HX⟩
              case measure => simp [intOf]; omega
            | false =>
              rw [hro] at HQ
              have HX := Lib.hid (HNO.out hro)
              clear hro
              go_wp2_with fail
              refine HQ.out.mono ?_
              rintro e w' ⟨rfl, rfl⟩
              go_wp2_with fail
              go_ret
              exact ⟨ret_b (by unfold isT; rw [HX.out]; rfl), hb2⟩
          · obtain rfl : k = ll.length := by omega
            have HX : Hid (ll.all (rowOk c) = true) := Lib.hid (by have := hall.out; rwa [List.take_length] at this)
            go_wp2_with fail
            go_ret
            exact ⟨ret_b (by unfold isT; rw [HX.out, HD.out]; rfl), hb2⟩
      · have g40 : (40 : Int) < (ll.length : Int) := by omega
        have HD : Hid (isT c ll = false) := Lib.hid (by unfold isT; rw [decide_eq_false h40]; simp)
        go_enter Tryz.func14, Tryz.ntmps14
        go_wp2_with fail
        refine (HCC.out _).mono ?_
        rintro e w' ⟨rfl, rfl⟩
        go_wp2_with fail
        go_ret
        exact ⟨ret_b HD.out, hb1⟩
    · have HCC := Lib.hid (fun w' => colCount_any c w')
      rw [show decide (0 ≤ c ∧ c ≤ 5) = false by simp; omega] at HCC
      have HD : Hid (isT c ll = false) := Lib.hid (by unfold isT; rw [decide_eq_false (p := 1 ≤ c ∧ c ≤ 5) (by omega)]; simp)
      go_enter Tryz.func14, Tryz.ntmps14
      go_wp2_with fail
      refine (HCC.out _).mono ?_
      rintro e w' ⟨rfl, rfl⟩
      go_wp2_with fail
      go_ret
      exact ⟨ret_b HD.out, hb1⟩
  · have g1 : c < 1 := by omega
    have HD : Hid (isT c ll = false) := Lib.hid (by unfold isT; rw [decide_eq_false (p := 1 ≤ c ∧ c ≤ 5) (by omega)]; simp)
    go_enter Tryz.func14, Tryz.ntmps14
    go_wp2_with fail
    go_ret
    exact ⟨ret_b HD.out, hb1⟩
end Go.Proofs.YtnbjcelfdppkcadGreat
namespace Go.Proofs.YtnbjcelfdppkcadGreat
open Go.RowKit

/-- The marks of a family. -/
def famC (f : Nat → Bool) : Array Value := ((List.range 32).map (fun i => Value.bool (f i))).toArray
theorem famC_size (f : Nat → Bool) : (famC f).size = 32 := by simp [famC]
theorem famC_get (f : Nat → Bool) (i : Nat) (h : i < 32) : (famC f)[i]? = some (.bool (f i)) := by
  simp [famC, h]
theorem famC_none : famC (fun _ => false) = Array.replicate 32 (.bool false) := by rfl
theorem famC_set (f : Nat → Bool) (i : Nat) (b : Bool) : (famC f).setIfInBounds i (.bool b) = famC (fun j => if j = i then b else f j) := by
  apply Array.ext_getElem?
  intro k
  rw [Array.getElem?_setIfInBounds]
  by_cases hk : k < 32
  · rw [famC_get _ k hk, famC_get _ k hk, famC_size]
    by_cases h : i = k
    · subst h; simp [hk]
    · have h' : ¬ k = i := fun e => h e.symm
      simp [h, h']
  · have e1 : (famC f)[k]? = none := by rw [Array.getElem?_eq_none]; rw [famC_size]; omega
    have e2 : (famC fun j => if j = i then b else f j)[k]? = none := by rw [Array.getElem?_eq_none]; rw [famC_size]; omega
    rw [e1, e2, famC_size]
    by_cases h : i = k
    · subst h; simp [hk]
    · simp [h]
theorem famC_congr {f g : Nat → Bool} (h : ∀ i, i < 32 → f i = g i) : famC f = famC g := by
  unfold famC
  congr 1
  apply List.map_congr_left
  intro i hi
  rw [h i (List.mem_range.mp hi)]
theorem famC_one (f : Nat → Bool) : (famC f).all (·.oneCell') = true := by
  simp [famC, Value.oneCell']
/-- The sets of a family in ascending order, those below n. -/
def lstTo (f : Nat → Bool) : Nat → List Int
  | 0 => []
  | n + 1 => if f n = true then lstTo f n ++ [(n : Int)] else lstTo f n
def lstF (f : Nat → Bool) : List Int := lstTo f 32
theorem lstTo_len (f : Nat → Bool) (n : Nat) : (lstTo f n).length ≤ n := by
  induction n with
  | zero => simp [lstTo]
  | succ n ih =>
    unfold lstTo
    split
    · simp; omega
    · omega
theorem boolOne (w : World) : (sizeOf 4).run Tryz.prog w = .ok 1 w := by
  have h : (Tryz.prog.info? 4).map (·.size) = some 1 := by kernel_rfl
  cases hq : Tryz.prog.info? 4 with
  | none => simp [hq] at h
  | some i => simp only [hq, Option.map_some, Option.some.injEq] at h; simp [sizeOf, typeInfo, hq, h]
end Go.Proofs.YtnbjcelfdppkcadGreat
namespace Go.Proofs.YtnbjcelfdppkcadGreat
open Go.RowKit

def noF : Nat → Bool := fun _ => false
end Go.Proofs.YtnbjcelfdppkcadGreat
