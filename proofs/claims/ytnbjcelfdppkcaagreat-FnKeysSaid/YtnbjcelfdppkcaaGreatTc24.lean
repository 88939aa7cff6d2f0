/- Texts of this claim, merged: ClnA, TpG. Conditions: as stated. -/
import Derived.Test.YtnbjcelfdppkcaaGreatTc21
import Derived.Test.YtnbjcelfdppkcaaGreatTc2
import Derived.Laws.AppendOwnNone
import Derived.Lib.SliceRun
import Derived.Deep.AppendLies
import Derived.Test.YtnbjcelfdppkcaaGreatTc23
import Derived.ScopeJumps
import Derived.WalkMore
import Derived.ArgAppend
import Derived.Deep.CutBlock
import Derived.Deep.DeepCutAuto
import Derived.Deep.RegionLaw
import Derived.Deep.RegionLawGrows
namespace Go.Proofs.YtnbjcelfdppkcaaGreat
open Go.RowKit

section
variable {P : Program} {w : World}
theorem run_append_all (base : Nat) (t ty e : TypeId) (i : TypeInfo) (z : Value) (size bytes : Nat) (ht : P.underlying t = some (.slice e)) (hi : P.info? e = some i) (hz : i.zero = some z)
    (hsize : i.size = size) (hby : i.bytes = bytes) (hzs : z.cells.size = size) (hsz : 0 < size)
    (v : Value) (n : Nat) (xs : List Value) (hown : w.ownsRow base e size v n xs)
    (a : Option Addr) (m c : Nat) (news : List Value) (hl : news.length = m * size) (hnews : ∀ j u, news[j]? = some u → ∃ x, a = some x ∧ w.cell? (x.add j) = some u) (h1 : ∀ u ∈ news, u.oneCell' = true)
    (h63 : n + m ≤ maxLen) (hbytes : (n + m) * bytes ≤ 140737488355328) (hbase : base ≤ w.heap.size) :
    ∃ v' w', (Builtin.append_ #[t, t] ty #[v, .slice a m c]).run P w = .ok v' w' ∧ w'.ownsRow base e size v' (n + m) (xs ++ news) ∧ w.grownBy w' v.ownBlock := by
  cases a with
  | some x =>
    obtain ⟨v', w', h2, h3, h4, -⟩ := run_append_own_at (P := P) w base t ty e i z size bytes ht hi hz hsize hby hzs hsz v n xs hown x m c news hl (fun j u hu => by
      obtain ⟨y, hy, hc⟩ := hnews j u hu
      cases hy
      exact hc) h1 h63 hbytes hbase
    exact ⟨v', w', h2, h3, h4⟩
  | none =>
    have hn : news = [] := by
      cases news with
      | nil => rfl
      | cons u us =>
        obtain ⟨y, hy, -⟩ := hnews 0 u rfl
        cases hy
    subst hn
    have hm : m = 0 := by
      rcases Nat.eq_zero_or_pos m with h | h
      · exact h
      · exfalso
        have := Nat.mul_pos h hsz
        rw [← hl] at this
        exact Nat.lt_irrefl 0 this
    subst hm
    refine ⟨v, w, ?_, by rw [Nat.add_zero, List.append_nil]; exact hown, ⟨rfl, rfl, rfl, Nat.le_refl _, fun _ _ _ => rfl⟩⟩
    rcases hown.2 with ⟨rfl, rfl⟩ | ⟨g, cap, cur, rfl, _, _, hnc, _⟩
    · simp [Builtin.append_, run_underlying ht, sizeOf, typeInfo, hi, Builtin.lenOf, Builtin.firstCells]
    · simp [Builtin.append_, run_underlying ht, sizeOf, typeInfo, hi, Builtin.lenOf, Builtin.firstCells, hnc, storeCells]
theorem wp_append_all {o : Oper} {a : Act} {K : Act → World → Prop} {Q : Exit → Act → World → Prop} (s x : Operand) (t : TypeId)
    (ho : o.op = .call { callee := .builtin .append, args := #[s, x], argTypes := #[t, t] })
    (base : Nat) (e : TypeId) (i : TypeInfo) (z : Value) (size bytes : Nat) (ht : P.underlying t = some (.slice e)) (hi : P.info? e = some i) (hz : i.zero = some z)
    (hsize : i.size = size) (hby : i.bytes = bytes) (hzs : z.cells.size = size) (hsz : 0 < size)
    (v : Value) (n : Nat) (xs : List Value) (hs : a.eval s = v) (hown : w.ownsRow base e size v n xs)
    (ad : Option Addr) (m c : Nat) (news : List Value) (hx : a.eval x = .slice ad m c) (hl : news.length = m * size) (hnews : ∀ j u, news[j]? = some u → ∃ x, ad = some x ∧ w.cell? (x.add j) = some u) (h1 : ∀ u ∈ news, u.oneCell' = true)
    (h63 : n + m ≤ maxLen) (hbytes : (n + m) * bytes ≤ 140737488355328) (hbase : base ≤ w.heap.size)
    (h : ∀ v' w', w'.ownsRow base e size v' (n + m) (xs ++ news) → w.grownBy w' v.ownBlock → K (a.put o.dst v') w') : o.wp P a w K Q := by
  obtain ⟨v', w', hr, h2, h3⟩ := run_append_all (P := P) (w := w) base t o.type e i z size bytes ht hi hz hsize hby hzs hsz v n xs hown ad m c news hl hnews h1 h63 hbytes hbase
  unfold Oper.wp execOp
  simp only [ho, resolve, invoke, builtin, Sem.run_bind, Sem.run_pure, Result.andThen_ok, List.map_toArray, List.map_cons, List.map_nil, hs, hx, hr]
  exact h v' w' h2 h3
theorem wpList_append_all {ops : Array Oper} {rest : List Oper} {o : Oper} {a : Act} {Q : Exit → Act → World → Prop} (hgd : o.guard = none) (s x : Operand) (t : TypeId)
    (ho : o.op = .call { callee := .builtin .append, args := #[s, x], argTypes := #[t, t] })
    (base : Nat) (e : TypeId) (i : TypeInfo) (z : Value) (size bytes : Nat) (ht : P.underlying t = some (.slice e)) (hi : P.info? e = some i) (hz : i.zero = some z)
    (hsize : i.size = size) (hby : i.bytes = bytes) (hzs : z.cells.size = size) (hsz : 0 < size)
    (v : Value) (n : Nat) (xs : List Value) (hs : a.eval s = v) (hown : w.ownsRow base e size v n xs)
    (ad : Option Addr) (m c : Nat) (news : List Value) (hx : a.eval x = .slice ad m c) (hl : news.length = m * size) (hnews : ∀ j u, news[j]? = some u → ∃ x, ad = some x ∧ w.cell? (x.add j) = some u) (h1 : ∀ u ∈ news, u.oneCell' = true)
    (h63 : n + m ≤ maxLen) (hbytes : (n + m) * bytes ≤ 140737488355328) (hbase : base ≤ w.heap.size)
    (h : ∀ v' w', w'.ownsRow base e size v' (n + m) (xs ++ news) → w.grownBy w' v.ownBlock → wpList P ops Q rest (a.put o.dst v') w') : wpList P ops Q (o :: rest) a w :=
  wpList_plain hgd fun _ hK => wp_append_all s x t ho base e i z size bytes ht hi hz hsize hby hzs hsz v n xs hs hown ad m c news hx hl hnews h1 h63 hbytes hbase fun v' w' h2 h3 => hK _ _ (h v' w' h2 h3)
theorem step_append_all {ops : Array Oper} {o : Oper} {a : Act} {K : Act → World → Prop} {Q : Exit → Act → World → Prop} {E : Prop} (hgd : o.guard = none) (s x : Operand) (t : TypeId)
    (ho : o.op = .call { callee := .builtin .append, args := #[s, x], argTypes := #[t, t] })
    (base : Nat) (e : TypeId) (i : TypeInfo) (z : Value) (size bytes : Nat) (ht : P.underlying t = some (.slice e)) (hi : P.info? e = some i) (hz : i.zero = some z)
    (hsize : i.size = size) (hby : i.bytes = bytes) (hzs : z.cells.size = size) (hsz : 0 < size)
    (v : Value) (n : Nat) (xs : List Value) (hs : a.eval s = v) (hown : w.ownsRow base e size v n xs)
    (ad : Option Addr) (m c : Nat) (news : List Value) (hx : a.eval x = .slice ad m c) (hl : news.length = m * size) (hnews : ∀ j u, news[j]? = some u → ∃ x, ad = some x ∧ w.cell? (x.add j) = some u) (h1 : ∀ u ∈ news, u.oneCell' = true)
    (h63 : n + m ≤ maxLen) (hbytes : (n + m) * bytes ≤ 140737488355328) (hbase : base ≤ w.heap.size)
    (h : ∀ v' w', w'.ownsRow base e size v' (n + m) (xs ++ news) → w.grownBy w' v.ownBlock → K (a.put o.dst v') w') :
    if Region.wanted o (yielded ops a.tmps) = true then Oper.wp P o a w K Q else E := by
  have hw : Region.wanted o (yielded ops a.tmps) = true := by simp [Region.wanted, hgd]
  rw [if_pos hw]
  exact wp_append_all s x t ho base e i z size bytes ht hi hz hsize hby hzs hsz v n xs hs hown ad m c news hx hl hnews h1 h63 hbytes hbase h
end
theorem intsV_each (l : List Int) : ∀ u ∈ intsV l, u.oneCell' = true := by intro u hu; unfold intsV at hu; rw [List.mem_map] at hu; obtain ⟨x, -, rfl⟩ := hu; rfl
/-- The cells that a whole slice brings. -/
theorem newsI {w : World} {a : Option Addr} {c : Nat} {l : List Int} (h : ReadI w (.slice a l.length c) l) : ∀ j u, (intsV l)[j]? = some u → ∃ x, a = some x ∧ w.cell? (x.add j) = some u := by
  intro j u hu
  have hj : j < l.length := by
    have := (List.getElem?_eq_some_iff.1 hu).1
    rwa [intsV_length] at this
  rw [intsV_get l j hj] at hu
  obtain ⟨a', cap, hv, hc⟩ := h
  cases hv
  obtain ⟨x, hx, hcell⟩ := hc j hj
  exact ⟨x, hx, by rw [hcell, ← hu]⟩
theorem depsV_one (l : List (Int × Int)) : ∀ u ∈ depsV l, u.oneCell' = true := by
  induction l with
  | nil => intro u hu; cases hu
  | cons d l ih =>
    intro u hu
    unfold depsV at hu
    rcases List.mem_cons.1 hu with rfl | hu
    · rfl
    · rcases List.mem_cons.1 hu with rfl | hu
      · rfl
      · exact ih u hu
theorem cell_inB {w w' : World} {p : Addr} {v : Value} (h : w.cell? p = some v) (b : Below w.heap.size w w') : w'.cell? p = some v := (b.cell (World.block_lt_of_cell? w _ h)).trans h
theorem add_off (b o j : Nat) : (⟨b, o, none⟩ : Addr).add j = ⟨b, o + j, none⟩ := by unfold Addr.add; split <;> simp_all
theorem newsD {w : World} {a : Option Addr} {c : Nat} {l : List (Int × Int)} (h : ReadD w (.slice a l.length c) l) : ∀ j u, (depsV l)[j]? = some u → ∃ x, a = some x ∧ w.cell? (x.add j) = some u := by
  intro j u hu
  have hj : j < l.length * 2 := by
    have := (List.getElem?_eq_some_iff.1 hu).1
    rwa [depsV_len] at this
  obtain ⟨a', cap, hv, hc⟩ := h
  cases hv
  have hi : j / 2 < l.length := by omega
  obtain ⟨b, o, ha, h0, h1⟩ := hc (j / 2) hi
  obtain ⟨g0, g1⟩ := depsV_get l (j / 2) hi
  refine ⟨⟨b, o, none⟩, ha, ?_⟩
  rw [add_off]
  rcases Nat.mod_two_eq_zero_or_one j with hm | hm
  · have e : j / 2 * 2 = j := by omega
    rw [e] at h0 g0
    rw [h0, ← hu, g0]
  · have e : j / 2 * 2 + 1 = j := by omega
    have e2 : o + j / 2 * 2 + 1 = o + j := by omega
    rw [e2] at h1
    rw [e] at g1
    rw [h1, ← hu, g1]
/-- The value of a row of a slice of rows. -/
def rowV (w : World) (a : Option Addr) (i : Nat) : Value := match a with | some x => (w.cell? (x.add i)).getD (.slice none 0 0) | none => .slice none 0 0
theorem rowV_at {w : World} {v : Value} {ll : List (List Int)} (h : ReadSS w v ll) : ∃ a c, v = .slice a ll.length c ∧ ∀ i, i < ll.length → ReadI w (rowV w a i) (ll.getD i []) ∧ ∃ x, a = some x ∧ w.cell? (x.add i) = some (rowV w a i) := by
  obtain ⟨a, c, hv, hc⟩ := h
  refine ⟨a, c, hv, fun i hi => ?_⟩
  obtain ⟨x, u, rfl, hx, hr⟩ := hc i hi
  have e : rowV w (some x) i = u := by simp only [rowV, hx]; rfl
  rw [e]
  exact ⟨hr, x, rfl, hx⟩
theorem newsR {w : World} {a : Option Addr} {n : Nat} (h : ∀ i, i < n → ∃ x, a = some x ∧ w.cell? (x.add i) = some (rowV w a i)) : ∀ j u, ((List.range n).map (rowV w a))[j]? = some u → ∃ x, a = some x ∧ w.cell? (x.add j) = some u := by
  intro j u hu
  have hj : j < n := by simpa using (List.getElem?_eq_some_iff.1 hu).1
  obtain ⟨x, hx, hc⟩ := h j hj
  rw [List.getElem?_map, List.getElem?_range hj] at hu
  simp only [Option.map_some, Option.some.injEq] at hu
  exact ⟨x, hx, by rw [hc, hu]⟩
theorem rowV_one {w : World} {a : Option Addr} {n : Nat} {ll : List (List Int)} (h : ∀ i, i < n → ReadI w (rowV w a i) (ll.getD i [])) : ∀ u ∈ (List.range n).map (rowV w a), u.oneCell' = true := by
  intro u hu
  rw [List.mem_map] at hu
  obtain ⟨i, hi, rfl⟩ := hu
  obtain ⟨b, c, e, -⟩ := h i (List.mem_range.1 hi)
  rw [e]
  rfl
/-- A new row of the call's own without cells. -/
theorem own_made (w : World) (B : Nat) (T : TypeId) (n : Nat) (hB : B ≤ w.heap.size) : (w.alloc (.cells #[] T)).ownsRow B T n (.slice (some ⟨w.heap.size, 0, none⟩) 0 0) 0 [] := World.ownsRow_made w #[] 0 hB (by unfold maxLen; omega) (by simp)
end Go.Proofs.YtnbjcelfdppkcaaGreat
namespace Go.Proofs.YtnbjcelfdppkcaaGreat
open Go.RowKit

section
variable {P : Program} {w : World}
/-- A slice that is full, or a row of the call's own. -/
def ForO (w : World) (B : Nat) (v : Value) (l : List Int) : Prop := OwnI w B v l ∨ ∃ a, v = .slice a l.length l.length ∧ (a = none → l = []) ∧ ∀ i (h : i < l.length), ∃ x, a = some x ∧ w.cell? (x.add i) = some (.int .i64 l[i])
theorem run_append_for (base : Nat) (t ty : TypeId) (i : TypeInfo) (ht : P.underlying t = some (.slice 3)) (hi : P.info? 3 = some i) (hz : i.zero = some (.int .i64 0))
    (hsize : i.size = 1) (hby : i.bytes = 8) (v : Value) (l : List Int) (hown : ForO w base v l) (v2 : Value) (l2 : List Int) (h2 : ReadI w v2 l2) (h63 : l.length + l2.length ≤ 1048576) (hbase : base ≤ w.heap.size) :
    ∃ v' w', (Builtin.append_ #[t, t] ty #[v, v2]).run P w = .ok v' w' ∧ ForO w' base v' (l ++ l2) ∧ Below base w w' := by
  obtain ⟨a2, c2, rfl, hc2⟩ := h2
  have hn2 := newsI ⟨a2, c2, rfl, hc2⟩
  rcases hown with ho | ⟨a, rfl, hnone, hcells⟩
  · obtain ⟨v', w', r1, r2, r3⟩ := run_append_all (P := P) base t ty 3 i (.int .i64 0) 1 8 ht hi hz hsize hby rfl (by decide) v l.length (intsV l) ho a2 l2.length c2 (intsV l2) (by rw [intsV_length]; omega) hn2 (intsV_each l2) (by unfold maxLen; omega) (by omega) hbase
    refine ⟨v', w', r1, .inl ?_, (Below.refl base w).grown r3 hbase fun k hk => (OwnI.lt ho k hk).1⟩
    unfold OwnI
    rw [List.length_append, show intsV (l ++ l2) = intsV l ++ intsV l2 from List.map_append]
    exact r2
  · cases hl2 : l2 with
    | nil =>
      subst hl2
      refine ⟨_, w, ?_, .inr ⟨a, by rw [List.append_nil], fun h => by rw [hnone h]; rfl, fun i h => ?_⟩, Below.refl _ _⟩
      · cases a <;> cases a2 <;> simp [Builtin.append_, run_underlying ht, sizeOf, typeInfo, hi, Builtin.lenOf, Builtin.firstCells, storeCells, loadCells, loadCellsFrom]
      · rw [List.append_nil] at h
        obtain ⟨x, e, hx⟩ := hcells i h
        exact ⟨x, e, by rw [hx]; simp⟩
    | cons y ys =>
      rw [← hl2]
      have hpos : 0 < l2.length := by rw [hl2]; simp
      obtain ⟨x2, rfl, -⟩ := hc2 0 hpos
      have hn3 : ∀ j u, (intsV l2)[j]? = some u → w.cell? (x2.add j) = some u := fun j u hu => by
        obtain ⟨z, hz, h⟩ := hn2 j u hu
        cases hz
        exact h
      have fin : ∀ v' w', w'.ownsRow w.heap.size 3 1 v' (l.length + l2.length) (intsV l ++ intsV l2) → w.grownBy w' none → ForO w' base v' (l ++ l2) ∧ Below base w w' := fun v' w' r1 r2 => by
        refine ⟨.inl (OwnI.base (B := w.heap.size) ?_ hbase), (Below.refl base w).grown r2 hbase (by simp)⟩
        unfold OwnI
        rw [List.length_append, show intsV (l ++ l2) = intsV l ++ intsV l2 from List.map_append]
        exact r1
      cases a with
      | some b =>
        obtain ⟨v', w', hrun, r1, r2⟩ := run_append_arg_grows (P := P) w t ty 3 i (.int .i64 0) 1 8 ht hi hz hsize hby rfl (by decide) b l.length l.length (intsV l) (by rw [intsV_length]; omega) (fun j u hu => by
          have hj : j < l.length := by have := (List.getElem?_eq_some_iff.1 hu).1; rwa [intsV_length] at this
          obtain ⟨z, hz, h⟩ := hcells j hj
          cases hz
          rw [h, ← hu, intsV_get l j hj]) x2 l2.length c2 (intsV l2) (by rw [intsV_length]; omega) hn3 (by omega) (by unfold maxLen; omega) (by omega)
        exact ⟨v', w', hrun, fin v' w' r1 r2⟩
      | none =>
        obtain rfl := hnone rfl
        obtain ⟨v', w', hrun, r1, r2, -⟩ := run_append_own (P := P) w w.heap.size t ty 3 i (.int .i64 0) 1 8 ht hi hz hsize hby rfl (by decide) (.slice none 0 0) 0 [] (World.ownsRow_nil w _ _ 1) x2 l2.length c2 (intsV l2) (by rw [intsV_length]; omega) hn3 (intsV_each l2) (by unfold maxLen; omega) (by simp at h63 ⊢; omega) (Nat.le_refl _)
        exact ⟨v', w', hrun, fin v' w' (by simpa [intsV] using r1) r2⟩
theorem wp_append_for {o : Oper} {a : Act} {K : Act → World → Prop} {Q : Exit → Act → World → Prop} (s x : Operand) (t : TypeId)
    (ho : o.op = .call { callee := .builtin .append, args := #[s, x], argTypes := #[t, t] })
    (base : Nat) (i : TypeInfo) (ht : P.underlying t = some (.slice 3)) (hi : P.info? 3 = some i) (hz : i.zero = some (.int .i64 0))
    (hsize : i.size = 1) (hby : i.bytes = 8) (v : Value) (l : List Int) (hs : a.eval s = v) (hown : ForO w base v l) (v2 : Value) (l2 : List Int) (hx : a.eval x = v2) (h2 : ReadI w v2 l2) (h63 : l.length + l2.length ≤ 1048576) (hbase : base ≤ w.heap.size)
    (h : ∀ v' w', ForO w' base v' (l ++ l2) → Below base w w' → K (a.put o.dst v') w') : o.wp P a w K Q := by
  obtain ⟨v', w', hr, h3, h4⟩ := run_append_for (P := P) (w := w) base t o.type i ht hi hz hsize hby v l hown v2 l2 h2 h63 hbase
  unfold Oper.wp execOp
  simp only [ho, resolve, invoke, builtin, Sem.run_bind, Sem.run_pure, Result.andThen_ok, List.map_toArray, List.map_cons, List.map_nil, hs, hx, hr]
  exact h v' w' h3 h4
theorem wpList_append_for {ops : Array Oper} {rest : List Oper} {o : Oper} {a : Act} {Q : Exit → Act → World → Prop} (hgd : o.guard = none) (s x : Operand) (t : TypeId)
    (ho : o.op = .call { callee := .builtin .append, args := #[s, x], argTypes := #[t, t] })
    (base : Nat) (i : TypeInfo) (ht : P.underlying t = some (.slice 3)) (hi : P.info? 3 = some i) (hz : i.zero = some (.int .i64 0))
    (hsize : i.size = 1) (hby : i.bytes = 8) (v : Value) (l : List Int) (hs : a.eval s = v) (hown : ForO w base v l) (v2 : Value) (l2 : List Int) (hx : a.eval x = v2) (h2 : ReadI w v2 l2) (h63 : l.length + l2.length ≤ 1048576) (hbase : base ≤ w.heap.size)
    (h : ∀ v' w', ForO w' base v' (l ++ l2) → Below base w w' → wpList P ops Q rest (a.put o.dst v') w') : wpList P ops Q (o :: rest) a w :=
  wpList_plain hgd fun _ hK => wp_append_for s x t ho base i ht hi hz hsize hby v l hs hown v2 l2 hx h2 h63 hbase fun v' w' h2 h3 => hK _ _ (h v' w' h2 h3)
theorem step_append_for {ops : Array Oper} {o : Oper} {a : Act} {K : Act → World → Prop} {Q : Exit → Act → World → Prop} {E : Prop} (hgd : o.guard = none) (s x : Operand) (t : TypeId)
    (ho : o.op = .call { callee := .builtin .append, args := #[s, x], argTypes := #[t, t] })
    (base : Nat) (i : TypeInfo) (ht : P.underlying t = some (.slice 3)) (hi : P.info? 3 = some i) (hz : i.zero = some (.int .i64 0))
    (hsize : i.size = 1) (hby : i.bytes = 8) (v : Value) (l : List Int) (hs : a.eval s = v) (hown : ForO w base v l) (v2 : Value) (l2 : List Int) (hx : a.eval x = v2) (h2 : ReadI w v2 l2) (h63 : l.length + l2.length ≤ 1048576) (hbase : base ≤ w.heap.size)
    (h : ∀ v' w', ForO w' base v' (l ++ l2) → Below base w w' → K (a.put o.dst v') w') :
    if Region.wanted o (yielded ops a.tmps) = true then Oper.wp P o a w K Q else E := by
  have hw : Region.wanted o (yielded ops a.tmps) = true := by simp [Region.wanted, hgd]
  rw [if_pos hw]
  exact wp_append_for s x t ho base i ht hi hz hsize hby v l hs hown v2 l2 hx h2 h63 hbase h
end
theorem ForO.read {w : World} {B : Nat} {v : Value} {l : List Int} (h : ForO w B v l) : ∃ a c, v = .slice a l.length c ∧ l.length ≤ c ∧ ∀ i (h : i < l.length), ∃ x, a = some x ∧ w.cell? (x.add i) = some (.int .i64 l[i]) := by
  rcases h with h | ⟨a, rfl, -, hc⟩
  · obtain ⟨a, c, e, hc⟩ := h.read
    refine ⟨a, c, e, ?_, hc⟩
    rcases h.2 with ⟨e', hn⟩ | ⟨g, cap, cur, e', -, -, hn, -⟩
    · omega
    · rw [e] at e'
      injection e' with _ _ e3
      omega
  · exact ⟨a, _, rfl, Nat.le_refl _, hc⟩
/-- A part of a slice that can be read. -/
theorem ReadI.from {w : World} {a : Option Addr} {c : Nat} {l : List Int} (hc : ∀ i (h : i < l.length), ∃ x, a = some x ∧ w.cell? (x.add i) = some (.int .i64 l[i])) (k : Nat) (hk : k < l.length) (x : Addr) (hx : a = some x) {ao : Option Addr} (hao : k < l.length - 0 → k ≠ c → ao = some (x.add k)) (m cc : Nat) (hm : m = l.length - k) (hkc : k = c → l.length ≤ k) : ReadI w (.slice ao m cc) (l.drop k) := by
  refine ⟨ao, cc, by rw [List.length_drop, hm], fun i hi => ?_⟩
  rw [List.length_drop] at hi
  have hne : k ≠ c := fun e => by have := hkc e; omega
  refine ⟨x.add k, hao (by omega) hne, ?_⟩
  obtain ⟨y, e, h⟩ := hc (k + i) (by omega)
  rw [hx] at e
  cases e
  rw [Addr.add_add, h]
  simp
end Go.Proofs.YtnbjcelfdppkcaaGreat
