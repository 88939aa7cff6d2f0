/- A map from ints to ints that the call made, as a function. Conditions: none. -/
import Derived.Test.YtkaalgbcdcbgoaaParI
import Derived.Maps.RangeWalk
namespace Go.Proofs.Ytkaalgbcdcbgoaa
open Go.RowKit
open Go.Maps (Keyed)

theorem keyI : Keyed Try.prog 3 := Go.Maps.int_keyed Try.underlying3
theorem zeroI (w : World) : (zeroValue 3).run Try.prog w = .ok (.int .i64 0) w := by kernel_rfl
/-- Block b is a map of at most n entries that has f's values at f's keys. -/
def MapI (w : World) (b n : Nat) (f : Int → Option Int) : Prop :=
  ∃ D : DataW Unit, w.ownsMap Try.prog 3 (plainElem Try.prog 3) b n D ∧ ∀ x, (Lit.int .i64 x).wf = true → Maps.has D (.int .i64 x) = (f x).isSome ∧ D.atKey (.int .i64 x) (.lit (.int .i64 0)) = .lit (.int .i64 ((f x).getD 0))
theorem MapI.made (w : World) : MapI (w.alloc (.map #[] 0)) w.heap.size 0 (fun _ => none) :=
  ⟨.map [], World.ownsMap_made _ _ _ _, fun _ _ => ⟨rfl, rfl⟩⟩
theorem MapI.mono {w : World} {b n n' : Nat} {f : Int → Option Int} (h : MapI w b n f) (hn : n ≤ n') : MapI w b n' f := by
  obtain ⟨D, h1, h2⟩ := h; exact ⟨D, h1.mono hn, h2⟩
theorem MapI.congr {w : World} {b n : Nat} {f g : Int → Option Int} (h : MapI w b n f) (hn : ∀ x, f x = g x) : MapI w b n g := by
  obtain ⟨D, h1, h2⟩ := h; exact ⟨D, h1, fun x hx => by rw [← hn x]; exact h2 x hx⟩
theorem MapI.lt {w : World} {b n : Nat} {f : Int → Option Int} (h : MapI w b n f) : b < w.heap.size := by
  obtain ⟨D, h1, -⟩ := h; exact h1.lt
theorem MapI.kept {w w' : World} {b n : Nat} {f : Int → Option Int} {row : Option Nat} (h : MapI w b n f) (hg : w.grownBy w' row) (hne : some b ≠ row) : MapI w' b n f := by
  obtain ⟨D, h1, h2⟩ := h; exact ⟨D, h1.kept hg hne, h2⟩
theorem MapI.below {w w' : World} {b n C : Nat} {f : Int → Option Int} (h : MapI w b n f) (hb : Below C w w') (hC : b < C) : MapI w' b n f := by
  obtain ⟨D, h1, h2⟩ := h
  obtain ⟨es, clock, h3, r⟩ := h1
  exact ⟨D, ⟨es, clock, (hb.block b hC).trans h3, r⟩, h2⟩
section
variable (w : World) {ops : Array Oper} {rest : List Oper} {o : Oper} {a : Act} {Q : Exit → Act → World → Prop}
theorem mapI_look_some (hg : o.guard = none) (m x : Operand) (hop : o.op = Op.lookup 63 m x true) (b n : Nat) (f : Int → Option Int) (hm : a.eval m = .map (some b)) (h : MapI w b n f) (y c : Int) (hx : a.eval x = .int .i64 y) (hw : (Lit.int .i64 y).wf = true) (hf : f y = some c)
    (hK : wpList Try.prog ops Q rest (a.put o.dst (.tuple #[.int .i64 c, .bool true])) w) : wpList Try.prog ops Q (o :: rest) a w := by
  obtain ⟨D, h1, h2⟩ := h
  refine wpList_lookup_own_ok_int w hg m x 63 hop 3 3 .i64 keyI Try.underlying63 Try.underlying3 (zeroI w) b n D hm h1 _ (.int .i64 y) hx (Go.Maps.keyOf_int_mk Try.underlying3 hw) (fun d hd _ => ?_)
  obtain ⟨e1, e2⟩ := h2 y hw
  rw [hf] at e1 e2
  rw [e2] at hd
  cases hd
  rw [e1]
  exact hK
theorem mapI_look_none (hg : o.guard = none) (m x : Operand) (hop : o.op = Op.lookup 63 m x true) (b n : Nat) (f : Int → Option Int) (hm : a.eval m = .map (some b)) (h : MapI w b n f) (y : Int) (hx : a.eval x = .int .i64 y) (hw : (Lit.int .i64 y).wf = true) (hf : f y = none)
    (hK : wpList Try.prog ops Q rest (a.put o.dst (.tuple #[.int .i64 0, .bool false])) w) : wpList Try.prog ops Q (o :: rest) a w := by
  obtain ⟨D, h1, h2⟩ := h
  refine wpList_lookup_own_ok_int w hg m x 63 hop 3 3 .i64 keyI Try.underlying63 Try.underlying3 (zeroI w) b n D hm h1 _ (.int .i64 y) hx (Go.Maps.keyOf_int_mk Try.underlying3 hw) (fun d hd _ => ?_)
  obtain ⟨e1, e2⟩ := h2 y hw
  rw [hf] at e1 e2
  rw [e2] at hd
  cases hd
  rw [e1]
  exact hK
theorem mapI_run {w : World} {b n : Nat} {f : Int → Option Int} (h : MapI w b n f) (y : Int) (hw : (Lit.int .i64 y).wf = true) : (Instr.lookup 63 (.map (some b)) (.int .i64 y) false).run Try.prog w = .ok (.int .i64 ((f y).getD 0)) w := by
  obtain ⟨D, h1, h2⟩ := h
  obtain ⟨c, hrun, hat, -⟩ := h1.lookup_int keyI Try.underlying63 Try.underlying3 (zeroI w) (Go.Maps.keyOf_int_mk Try.underlying3 hw)
  rw [(h2 y hw).2] at hat
  cases hat
  exact hrun
theorem mapI_store (hg : o.guard = none) (m x v : Operand) (hop : o.op = Op.mapUpdate 63 m x v) (b n : Nat) (f : Int → Option Int) (hm : a.eval m = .map (some b)) (h : MapI w b n f) (hn : n < maxLen) (y c : Int) (hx : a.eval x = .int .i64 y) (hv : a.eval v = .int .i64 c) (hw : (Lit.int .i64 y).wf = true) (hwc : (Lit.int .i64 c).wf = true)
    (hK : ∀ w', MapI w' b (n + 1) (fun z => if z = y then some c else f z) → w.grownBy w' (some b) → wpList Try.prog ops Q rest (a.put o.dst undef) w') : wpList Try.prog ops Q (o :: rest) a w := by
  obtain ⟨D, h1, h2⟩ := h
  refine wpList_mapUpdate_own w hg m x v 63 hop 3 3 keyI Try.underlying63 _ b n D hm h1 hn _ _ (.int .i64 y) hx hv (Go.Maps.keyOf_int_mk Try.underlying3 hw) _ [] (plainElem_int Try.underlying3 hwc) (fun w' hown hgr => hK w' ⟨_, hown, fun z hz => ?_⟩ hgr)
  by_cases hzy : z = y
  · subst hzy
    rw [Go.Maps.has_put_same h1.isMap (keyI.key (Go.Maps.keyOf_int_mk Try.underlying3 hw)), Go.Maps.atKey_put_same h1.isMap (keyI.key (Go.Maps.keyOf_int_mk Try.underlying3 hw))]
    simp
  · have hne : (Lit.int .i64 z) ≠ (Lit.int .i64 y) := fun e => hzy (by cases e; rfl)
    rw [Go.Maps.has_put_other hne, Go.Maps.atKey_put_other hne]
    simpa only [if_neg hzy] using h2 z hz
end
end Go.Proofs.Ytkaalgbcdcbgoaa
