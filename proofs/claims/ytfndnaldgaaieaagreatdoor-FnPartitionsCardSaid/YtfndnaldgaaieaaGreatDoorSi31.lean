/- Texts of this claim, merged: SidK, SidL, SidV, SidF. Conditions: as stated. -/
import Derived.Test.YtfndnaldgaaieaaGreatDoorSi24
import Derived.Test.YtfndnaldgaaieaaGreatDoorSi27
import Derived.Test.YtfndnaldgaaieaaGreatDoorSi20
import Derived.Deep.RegionLaw
namespace Go.Proofs.YtfndnaldgaaieaaGreatDoor
open Go.RowKit
open Go.Maps (Keyed)

theorem keyS : Keyed Tryz.prog 104 := Keyed.of_law (deep_law (m := 3) (by omega) (by kernel_rfl) (by kernel_rfl) (by kernel_rfl))
theorem typS : Tryz.prog.keyType 104 = true := by kernel_rfl
theorem sizS : Tryz.prog.cellsOf 104 = 6 := by kernel_rfl
/-- The value of the sides of a row: five ints and one. -/
def sidV (r : List Int) : Value := .agg #[.int .i64 (r.getD 0 0), .int .i64 (r.getD 1 0), .int .i64 (r.getD 2 0), .int .i64 (r.getD 3 0), .int .i64 (r.getD 4 0), .int .i64 (r.getD 5 0)]
/-- Six ints. -/
def S6 (r : List Int) : Prop := r.length = 6 ∧ ∀ j, j < 6 → (Lit.int .i64 (r.getD j 0)).wf = true
theorem s6_list {r : List Int} (h : S6 r) : r = [r.getD 0 0, r.getD 1 0, r.getD 2 0, r.getD 3 0, r.getD 4 0, r.getD 5 0] := by
  obtain ⟨h, -⟩ := h
  match r, h with
  | [a, b, c, d, e, f], _ => rfl
theorem sidV_inj {r s : List Int} (hr : S6 r) (hs : S6 s) (h : sidV r = sidV s) : r = s := by
  rw [s6_list hr, s6_list hs]
  unfold sidV at h
  simp only [Value.agg.injEq, Array.mk.injEq, List.cons.injEq, Value.int.injEq, true_and, and_true] at h
  obtain ⟨h0, h1, h2, h3, h4, h5⟩ := h
  rw [h0, h1, h2, h3, h4, h5]
theorem lits_int {m : Nat} {a : Int} (h : (Lit.int .i64 a).wf = true) : Tryz.prog.keyLits (m + 1) 3 [.int .i64 a] = some [.int .i64 a] := by
  unfold Program.keyLits
  simp [Tryz.underlying3, h]
theorem lits_rec {m : Nat} {a0 a1 a2 a3 a4 : Int} (w0 : (Lit.int .i64 a0).wf = true) (w1 : (Lit.int .i64 a1).wf = true) (w2 : (Lit.int .i64 a2).wf = true) (w3 : (Lit.int .i64 a3).wf = true) (w4 : (Lit.int .i64 a4).wf = true) :
    Tryz.prog.keyLits (m + 2) 59 [.int .i64 a0, .int .i64 a1, .int .i64 a2, .int .i64 a3, .int .i64 a4] = some [.int .i64 a0, .int .i64 a1, .int .i64 a2, .int .i64 a3, .int .i64 a4] := by
  unfold Program.keyLits
  simp only [arrR.hu]
  rw [if_pos (by rw [arrR.size]; rfl), show List.range 5 = [0, 1, 2, 3, 4] from rfl, List.mapM_cons, List.mapM_cons, List.mapM_cons, List.mapM_cons, List.mapM_cons, List.mapM_nil]
  simp [arrR.one, lits_int w0, lits_int w1, lits_int w2, lits_int w3, lits_int w4]
theorem sizeT2 : ∃ m, Tryz.prog.types.size = m + 2 := ⟨Tryz.prog.types.size - 2, by kernel_rfl⟩
theorem keyOf_sid {r : List Int} (h : S6 r) : ∃ kl, keyOf Tryz.prog 104 (sidV r) = some kl := by
  obtain ⟨m, hm⟩ := sizeT2
  obtain ⟨-, hw⟩ := h
  have w0 := hw 0 (by omega)
  have w1 := hw 1 (by omega)
  have w2 := hw 2 (by omega)
  have w3 := hw 3 (by omega)
  have w4 := hw 4 (by omega)
  have w5 := hw 5 (by omega)
  refine ⟨.string (keyBytes [.int .i64 (r.getD 0 0), .int .i64 (r.getD 1 0), .int .i64 (r.getD 2 0), .int .i64 (r.getD 3 0), .int .i64 (r.getD 4 0), .int .i64 (r.getD 5 0)]), ?_⟩
  unfold keyOf sidV
  generalize r.getD 0 0 = a0, r.getD 1 0 = a1, r.getD 2 0 = a2, r.getD 3 0 = a3, r.getD 4 0 = a4, r.getD 5 0 = a5 at *
  simp only [Tryz.underlying104]
  rw [if_pos (by simp [typS, Value.formed, Tryz.underlying104, sizS]), hm]
  unfold Program.keyLits
  simp only [Tryz.underlying104, Value.cells]
  rw [if_pos (by rw [sizS]; exact ⟨rfl, by simp⟩)]
  have e5 := @lits_rec (m) a0 a1 a2 a3 a4 w0 w1 w2 w3 w4
  have e1 := @lits_int (m + 1) a5 w5
  simp [arrR.size, arrR.one, e5, e1]
noncomputable def klS (r : List Int) : Lit := Classical.epsilon fun kl => keyOf Tryz.prog 104 (sidV r) = some kl
theorem keyOf_klS {r : List Int} (h : S6 r) : keyOf Tryz.prog 104 (sidV r) = some (klS r) := by
  exact Classical.epsilon_spec (keyOf_sid h)
theorem klS_inj {r s : List Int} (hr : S6 r) (hs : S6 s) (h : klS r = klS s) : r = s := by
  have h1 := keyOf_klS hr
  rw [h] at h1
  exact sidV_inj hr hs (keyS.inj h1 (keyOf_klS hs))
theorem klS_key {r : List Int} (h : S6 r) : WideAt.IsKeyLit (klS r) := keyS.key (keyOf_klS h)
/-- Block b is a map of at most n entries from sides to numbers: f's, 0 where it has none. -/
def MapT (w : World) (b n : Nat) (f : List Int → Nat) : Prop :=
  ∃ D : DataW Unit, w.ownsMap Tryz.prog 104 (plainElem Tryz.prog 3) b n D ∧ ∀ x, S6 x → D.atKey (klS x) (.lit (.int .i64 0)) = .lit (.int .i64 (f x : Int))
/-- The same from records; only those with a number above 0 are there. -/
def MapQ (w : World) (b n : Nat) (f : List Int → Nat) : Prop :=
  ∃ D : DataW Unit, w.ownsMap Tryz.prog 59 (plainElem Tryz.prog 3) b n D ∧ ∀ x, R5 x → Maps.has D (klR x) = decide (f x ≠ 0) ∧ D.atKey (klR x) (.lit (.int .i64 0)) = .lit (.int .i64 (f x : Int))
theorem zeroJ (w : World) : (zeroValue 3).run Tryz.prog w = .ok (.int .i64 0) w := by kernel_rfl
theorem MapT.made (w : World) : MapT (w.alloc (.map #[] 0)) w.heap.size 0 (fun _ => 0) := ⟨.map [], World.ownsMap_made _ _ _ _, fun _ _ => rfl⟩
theorem MapQ.made (w : World) : MapQ (w.alloc (.map #[] 0)) w.heap.size 0 (fun _ => 0) := ⟨.map [], World.ownsMap_made _ _ _ _, fun _ _ => ⟨rfl, rfl⟩⟩
theorem MapT.congr {w : World} {b n : Nat} {f g : List Int → Nat} (h : MapT w b n f) (e : ∀ x, f x = g x) : MapT w b n g := by
  have : f = g := funext e
  exact this ▸ h
theorem MapQ.congr {w : World} {b n : Nat} {f g : List Int → Nat} (h : MapQ w b n f) (e : ∀ x, f x = g x) : MapQ w b n g := by
  have : f = g := funext e
  exact this ▸ h
theorem MapT.lt {w : World} {b n : Nat} {f : List Int → Nat} (h : MapT w b n f) : b < w.heap.size := by
  obtain ⟨D, h1, -⟩ := h; exact h1.lt
theorem MapQ.lt {w : World} {b n : Nat} {f : List Int → Nat} (h : MapQ w b n f) : b < w.heap.size := by
  obtain ⟨D, h1, -⟩ := h; exact h1.lt
theorem MapT.kept {w w' : World} {b n : Nat} {f : List Int → Nat} {row : Option Nat} (h : MapT w b n f) (hg : w.grownBy w' row) (hne : some b ≠ row) : MapT w' b n f := by
  obtain ⟨D, h1, h2⟩ := h; exact ⟨D, h1.kept hg hne, h2⟩
theorem MapQ.kept {w w' : World} {b n : Nat} {f : List Int → Nat} {row : Option Nat} (h : MapQ w b n f) (hg : w.grownBy w' row) (hne : some b ≠ row) : MapQ w' b n f := by
  obtain ⟨D, h1, h2⟩ := h; exact ⟨D, h1.kept hg hne, h2⟩
theorem MapT.below {w w' : World} {b n C : Nat} {f : List Int → Nat} (h : MapT w b n f) (hb : Below C w w') (hC : b < C) : MapT w' b n f := by
  obtain ⟨D, h1, h2⟩ := h
  obtain ⟨es, clock, h3, r⟩ := h1
  exact ⟨D, ⟨es, clock, (hb.block b hC).trans h3, r⟩, h2⟩
theorem MapQ.below {w w' : World} {b n C : Nat} {f : List Int → Nat} (h : MapQ w b n f) (hb : Below C w w') (hC : b < C) : MapQ w' b n f := by
  obtain ⟨D, h1, h2⟩ := h
  obtain ⟨es, clock, h3, r⟩ := h1
  exact ⟨D, ⟨es, clock, (hb.block b hC).trans h3, r⟩, h2⟩
/-- The two maps are two blocks. -/
theorem MapT.store {w' : World} {b n : Nat} {f : List Int → Nat} {D : DataW Unit} {r : List Int} {c : Nat} (h : w'.ownsMap Tryz.prog 104 (plainElem Tryz.prog 3) b (n + 1) (D.put (klS r) (.lit (.int .i64 (c : Int))))) (hr : S6 r) (hD : Maps.IsMap D)
    (h2 : ∀ x, S6 x → D.atKey (klS x) (.lit (.int .i64 0)) = .lit (.int .i64 (f x : Int))) : MapT w' b (n + 1) (fun x => if x = r then c else f x) := by
  refine ⟨_, h, fun x hx => ?_⟩
  by_cases hxr : x = r
  · subst hxr
    have hkk := @klS_key x hr
    rw [Go.Maps.atKey_put_same (k := klS x) hD hkk]; simp
  · rw [Go.Maps.atKey_put_other (fun e => hxr (klS_inj hx hr e))]
    simpa only [if_neg hxr] using h2 x hx
theorem MapQ.store {w' : World} {b n : Nat} {f : List Int → Nat} {D : DataW Unit} {r : List Int} {c : Nat} (h : w'.ownsMap Tryz.prog 59 (plainElem Tryz.prog 3) b (n + 1) (D.put (klR r) (.lit (.int .i64 (c : Int))))) (hr : R5 r) (hD : Maps.IsMap D) (hc : c ≠ 0)
    (h2 : ∀ x, R5 x → Maps.has D (klR x) = decide (f x ≠ 0) ∧ D.atKey (klR x) (.lit (.int .i64 0)) = .lit (.int .i64 (f x : Int))) : MapQ w' b (n + 1) (fun x => if x = r then c else f x) := by
  refine ⟨_, h, fun x hx => ?_⟩
  by_cases hxr : x = r
  · subst hxr
    have hkk := @klR_key x hr
    rw [Go.Maps.has_put_same (k := klR x) hD hkk, Go.Maps.atKey_put_same (k := klR x) hD hkk]
    simp [hc]
  · rw [Go.Maps.has_put_other (fun e => hxr (klR_inj hx hr e)), Go.Maps.atKey_put_other (fun e => hxr (klR_inj hx hr e))]
    simpa only [if_neg hxr] using h2 x hx
section
variable (w : World) {ops : Array Oper} {rest : List Oper} {o : Oper} {a : Act} {Q : Exit → Act → World → Prop}
end
end Go.Proofs.YtfndnaldgaaieaaGreatDoor
namespace Go.Proofs.YtfndnaldgaaieaaGreatDoor
open Go.RowKit

/-- The six cells of a row's sides. -/
def sidC (s : List Int) : List Value := [.int .i64 (s.getD 0 0), .int .i64 (s.getD 1 0), .int .i64 (s.getD 2 0), .int .i64 (s.getD 3 0), .int .i64 (s.getD 4 0), .int .i64 (s.getD 5 0)]
theorem sidC_get (s : List Int) {j : Nat} (h : j < 6) : (sidC s)[j]? = some (.int .i64 (s.getD j 0)) := by
  rcases (show j = 0 ∨ j = 1 ∨ j = 2 ∨ j = 3 ∨ j = 4 ∨ j = 5 by omega) with rfl | rfl | rfl | rfl | rfl | rfl <;> rfl
def sidsV : List (List Int) → List Value
  | [] => []
  | s :: t => sidC s ++ sidsV t
theorem sidsV_len : ∀ l : List (List Int), (sidsV l).length = l.length * 6
  | [] => rfl
  | s :: t => by simp only [sidsV, List.length_append, List.length_cons, sidsV_len t]; simp [sidC]; omega
theorem sidsV_get : ∀ (l : List (List Int)) (i : Nat), i < l.length → ∀ j, j < 6 → (sidsV l)[i * 6 + j]? = some (.int .i64 ((l.getD i []).getD j 0))
  | [], i, h, _, _ => absurd h (Nat.not_lt_zero _)
  | s :: t, 0, _, j, hj => by
    have : (sidsV (s :: t))[0 * 6 + j]? = (sidC s)[j]? := by
      rw [Nat.zero_mul, Nat.zero_add]
      show (sidC s ++ sidsV t)[j]? = _
      exact List.getElem?_append_left (by simp [sidC]; omega)
    rw [this]
    exact sidC_get s hj
  | s :: t, i + 1, h, j, hj => by
    have ih := sidsV_get t i (by simpa using h) j hj
    have : (sidsV (s :: t))[(i + 1) * 6 + j]? = (sidsV t)[i * 6 + j]? := by
      show (sidC s ++ sidsV t)[(i + 1) * 6 + j]? = _
      rw [List.getElem?_append_right (by simp [sidC]; omega)]
      congr 1
      simp [sidC]; omega
    rw [this, ih]; rfl
theorem sidsV_app (s : List Int) : ∀ l : List (List Int), sidsV (l ++ [s]) = sidsV l ++ sidC s
  | [] => by simp [sidsV]
  | t :: l => by simp only [List.cons_append, sidsV, sidsV_app s l, List.append_assoc]
/-- A slice of sides that the call owns. -/
def OwnSd (w : World) (B : Nat) (v : Value) (l : List (List Int)) : Prop := w.ownsRow B 104 6 v l.length (sidsV l)
/-- A slice of sides that can be read. -/
def ReadSd (w : World) (v : Value) (l : List (List Int)) : Prop :=
  ∃ (a : Option Addr) (cap : Nat), v = .slice a l.length cap ∧ ∀ i, i < l.length → ∃ b o, a = some ⟨b, o, none⟩ ∧ ∀ j, j < 6 → w.cell? ⟨b, o + i * 6 + j, none⟩ = some (.int .i64 ((l.getD i []).getD j 0))
theorem infoSd : (Tryz.prog.info? 104).map (fun i => (i.zero, i.size, i.bytes)) = some (some (.agg #[.int .i64 0, .int .i64 0, .int .i64 0, .int .i64 0, .int .i64 0, .int .i64 0]), 6, 48) := by kernel_rfl
theorem OwnSd.read {w : World} {B : Nat} {v : Value} {l : List (List Int)} (h : OwnSd w B v l) : ReadSd w v l := by
  rcases h.2 with ⟨rfl, h0⟩ | ⟨g, cap, cur, rfl, hB, hgg, rest⟩
  · exact ⟨none, 0, by rw [h0], fun i hi => by omega⟩
  · refine ⟨_, cap, rfl, fun i hi => ⟨g, 0, rfl, fun j hj => ?_⟩⟩
    rw [Nat.zero_add, World.ownsRow.cellAt h (i * 6 + j) (by omega), sidsV_get l i hi j hj]
theorem ReadSd.kept {w w' : World} {v : Value} {l : List (List Int)} (h : ReadSd w v l) (hb : Below w.heap.size w w') : ReadSd w' v l := by
  obtain ⟨a, cap, hv, hc⟩ := h
  refine ⟨a, cap, hv, fun i hi => ?_⟩
  obtain ⟨b, o, ha, h0⟩ := hc i hi
  exact ⟨b, o, ha, fun j hj => (hb.cell (World.block_lt_of_cell? w _ (h0 j hj))).trans (h0 j hj)⟩
theorem OwnSd.lt {w : World} {B : Nat} {v : Value} {l : List (List Int)} (h : OwnSd w B v l) : ∀ k, v.ownBlock = some k → B ≤ k ∧ k < w.heap.size := World.ownsRow.lt h
theorem OwnSd.below {w w' : World} {B C : Nat} {v : Value} {l : List (List Int)} (h : OwnSd w B v l) (hb : Below C w w') (hC : ∀ k, v.ownBlock = some k → k < C) : OwnSd w' B v l := by
  refine ⟨h.1, ?_⟩
  rcases h.2 with hn | ⟨g, cap, cur, rfl, hB, hgg, rest⟩
  · exact .inl hn
  · exact .inr ⟨g, cap, cur, rfl, hB, (hb.block g (hC g rfl)).trans hgg, rest⟩
theorem OwnSd.nil (w : World) (B : Nat) : OwnSd w B (.slice none 0 0) [] := World.ownsRow_nil _ _ _ _
theorem OwnSd.made {w : World} {B : Nat} {v : Value} (h : w.ownsRow B 104 6 v 0 []) : OwnSd w B v [] := h
theorem OwnSd.snoc {w : World} {B : Nat} {v : Value} {l : List (List Int)} {s : List Int} (h : w.ownsRow B 104 6 v (l.length + 1) (sidsV l ++ sidC s)) : OwnSd w B v (l ++ [s]) := by
  unfold OwnSd
  rw [List.length_append, List.length_singleton, sidsV_app]; exact h
/-- Six cells in a block of their own. -/
def Box6 (w : World) (b : Nat) (a0 a1 a2 a3 a4 a5 : Int) : Prop :=
  w.cell? ⟨b, 0, none⟩ = some (.int .i64 a0) ∧ w.cell? ⟨b, 1, none⟩ = some (.int .i64 a1) ∧ w.cell? ⟨b, 2, none⟩ = some (.int .i64 a2) ∧ w.cell? ⟨b, 3, none⟩ = some (.int .i64 a3) ∧ w.cell? ⟨b, 4, none⟩ = some (.int .i64 a4) ∧ w.cell? ⟨b, 5, none⟩ = some (.int .i64 a5)
theorem Box6.new (w : World) (T : TypeId) (a0 a1 a2 a3 a4 a5 : Int) : Box6 (w.alloc (.cells #[.int .i64 a0, .int .i64 a1, .int .i64 a2, .int .i64 a3, .int .i64 a4, .int .i64 a5] T)) w.heap.size a0 a1 a2 a3 a4 a5 := by
  have h := World.cell?_alloc_mark w #[.int .i64 a0, .int .i64 a1, .int .i64 a2, .int .i64 a3, .int .i64 a4, .int .i64 a5] T (0, 0)
  exact ⟨(h 0).trans rfl, (h 1).trans rfl, (h 2).trans rfl, (h 3).trans rfl, (h 4).trans rfl, (h 5).trans rfl⟩
theorem Box6.kept {w w' : World} {b C : Nat} {a0 a1 a2 a3 a4 a5 : Int} (h : Box6 w b a0 a1 a2 a3 a4 a5) (hb : Below C w w') (hC : b < C) : Box6 w' b a0 a1 a2 a3 a4 a5 :=
  ⟨(hb.cell hC).trans h.1, (hb.cell hC).trans h.2.1, (hb.cell hC).trans h.2.2.1, (hb.cell hC).trans h.2.2.2.1, (hb.cell hC).trans h.2.2.2.2.1, (hb.cell hC).trans h.2.2.2.2.2⟩
end Go.Proofs.YtfndnaldgaaieaaGreatDoor
namespace Go.Proofs.YtfndnaldgaaieaaGreatDoor
open Go.RowKit

theorem equal_rec {a b : List Int} (ha : R5 a) (hb : R5 b) (w : World) : (Op.equalIn 10000 59 (recV a) (recV b)).run Tryz.prog w = .ok (decide (a = b)) w := by
  obtain ⟨r, h1, h2⟩ := run_equal_deep w (m := 2) (by omega) (k := 59) (arrR.at 0) (by simp only [arrR.hu]) (keyOf_klR ha) (keyOf_klR hb)
  have hr : r = decide (a = b) := by
    rw [Bool.eq_iff_iff, h2, decide_eq_true_iff]
    exact ⟨klR_inj ha hb, fun e => by rw [e]⟩
  rw [← hr]; exact h1
theorem equal_sid {a b : List Int} (ha : S6 a) (hb : S6 b) (w : World) : (Op.equalIn 10000 104 (sidV a) (sidV b)).run Tryz.prog w = .ok (decide (a = b)) w := by
  obtain ⟨r, h1, h2⟩ := run_equal_deep w (m := 3) (by omega) (k := 104) (by kernel_rfl) (by simp only [Tryz.underlying104]) (keyOf_klS ha) (keyOf_klS hb)
  have hr : r = decide (a = b) := by
    rw [Bool.eq_iff_iff, h2, decide_eq_true_iff]
    exact ⟨klS_inj ha hb, fun e => by rw [e]⟩
  rw [← hr]; exact h1
theorem take5_get (a : List Int) {j : Nat} (h : j < 5) : (a.take 5).getD j 0 = a.getD j 0 := by
  rw [List.getD_eq_getElem?_getD, List.getD_eq_getElem?_getD, List.getElem?_take, if_pos h]
theorem s6_r5 {a : List Int} (h : S6 a) : R5 (a.take 5) := ⟨by rw [List.length_take, h.1]; rfl, fun j hj => by rw [take5_get a hj]; exact h.2 j (by omega)⟩
theorem take5_rec (a : List Int) : recV (a.take 5) = .agg #[.int .i64 (a.getD 0 0), .int .i64 (a.getD 1 0), .int .i64 (a.getD 2 0), .int .i64 (a.getD 3 0), .int .i64 (a.getD 4 0)] := by
  unfold recV
  rw [take5_get a (by omega), take5_get a (by omega), take5_get a (by omega), take5_get a (by omega), take5_get a (by omega)]
set_option maxRecDepth 20000 in
set_option maxHeartbeats 800000 in
theorem violate_any (a b : List Int) (w : World) (ha : S6 a) (hb : S6 b) :
    Calls Tryz.prog 72 #[sidV a, sidV b] w fun e w' => e = .returned (.bool (decide (a.take 5 = b.take 5) && !decide (a = b))) ∧ Below w.heap.size w w' := by
  have hR := equal_rec (s6_r5 ha) (s6_r5 hb)
  have hS := equal_sid ha hb
  rw [take5_rec, take5_rec] at hR
  unfold sidV at hS ⊢
  generalize a.getD 0 0 = a0, a.getD 1 0 = a1, a.getD 2 0 = a2, a.getD 3 0 = a3, a.getD 4 0 = a4, a.getD 5 0 = a5 at *
  generalize b.getD 0 0 = b0, b.getD 1 0 = b1, b.getD 2 0 = b2, b.getD 3 0 = b3, b.getD 4 0 = b4, b.getD 5 0 = b5 at *
  have hx := Box6.new w 104 a0 a1 a2 a3 a4 a5
  have hs : (w.alloc (.cells #[.int .i64 a0, .int .i64 a1, .int .i64 a2, .int .i64 a3, .int .i64 a4, .int .i64 a5] 104)).heap.size = w.heap.size + 1 := by simp
  have hy := Box6.new (w.alloc (.cells #[.int .i64 a0, .int .i64 a1, .int .i64 a2, .int .i64 a3, .int .i64 a4, .int .i64 a5] 104)) 104 b0 b1 b2 b3 b4 b5
  rw [hs] at hy
  replace hx := hx.kept ((Below.refl _ _).alloc (Nat.le_refl _) (.cells #[.int .i64 b0, .int .i64 b1, .int .i64 b2, .int .i64 b3, .int .i64 b4, .int .i64 b5] 104)) (by simp)
  obtain ⟨x0, x1, x2, x3, x4, x5⟩ := hx
  obtain ⟨y0, y1, y2, y3, y4, y5⟩ := hy
  have hbw := ((Below.refl w.heap.size w).alloc (Nat.le_refl _) (.cells #[.int .i64 a0, .int .i64 a1, .int .i64 a2, .int .i64 a3, .int .i64 a4, .int .i64 a5] 104)).alloc (by simp) (.cells #[.int .i64 b0, .int .i64 b1, .int .i64 b2, .int .i64 b3, .int .i64 b4, .int .i64 b5] 104)
  clear ha hb hs
  obtain ⟨p, hp⟩ : ∃ p, p = decide (a.take 5 = b.take 5) := ⟨_, rfl⟩
  obtain ⟨q, hq⟩ : ∃ q, q = decide (a = b) := ⟨_, rfl⟩
  rw [← hp] at hR ⊢
  rw [← hq] at hS ⊢
  clear hp hq
  cases p with
  | false =>
    go_enter Tryz.func72, Tryz.ntmps72
    go_wp2_with fail
    go_ret
    exact ⟨rfl, hbw⟩
  | true =>
    go_enter Tryz.func72, Tryz.ntmps72
    go_wp2_with fail
    go_ret
    exact ⟨ret_b (by cases q <;> rfl), hbw⟩
end Go.Proofs.YtfndnaldgaaieaaGreatDoor
namespace Go.Proofs.YtfndnaldgaaieaaGreatDoor
open Go.RowKit

/-- Two rows' sides violate. -/
def vioB (l : List (List Int)) (i k : Nat) : Bool := decide ((l.getD i []).take 5 = (l.getD k []).take 5) && !decide (l.getD i [] = l.getD k [])
theorem cell_on6 {w w' : World} {p : Addr} {v : Value} (h : w.cell? p = some v) (b : Below w.heap.size w w') : w'.cell? p = some v := (b.cell (World.block_lt_of_cell? w _ h)).trans h
def CutSd (w : World) (b : Nat) (o i : Nat) (s0 s1 s2 s3 s4 s5 : Int) : Prop :=
  w.cell? ⟨b, o + i * 6, none⟩ = some (.int .i64 s0) ∧ w.cell? ⟨b, o + i * 6 + 1, none⟩ = some (.int .i64 s1) ∧ w.cell? ⟨b, o + i * 6 + 2, none⟩ = some (.int .i64 s2) ∧ w.cell? ⟨b, o + i * 6 + 3, none⟩ = some (.int .i64 s3) ∧ w.cell? ⟨b, o + i * 6 + 4, none⟩ = some (.int .i64 s4) ∧ w.cell? ⟨b, o + i * 6 + 5, none⟩ = some (.int .i64 s5)
theorem ReadSd.at {w : World} {a : Option Addr} {n cap : Nat} {l : List (List Int)} (h : ReadSd w (.slice a n cap) l) {i : Nat} (hi : i < l.length) (h6 : S6 (l.getD i [])) : ∃ b o s0 s1 s2 s3 s4 s5, a = some ⟨b, o, none⟩ ∧ l.getD i [] = [s0, s1, s2, s3, s4, s5] ∧ CutSd w b o i s0 s1 s2 s3 s4 s5 := by
  obtain ⟨a', cap', hv, hc⟩ := h
  cases hv
  obtain ⟨b, o, ha, h0⟩ := hc i hi
  exact ⟨b, o, _, _, _, _, _, _, ha, s6_list h6, h0 0 (by omega), h0 1 (by omega), h0 2 (by omega), h0 3 (by omega), h0 4 (by omega), h0 5 (by omega)⟩
theorem CutSd.on {w w' : World} {b o i : Nat} {s0 s1 s2 s3 s4 s5 : Int} (h : CutSd w b o i s0 s1 s2 s3 s4 s5) (hb : Below w.heap.size w w') : CutSd w' b o i s0 s1 s2 s3 s4 s5 :=
  ⟨cell_on6 h.1 hb, cell_on6 h.2.1 hb, cell_on6 h.2.2.1 hb, cell_on6 h.2.2.2.1 hb, cell_on6 h.2.2.2.2.1 hb, cell_on6 h.2.2.2.2.2 hb⟩
theorem sidV_six (s0 s1 s2 s3 s4 s5 : Int) : sidV [s0, s1, s2, s3, s4, s5] = .agg #[.int .i64 s0, .int .i64 s1, .int .i64 s2, .int .i64 s3, .int .i64 s4, .int .i64 s5] := rfl
set_option maxRecDepth 20000 in
set_option maxHeartbeats 1600000 in
theorem firstViolation_any (v : Value) (l : List (List Int)) (w : World) (hr : ReadSd w v l) (hS : ∀ i, i < l.length → S6 (l.getD i [])) (hl : l.length ≤ 1048576) :
    Calls Tryz.prog 46 #[v] w fun e w' => e = .returned (.tuple #[.int .i64 (pairI (vioB l) l.length).1, .int .i64 (pairI (vioB l) l.length).2, .bool (decide (0 ≤ (pairI (vioB l) l.length).1))]) ∧ Below w.heap.size w w' := by
  have HR := Lib.hid hr
  obtain ⟨a, cap, rfl, -⟩ := hr
  have HEQ := Lib.hid (fun a b (h : PairIs (vioB l) l.length a b) => pairI_eq h)
  have HSS := Lib.hid hS
  clear hS
  go_enter Tryz.func46, Tryz.ntmps46
  go_wp2_with fail
  go_loopw [10] (fun iv wr => ∃ i : Nat, i ≤ l.length ∧ iv = .int .i64 (i : Int) ∧ Hid (∀ i' k', i' < i → i' < k' → k' < l.length → vioB l i' k' = false) ∧ Below w.heap.size w wr) (fun iv _ => l.length - (intOf iv).toNat)
  case atStart => exact ⟨0, by omega, rfl, Lib.hid (fun i' k' h => absurd h (Nat.not_lt_zero _)), Below.refl _ _⟩
  case round =>
    obtain ⟨i, hi, rfl, HNO, hb⟩ := hrel
    obtain ⟨w1, hw1⟩ : ∃ w', w' = wr := ⟨_, rfl⟩
    rw [← hw1] at hb ⊢
    clear hw1
    by_cases hlt : i < l.length
    · have z0 : (0 : Int) ≤ (i : Int) := by omega
      have z1 : (i : Int) < (l.length : Int) := by omega
      obtain ⟨b, o, s0, s1, s2, s3, s4, s5, rfl, hs, hc⟩ := ReadSd.at (HR.out.kept hb) hlt (HSS.out i hlt)
      have HSI := Lib.hid hs
      obtain ⟨c0, c1, c2, c3, c4, c5⟩ := hc
      have hw2 := (Below.refl w1.heap.size w1).alloc (Nat.le_refl _) (.cells #[.int .i64 s0, .int .i64 s1, .int .i64 s2, .int .i64 s3, .int .i64 s4, .int .i64 s5] 104)
      have hbx := Box6.new w1 104 s0 s1 s2 s3 s4 s5
      have hws := hb.size
      have hbb := hb.trans (hw2.mono hb.size)
      have hlt1 : w1.heap.size < (w1.alloc (.cells #[.int .i64 s0, .int .i64 s1, .int .i64 s2, .int .i64 s3, .int .i64 s4, .int .i64 s5] 104)).heap.size := by simp
      have z3 : IntKind.i64.wrap ((i : Int) + 1) = (i : Int) + 1 := IntWalk.i64_in _ (by omega)
      clear hs hw2 hb
      go_wp2_with fail
      clear c0 c1 c2 c3 c4 c5
      go_loopw [7] (fun kv wr => ∃ k : Nat, i < k ∧ k ≤ l.length ∧ kv = .int .i64 (k : Int) ∧ Hid (∀ k', i < k' → k' < k → vioB l i k' = false) ∧ Box6 wr w1.heap.size s0 s1 s2 s3 s4 s5 ∧ w1.heap.size < wr.heap.size ∧ Below w.heap.size w wr) (fun kv _ => l.length - (intOf kv).toNat)
      case atStart => exact ⟨i + 1, by omega, by omega, by go_num, Lib.hid (fun k' h1 h2 => by omega), hbx, hlt1, hbb⟩
      case round =>
        clear hbx hlt1 hbb
        obtain ⟨k, hik, hk, rfl, HNK, hbx, hlw, hb⟩ := hrel
        obtain ⟨w2, hw2⟩ : ∃ w', w' = wr := ⟨_, rfl⟩
        rw [← hw2] at hbx hlw hb ⊢
        clear hw2
        by_cases hlk : k < l.length
        · have z4 : (0 : Int) ≤ (k : Int) := by omega
          have z5 : (k : Int) < (l.length : Int) := by omega
          obtain ⟨b', o', t0, t1, t2, t3, t4, t5, hbo, ht, hc⟩ := ReadSd.at (HR.out.kept hb) hlk (HSS.out k hlk)
          cases hbo
          obtain ⟨c0, c1, c2, c3, c4, c5⟩ := hc
          have HV := Lib.hid (fun w' => violate_any (l.getD i []) (l.getD k []) w' (HSS.out i hlt) (HSS.out k hlk))
          have HVB : Hid (vioB l i k = (decide ((l.getD i []).take 5 = (l.getD k []).take 5) && !decide (l.getD i [] = l.getD k []))) := Lib.hid rfl
          obtain ⟨q, hq⟩ : ∃ q, q = vioB l i k := ⟨_, rfl⟩
          rw [← HVB.out, ← hq, HSI.out, ht, sidV_six, sidV_six] at HV
          have HQ := Lib.hid hq
          have HB := Lib.hid hb
          have HBX := Lib.hid hbx
          obtain ⟨d0, d1, d2, d3, d4, d5⟩ := hbx
          clear hq ht hb HVB
          cases q with
          | false =>
            go_wp2_with fail
            go_region_law (go_simp; go_at_call 72; refine (HV.out w2.drew).mono ?_; rintro e w3 ⟨rfl, b3⟩)
            all_goals
              replace b3 : Below w2.heap.size w2 w3 := (Below.refl w2.heap.size w2).drew.trans b3
              have hb3 := HB.out.trans (b3.mono HB.out.size)
              have hbx3 := HBX.out.kept b3 hlw
              have hs3 := b3.size
              clear b3 c0 c1 c2 c3 c4 c5 d0 d1 d2 d3 d4 d5
              go_wp2_with fail
              go_roundw
              case rel => exact ⟨k + 1, by omega, by omega, by go_num, Lib.hid (fun k' g1 g2 => by
                by_cases e : k' = k
                · rw [e]; exact HQ.out.symm
                · exact HNK.out k' g1 (by omega)), hbx3, by omega, hb3⟩
              case measure => simp [intOf]; omega
          | true =>
            have HP := Lib.hid (HEQ.out (i : Int) (k : Int) (.inr ⟨i, k, rfl, rfl, hik, hlk, HQ.out.symm, HNO.out, HNK.out⟩))
            go_wp2_with fail
            go_region_law (go_simp; go_at_call 72; refine (HV.out w2.drew).mono ?_; rintro e w3 ⟨rfl, b3⟩)
            all_goals
              replace b3 : Below w2.heap.size w2 w3 := (Below.refl w2.heap.size w2).drew.trans b3
              have hb3 := HB.out.trans (b3.mono HB.out.size)
              clear b3 c0 c1 c2 c3 c4 c5 d0 d1 d2 d3 d4 d5
              go_wp2_with fail
              go_ret3
              exact ⟨by rw [HP.out]; simp only [decide_eq_true (show (0 : Int) ≤ (i : Int) by omega)]; rfl, hb3⟩
        · obtain rfl : k = l.length := by omega
          go_wp2_with fail
          go_roundw
          case rel => exact ⟨i + 1, by omega, by go_num, Lib.hid (fun i' k' g1 g2 g3 => by
            by_cases e : i' = i
            · rw [e] at g2 ⊢; exact HNK.out k' g2 g3
            · exact HNO.out i' k' (by omega) g2 g3), hb⟩
          case measure => simp [intOf]; omega
    · obtain rfl : i = l.length := by omega
      have HP := Lib.hid (HEQ.out (-1) (-1) (.inl ⟨rfl, rfl, fun i k g1 g2 => HNO.out i k (by omega) g1 g2⟩))
      go_wp2_with fail
      go_ret3
      exact ⟨by rw [HP.out]; rfl, hb⟩
end Go.Proofs.YtfndnaldgaaieaaGreatDoor
