/- Texts of this claim, merged: FnAgrA, TrJ, DepDraw, DepDraw2, CovDraw, KyDraw. Conditions: as stated. -/
import Derived.Test.YtnbjcelfdppkcaaGreatTc10
import Derived.Test.YtnbjcelfdppkcaaGreatTc13
import Derived.Deep.Quiet
import Derived.Deep.RegionHeld3
import Derived.BigQuiet
import Derived.Test.YtnbjcelfdppkcaaGreatAgrDraw2m
import Derived.Test.YtnbjcelfdppkcaaGreatTc8
import Derived.Test.YtnbjcelfdppkcaaGreatTc2
import Derived.Test.YtnbjcelfdppkcaaGreatTc3
import Derived.Deep.CutBlock
import Derived.Deep.DeepCutAuto
namespace Go.Proofs.YtnbjcelfdppkcaaGreat
open Go.RowKit

/-- A world that has all that w has, and perhaps new blocks. -/
structure Bel (w : World) where
  x : World
  h : Below w.heap.size w x
instance (w : World) : Inhabited (Bel w) := ⟨⟨w, Below.refl _ w⟩⟩
theorem wp_region_bel {P : Program} {id : Nat} {Q : Exit → Act → World → Prop} {a : Act} {w : World} {l : List Oper} (hm : P.follows .mixedOrders = true) (hB : Region.lexB .any l.toArray = true)
    (h : wpQuiet P l.toArray (fun w' => ∃ p : Bel w, w' = p.x) (fun a' => ∀ w', (∃ p : Bel w, w' = p.x) → Q .normal a' w') l a) : (Code.region id l.toArray true).wp P Q a w :=
  wp_region_quiet (C := fun w' => ∃ p : Bel w, w' = p.x) hm hB ⟨⟨w.drew, (Below.refl _ w).drew⟩, rfl⟩ (by simpa using h)
theorem Calls.bel {P : Program} {f : FuncId} {args : Array Value} {w : World} {p : Bel w} {v : Value}
    (h : Calls P f args p.x fun e w' => e = .returned v ∧ Below p.x.heap.size p.x w') : Calls P f args p.x fun e w'' => e = .returned v ∧ ∃ q : Bel w, w'' = q.x :=
  h.mono fun _ w' ⟨he, hb⟩ => ⟨he, ⟨w', p.h.trans (hb.mono p.h.size)⟩, rfl⟩
set_option maxHeartbeats 800000 in
theorem sameInts_any (v v' : Value) (l l' : List Int) (w : World) (hr : ReadI w v l) (hr' : ReadI w v' l') (hl : l.length ≤ 1000000000) :
    Calls Tryz.prog 7 #[v, v'] w fun e w' => e = .returned (.bool (eqB l l')) ∧ ∃ m, w' = w.drewN m := by
  obtain ⟨a, cap, rfl, ha⟩ := hr
  obtain ⟨a', cap', rfl, ha'⟩ := hr'
  have HA := Lib.hid ha
  have HA' := Lib.hid ha'
  clear ha ha'
  by_cases hlen : l.length = l'.length
  · have hne : ((l.length : Int) != (l'.length : Int)) = false := by simp [hlen]
    have HL := Lib.hid hlen
    clear hlen
    go_enter Tryz.func7, Tryz.ntmps7
    go_wp2_with fail
    go_loopw [5] (fun iv wr => ∃ (k n : Nat), k ≤ l.length ∧ iv = .int .i64 (k : Int) ∧ Hid (l.take k = l'.take k) ∧ wr = w.drewN n) (fun iv _ => l.length - (intOf iv).toNat)
    case atStart => exact ⟨0, 0, by omega, rfl, Lib.hid rfl, rfl⟩
    case round =>
      obtain ⟨k, n, hk, rfl, hsame, rfl⟩ := hrel
      by_cases hlt : k < l.length
      · have hlt' : k < l'.length := by have := HL.out; omega
        obtain ⟨x, rfl, hx⟩ := HA.out k hlt
        obtain ⟨x', rfl, hx'⟩ := HA'.out k hlt'
        have z0 : (0 : Int) ≤ (k : Int) := by omega
        have z1 : (k : Int) < (l.length : Int) := by omega
        have z2 : (k : Int) < (l'.length : Int) := by omega
        by_cases he : l[k] = l'[k]
        · have hb : (l[k] != l'[k]) = false := by simp [he]
          have HE := Lib.hid he
          clear he
          go_wp2_with fail
          go_quiet (fail)
          go_wp2_with fail
          go_roundw
          case rel => exact ⟨k + 1, _, by omega, by go_num, Lib.hid (by rw [List.take_succ_eq_append_getElem hlt, List.take_succ_eq_append_getElem hlt', hsame.out, HE.out]), rfl⟩
          case measure => simp [intOf]; omega
        · have hb : (l[k] != l'[k]) = true := by simpa using he
          have HE := Lib.hid he
          clear he
          go_wp2_with fail
          go_quiet (fail)
          go_wp2_with fail
          go_ret
          exact ⟨ret_b (by unfold eqB; rw [decide_eq_false]; intro e; apply HE.out; simp only [e]), _, World.drewN_drewN _ _ _⟩
      · go_wp2_with fail
        go_ret
        exact ⟨ret_b (by
          unfold eqB
          rw [decide_eq_true]
          have := hsame.out
          rwa [List.take_of_length_le (by omega), List.take_of_length_le (by have := HL.out; omega)] at this), _, rfl⟩
  · have hne : ((l.length : Int) != (l'.length : Int)) = true := by simp; omega
    have HL := Lib.hid hlen
    clear hlen
    go_enter Tryz.func7, Tryz.ntmps7
    go_wp2_with fail
    go_ret
    exact ⟨ret_b (by unfold eqB; rw [decide_eq_false]; intro e; exact HL.out (by rw [e])), 0, rfl⟩

theorem rows_few {ll : List (List Int)} {m : Nat} (h : ∀ r ∈ ll, r.length ≤ m) (i : Nat) (hi : i < ll.length) : (ll.getD i []).length ≤ m :=
  h _ (by rw [List.getD_eq_getElem?_getD, List.getElem?_eq_getElem hi]; exact List.getElem_mem _)
/-- A table in a box: its two cells, and its rows readable. -/
def TB (w : World) (T : Nat) (c : Int) (v : Value) (ll : List (List Int)) : Prop := BoxIs w T c v ∧ ReadSS w v ll
theorem TB.kept {w w' : World} {T : Nat} {c : Int} {v : Value} {ll : List (List Int)} (h : TB w T c v ll) (hb : Below w.heap.size w w') : TB w' T c v ll := ⟨h.1.kept hb h.1.lt, h.2.kept hb⟩
theorem TB.mk' {w : World} {c : Int} {v : Value} {ll : List (List Int)} (h : ReadSS w v ll) : TB (w.alloc (.cells #[.int .i64 c, v] 26)) w.heap.size c v ll :=
  ⟨heap_alloc_new w _, h.kept ((Below.refl _ w).alloc (Nat.le_refl _) _)⟩
theorem TB.bel {w : World} {T : Nat} {c : Int} {v : Value} {ll : List (List Int)} (h : TB w T c v ll) (p : Bel w) : TB p.x T c v ll := h.kept p.h

theorem eqC_swap (m a b : Int) : eqC m a b = eqC m b a := by
  unfold eqC
  rw [decide_eq_decide]
  constructor
  · rintro ⟨h1, h2, h3⟩
    exact ⟨h1, h2.symm, by rw [← h2]; exact h3⟩
  · rintro ⟨h1, h2, h3⟩
    exact ⟨h1, h2.symm, by rw [← h2]; exact h3⟩
theorem agrTo_swap (m : Int) (r s : List Int) : ∀ n, agrTo m r s n = agrTo m s r n
  | 0 => rfl
  | n + 1 => by unfold agrTo; rw [agrTo_swap m r s n, eqC_swap]
theorem agrOf_swap (c : Int) (ll : List (List Int)) (m i k : Int) : agrOf c ll m i k = agrOf c ll m k i := by
  unfold agrOf
  rw [agrTo_swap]
  by_cases h : fineT c ll m = true ∧ (0 ≤ i ∧ i ≤ ll.length - 1) ∧ (0 ≤ k ∧ k ≤ ll.length - 1)
  · rw [if_pos h, if_pos ⟨h.1, h.2.2, h.2.1⟩]
  · rw [if_neg h, if_neg fun h' => h ⟨h'.1, h'.2.2, h'.2.1⟩]
theorem agrOf_in (c : Int) (ll : List (List Int)) (m : Int) (i k : Nat) (hf : fineT c ll m = true) (h : i < k) (hk : k < ll.length) : agrOf c ll m (i : Int) (k : Int) ∈ agrS c ll m := by
  unfold agrOf agrS
  rw [if_pos hf, if_pos ⟨hf, by omega, by omega⟩, agOut_mem _ _ _ _ _ (Nat.le_refl _)]
  exact ⟨i, k, by omega, h, hk, rfl⟩
theorem max_fact {l : List Int} {y z : Int} (hy : y ∈ maxS l) (hz : z ∈ l) : z = y ∨ (bits .and .i64 z y == y) = false := by
  unfold maxS at hy
  split at hy
  · obtain ⟨-, -, -, h⟩ := (mxTo_mem l y _).mp hy
    obtain ⟨t, ht, e⟩ := mem_getD.mp hz
    have := (topK_iff l y _).mp h t ht
    rw [← e, Bool.or_eq_true, and_swap] at this
    rcases this with h' | h'
    · exact Or.inl (by simpa using h')
    · exact Or.inr (by simpa using h')
  · cases hy
theorem min_fact {l : List Int} {y z : Int} (hy : y ∈ minS l) (hz : z ∈ l) : z = y ∨ (bits .and .i64 z y == z) = false := by
  unfold minS at hy
  split at hy
  · obtain ⟨-, -, -, h⟩ := (mnTo_mem l y _).mp hy
    obtain ⟨t, ht, e⟩ := mem_getD.mp hz
    have := (lowK_iff l y _).mp h t ht
    rw [← e, Bool.or_eq_true, and_swap] at this
    rcases this with h' | h'
    · exact Or.inl (by simpa using h')
    · exact Or.inr (by simpa using h')
  · cases hy
theorem eqB_same (l : List Int) : eqB l l = true := by unfold eqB; simp
theorem below_draws (w : World) (m : Nat) : Below w.heap.size w (w.drewN m) := below_drewN (Below.refl _ _) m
theorem box_new (w : World) (o : Obj) : Below w.heap.size w (w.alloc o) := (Below.refl _ w).alloc (Nat.le_refl _) o
end Go.Proofs.YtnbjcelfdppkcaaGreat
namespace Go.Proofs.YtnbjcelfdppkcaaGreat
open Go.RowKit

def DrawnTI (w : World) (e : Ending) (w' : World) : Prop :=
  ∃ (cc : Int) (u : Value) (ll : List (List Int)) (q : Int), -1 ≤ q ∧ q ≤ 2 ∧ e = .returned (.tuple #[.agg #[.int .i64 cc, u], .int .i64 q]) ∧ ll.length ≤ 20 ∧ (∀ r ∈ ll, r.length ≤ 10) ∧ CapOk u ∧ ReadSS w' u ll ∧ Below w.heap.size w w'
section
set_option maxRecDepth 20000
set_option maxHeartbeats 3200000
end
end Go.Proofs.YtnbjcelfdppkcaaGreat
namespace Go.Proofs.YtnbjcelfdppkcaaGreat
open Go.RowKit

def CurDep (lo hi : Int) (W : World) (v : Value) (n c : Nat) (w : World) (e : Ending) (w' : World) : Prop :=
  ∃ l r : Int, lo ≤ l ∧ l ≤ 33 ∧ lo ≤ r ∧ r ≤ hi ∧ e = .returned (.agg #[.int .i64 l, .int .i64 r]) ∧ w.grownBy w' (some c) ∧ Cur W v n c w'
theorem pick3d (w : World) (C : Array Value) (hC : C = #[.int .i64 (-1), .int .i64 4, .int .i64 5]) (t : TypeId) :
    ∀ i, i < 3 → ∃ y : Int, -1 ≤ y ∧ y ≤ 5 ∧ (w.alloc (.cells C t)).cell? ⟨w.heap.size, i, none⟩ = some (.int .i64 y) := by
  intro i hi
  have e : (w.alloc (.cells C t)).cell? ⟨w.heap.size, i, none⟩ = C[i]? := World.cell?_alloc_mark w C t (0, 0) i
  rw [e, hC]
  rcases (show i = 0 ∨ i = 1 ∨ i = 2 by omega) with rfl | rfl | rfl
  all_goals (refine ⟨_, ?_, ?_, rfl⟩ <;> decide)
end Go.Proofs.YtnbjcelfdppkcaaGreat
namespace Go.Proofs.YtnbjcelfdppkcaaGreat
open Go.RowKit

def DrawTD (w : World) (e : Ending) (w' : World) : Prop :=
  ∃ (cc : Int) (u : Value) (ll : List (List Int)) (m l r : Int), -1 ≤ m ∧ m ≤ 2 ∧ -1 ≤ l ∧ l ≤ 33 ∧ -1 ≤ r ∧ r ≤ 5 ∧ e = .returned (.tuple #[.agg #[.int .i64 cc, u], .int .i64 m, .agg #[.int .i64 l, .int .i64 r]]) ∧ ll.length ≤ 20 ∧ (∀ r ∈ ll, r.length ≤ 10) ∧ OwnSS w' w.heap.size w'.heap.size u ll ∧ Below w.heap.size w w'
end Go.Proofs.YtnbjcelfdppkcaaGreat
namespace Go.Proofs.YtnbjcelfdppkcaaGreat
open Go.RowKit

def DrawTN (w : World) (e : Ending) (w' : World) : Prop :=
  ∃ (cc : Int) (u : Value) (ll : List (List Int)) (m q : Int), -1 ≤ m ∧ m ≤ 2 ∧ -2 ≤ q ∧ q ≤ 33 ∧ e = .returned (.tuple #[.agg #[.int .i64 cc, u], .int .i64 m, .int .i64 q]) ∧ ll.length ≤ 20 ∧ (∀ r ∈ ll, r.length ≤ 10) ∧ OwnSS w' w.heap.size w'.heap.size u ll ∧ Below w.heap.size w w'
/-- The state: the table's cell of the result, the table's own cell, the table, the growth, the cursor. -/
structure TmSt (W : World) (v : Value) (n c : Nat) (w : World) (T B : Nat) (cc : Int) (u : Value) (ll : List (List Int)) (cz : Int) (uz : Value) (x : World) : Prop where
  z : BoxIs x w.heap.size cz uz
  b : BoxIs x T cc u
  s : OwnSS x B T u ll
  g : w.grownBy x none
  e1 : w.heap.size < c
  e2 : c < B
  e3 : B ≤ T
  e4 : W.heap.size ≤ w.heap.size
  cur : Cur W v n c x
theorem TmSt.grown {W w x y : World} {v u uz : Value} {n c T B : Nat} {cc cz : Int} {ll : List (List Int)} (h : TmSt W v n c w T B cc u ll cz uz x) (hg : x.grownBy y (some c)) (hc : Cur W v n c y) : TmSt W v n c w T B cc u ll cz uz y :=
  ⟨h.z.grown hg (by have := h.e1; simp; omega), h.b.grown hg (by have := h.e2; have := h.e3; simp; omega), h.s.same (same_grown hg (Nat.le_of_lt h.b.lt) h.e2),
   grown_above h.g hg (fun g e => by have := h.e1; simp at e; omega), h.e1, h.e2, h.e3, h.e4, hc⟩
theorem TmSt.still {W w x y : World} {v u uz : Value} {n c T B : Nat} {cc cz : Int} {ll : List (List Int)} (h : TmSt W v n c w T B cc u ll cz uz x) (hg : x.grownBy y none) : TmSt W v n c w T B cc u ll cz uz y :=
  h.grown ⟨hg.os, hg.tape, hg.output, hg.size, fun j hj _ => hg.block j hj (by simp)⟩ (h.cur.kept hg (by simp) (by simp))
theorem TmSt.put0 {W w x : World} {v u uz u' : Value} {n c T B : Nat} {cc cz c' : Int} {ll : List (List Int)} (h : TmSt W v n c w T B cc u ll cz uz x) : TmSt W v n c w T B cc u ll c' u' ((x.setCell ⟨w.heap.size, 0, none⟩ (.int .i64 c')).setCell ⟨w.heap.size, 1, none⟩ u') := by
  have h1 := h.e1
  have h2 := h.e2
  have h3 := h.e3
  have h4 := h.e4
  exact ⟨(h.z.set0 (cc' := c')).set (rv' := u'),
    (h.b.grown (grown_cell x ⟨w.heap.size, 0, none⟩ (.int .i64 c')) (by simp; omega)).grown (grown_cell _ ⟨w.heap.size, 1, none⟩ u') (by simp; omega),
    h.s.same (((Same.refl _ _ _).setCell (p := ⟨w.heap.size, 0, none⟩) (.inl (by show w.heap.size < _; omega)) (.int .i64 c')).setCell (p := ⟨w.heap.size, 1, none⟩) (.inl (by show w.heap.size < _; omega)) u'),
    grown_set (grown_set h.g (p := ⟨w.heap.size, 0, none⟩) (Nat.le_refl _) _) (p := ⟨w.heap.size, 1, none⟩) (Nat.le_refl _) _, h1, h2, h3, h4,
    (h.cur.set (p := ⟨w.heap.size, 0, none⟩) (by show W.heap.size ≤ w.heap.size; omega) (by show w.heap.size ≠ c; omega) (.int .i64 c')).set (p := ⟨w.heap.size, 1, none⟩) (by show W.heap.size ≤ w.heap.size; omega) (by show w.heap.size ≠ c; omega) u'⟩
end Go.Proofs.YtnbjcelfdppkcaaGreat
namespace Go.Proofs.YtnbjcelfdppkcaaGreat
open Go.RowKit

section
set_option maxRecDepth 20000
set_option maxHeartbeats 3200000
theorem drawMinimalKeys_any (W : World) (v : Value) (n : Nat) (hn : n ≤ 1048576) (hcode : CodeAt W v n) (w : World) (hb : Below W.heap.size W w) :
    Calls Tryz.prog 5 #[v] w (DrawnTI w) := by
  have hg0 : w.grownBy (w.alloc (.cells #[.int .i64 0, .slice none 0 0] 26)) none := World.grownBy_alloc w _ _
  have hz0 : BoxIs (w.alloc (.cells #[.int .i64 0, .slice none 0 0] 26)) w.heap.size 0 (.slice none 0 0) := heap_alloc_new w _
  have hs0 : w.heap.size + 1 ≤ (w.alloc (.cells #[.int .i64 0, .slice none 0 0] 26)).heap.size := by simp
  have H1 := Lib.hid (new_any W v n hn hcode _ (hb.alloc hb.size (.cells #[.int .i64 0, .slice none 0 0] 26)))
  have H2 := Lib.hid (draw4_any W v n hn hcode)
  obtain ⟨a, cap, rfl⟩ := code_slice hcode
  go_enter Tryz.func5, Tryz.ntmps5
  go_wp2_with fail
  refine H1.out.mono ?_
  rintro e w1 ⟨c, hc, rfl, g1, hc1⟩
  go_wp2_with fail
  refine (H2.out c w1 hc1).mono ?_
  rintro e w2 ⟨cc, u, ll, md, md0, md1, rfl, hll, hlr, hss, g2, hc2⟩
  have s1 := g1.size
  have s2 := g2.size
  have hz := (hz0.grown g1 (by simp)).grown g2 (by simp; omega)
  have hg := grown_above (grown_trans hg0 g1) g2 (fun g e => by simp at e; omega)
  obtain ⟨au, cu, rfl, -⟩ := hss.read
  replace hz := hz.grown (World.grownBy_alloc w2 (.cells #[.int .i64 cc, .slice au ll.length cu] 26) none) (by simp)
  replace hg := grown_trans hg (World.grownBy_alloc w2 (.cells #[.int .i64 cc, .slice au ll.length cu] 26) none)
  replace hss := hss.same (w' := w2.alloc (.cells #[.int .i64 cc, .slice au ll.length cu] 26)) (fun g _ hg => Below.heap_alloc _ _ _ hg)
  have HF := Lib.hid (FinT.mk (cc := cc) hz (hss.base (by omega) (Nat.le_refl _)) (by simp) hg)
  obtain ⟨⟨d0, d1⟩, f0, f1⟩ := hz.cells
  obtain ⟨⟨r0, r1⟩, -, -⟩ := HF.out.1.cells
  have HR := Lib.hid (And.intro r0 r1)
  clear r0 r1 hz hg hss hz0 hg0 hs0 g1 g2 hc1 hc2
  go_wp2_with fail
  exact bodyPost_ret (v := .tuple #[.agg #[.int .i64 cc, .slice au ll.length cu], .int .i64 md]) (by simp [results, Tryz.results5, go_sem, HR.out.1, HR.out.2]) rfl ⟨_, _, ll, md, by omega, by omega, rfl, hll, hlr, HF.out.2.1.capOk, HF.out.2.1.read, (Below.refl _ w).grown HF.out.2.2 (Nat.le_refl _) (by simp)⟩
theorem drawIsUnique_any (W : World) (v : Value) (n : Nat) (hn : n ≤ 1048576) (hcode : CodeAt W v n) (w : World) (hb : Below W.heap.size W w) :
    Calls Tryz.prog 12 #[v] w (DrawTN w) := by
  have hg0 : Hid (w.grownBy (w.alloc (.cells #[.int .i64 0, .slice none 0 0] 26)) none) := Lib.hid (World.grownBy_alloc w _ _)
  have hz0 : Hid (BoxIs (w.alloc (.cells #[.int .i64 0, .slice none 0 0] 26)) w.heap.size 0 (.slice none 0 0)) := Lib.hid (heap_alloc_new w _)
  have hbs := hb.size
  have H1 := Lib.hid (new_any W v n hn hcode _ (hb.alloc hb.size (.cells #[.int .i64 0, .slice none 0 0] 26)))
  have H2 := Lib.hid (draw4_any W v n hn hcode)
  have H3 := Lib.hid (below_any W v n hn hcode)
  have H4 := Lib.hid (once_any W v n hn hcode)
  have H5 := Lib.hid (anySet_any W v n hn hcode)
  obtain ⟨a, cap, rfl⟩ := code_slice hcode
  go_enter Tryz.func12, Tryz.ntmps12
  go_wp2_with fail
  refine H1.out.mono ?_
  rintro e w1 ⟨c, hc, rfl, g1, hc1⟩
  go_wp2_with fail
  refine (H2.out c w1 hc1).mono ?_
  rintro e w2 ⟨cc, u, ll, md, md0, md1, rfl, hll, hlr, hss, g2, hc2⟩
  have s2 := g2.size
  have hcw := hc1.lt
  have hc' : w.heap.size < c := by simp at hc; omega
  obtain ⟨au, cu, rfl, -⟩ := hss.read
  have HS : Hid (TmSt W (.slice a n cap) n c w w2.heap.size w1.heap.size cc (.slice au ll.length cu) ll 0 (.slice none 0 0) (w2.alloc (.cells #[.int .i64 cc, .slice au ll.length cu] 26))) := Lib.hid
    ⟨((hz0.out.grown g1 (by simp)).grown g2 (by simp; omega)).grown (World.grownBy_alloc w2 _ none) (by simp),
     heap_alloc_new w2 _, hss.same (fun g _ hg => Below.heap_alloc _ _ _ hg),
     grown_trans (grown_above (grown_trans hg0.out g1) g2 (fun g e => by simp at e; omega)) (World.grownBy_alloc w2 _ none), hc', hcw, s2, hbs, hc2.kept (World.grownBy_alloc w2 _ none) (by simp) (by simp)⟩
  clear hz0 hg0 g1 g2 hc2 hss hc1 hc
  go_wp2_with fail
  obtain ⟨T, hT⟩ : ∃ T, T = w2.heap.size := ⟨_, rfl⟩
  obtain ⟨w3, hw3⟩ : ∃ w3, w3 = w2.alloc (.cells #[.int .i64 cc, .slice au ll.length cu] 26) := ⟨_, rfl⟩
  rw [← hw3] at HS ⊢
  rw [← hT] at HS s2 ⊢
  clear hw3 hT
  have HSR := Lib.hid HS.out.b.cells
  obtain ⟨⟨m0, m1⟩, q0, q1⟩ := HSR.out
  refine (H4.out c w3 HS.out.cur 8 (by omega) (by omega)).mono ?_
  rintro e w4 ⟨bq, rfl, g4, hc4⟩
  replace HS := Lib.hid (HS.out.grown g4 hc4)
  clear HSR m0 m1 q0 q1 g4 hc4
  cases bq with
  | true =>
    go_upto_region 4 with fail
    have HD : Hid (TmSt W (.slice a n cap) n c w T w1.heap.size cc (.slice au ll.length cu) ll 0 (.slice none 0 0) w4.drew) := Lib.hid (HS.out.still ⟨rfl, rfl, rfl, Nat.le_refl _, fun _ _ _ => rfl⟩)
    have HP := Lib.hid (HD.out.put0 (c' := cc) (u' := .slice au ll.length cu))
    obtain ⟨⟨c0, c1⟩, f0, f1⟩ := HD.out.b.cells
    obtain ⟨⟨d0, d1⟩, e0, e1⟩ := HD.out.z.cells
    obtain ⟨⟨m0, m1⟩, q0, q1⟩ := HS.out.b.cells
    obtain ⟨⟨k0, k1⟩, i0, i1⟩ := HS.out.z.cells
    clear HS
    go_region_law (go_simp; go_at_call 32; first
      | (refine (H5.out c _ HD.out.cur).mono ?_; rintro e w5 ⟨x, x0, x1, rfl, g5, hc5⟩; have S5 := Lib.hid (HD.out.grown g5 hc5); have HF := Lib.hid (S5.out.put0 (c' := cc) (u' := .slice au ll.length cu)); obtain ⟨⟨a0, a1⟩, b0, b1⟩ := S5.out.z.cells; obtain ⟨⟨n0, n1⟩, -, -⟩ := S5.out.b.cells)
      | (refine (H5.out c _ HP.out.cur).mono ?_; rintro e w5 ⟨x, x0, x1, rfl, g5, hc5⟩; have HF := Lib.hid (HP.out.grown g5 hc5)))
    all_goals
      obtain ⟨⟨r0, r1⟩, -, -⟩ := HF.out.z.cells
      have HR := Lib.hid (And.intro r0 r1)
      clear r0 r1
      go_wp2_with fail
      exact bodyPost_ret (v := .tuple #[.agg #[.int .i64 cc, .slice au ll.length cu], .int .i64 md, .int .i64 x]) (by simp [results, Tryz.results12, go_sem, HR.out.1, HR.out.2]) rfl ⟨_, _, ll, md, _, md0, md1, by omega, by omega, rfl, hll, hlr, HF.out.s.base (by have := HF.out.e1; have := HF.out.e2; omega) (Nat.le_of_lt HF.out.b.lt), (Below.refl _ w).grown HF.out.g (Nat.le_refl _) (by simp)⟩
  | false =>
    go_upto_region 5 with fail
    have HD : Hid (TmSt W (.slice a n cap) n c w T w1.heap.size cc (.slice au ll.length cu) ll 0 (.slice none 0 0) w4.drew) := Lib.hid (HS.out.still ⟨rfl, rfl, rfl, Nat.le_refl _, fun _ _ _ => rfl⟩)
    have HP := Lib.hid (HD.out.put0 (c' := cc) (u' := .slice au ll.length cu))
    obtain ⟨⟨c0, c1⟩, f0, f1⟩ := HD.out.b.cells
    obtain ⟨⟨d0, d1⟩, e0, e1⟩ := HD.out.z.cells
    obtain ⟨⟨m0, m1⟩, q0, q1⟩ := HS.out.b.cells
    obtain ⟨⟨k0, k1⟩, i0, i1⟩ := HS.out.z.cells
    clear HS
    go_region_law (go_simp; go_at_call 33; first
      | (refine (H3.out c _ HD.out.cur 8 (by omega) (by omega)).mono ?_; rintro e w5 ⟨x, x0, x1, rfl, g5, hc5⟩; have S5 := Lib.hid (HD.out.grown g5 hc5); have HF := Lib.hid (S5.out.put0 (c' := cc) (u' := .slice au ll.length cu)); obtain ⟨⟨a0, a1⟩, b0, b1⟩ := S5.out.z.cells; obtain ⟨⟨n0, n1⟩, -, -⟩ := S5.out.b.cells)
      | (refine (H3.out c _ HP.out.cur 8 (by omega) (by omega)).mono ?_; rintro e w5 ⟨x, x0, x1, rfl, g5, hc5⟩; have HF := Lib.hid (HP.out.grown g5 hc5)))
    all_goals
      obtain ⟨⟨r0, r1⟩, -, -⟩ := HF.out.z.cells
      have HR := Lib.hid (And.intro r0 r1)
      clear r0 r1
      go_wp2_with fail
      exact bodyPost_ret (v := .tuple #[.agg #[.int .i64 cc, .slice au ll.length cu], .int .i64 md, .int .i64 x]) (by simp [results, Tryz.results12, go_sem, HR.out.1, HR.out.2]) rfl ⟨_, _, ll, md, _, md0, md1, by omega, by omega, rfl, hll, hlr, HF.out.s.base (by have := HF.out.e1; have := HF.out.e2; omega) (Nat.le_of_lt HF.out.b.lt), (Below.refl _ w).grown HF.out.g (Nat.le_refl _) (by simp)⟩
end
end Go.Proofs.YtnbjcelfdppkcaaGreat
