/- Texts of this claim, merged: CvA, CvB, CtA, RecK, SidK. Conditions: as stated. -/
import Derived.Test.YtigecfbmdbpbhaaSa15
import Derived.Test.YtigecfbmdbpbhaaSa11
import Derived.Test.YtigecfbmdbpbhaaSa14
import Derived.Deep.Quiet
import Derived.Deep.RegionLaw
import Derived.Test.YtigecfbmdbpbhaaSa6
import Derived.Test.YtigecfbmdbpbhaaSa12
import Derived.Test.YtigecfbmdbpbhaaSa10
import Derived.Maps.RangeWalk
import Derived.Maps.AppendAt
import Derived.WideKeyEntry
import Derived.WideKeyPair
namespace Go.Proofs.Ytigecfbmdbpbhaa
open Go.RowKit

set_option maxHeartbeats 1600000 in
theorem inMode_any (c m : Int) (v : Value) (ll : List (List Int)) (w : World) (hr : ReadSS w v ll) (hl : ll.length ≤ 1048576) (ht : ∀ i, i < ll.length → (ll.getD i []).length ≤ 1048576) :
    Calls Try.prog 35 #[.agg #[.int .i64 c, v], .int .i64 m] w fun e w' => e = .returned (.bool (fineT c ll m)) ∧ Below w.heap.size w w' := by
  have HO := Lib.hid (eqOf_any m)
  have hb1 := (Below.refl w.heap.size w).alloc (Nat.le_refl _) (.cells #[.int .i64 c, v] 26)
  have HV := Lib.hid (fun w' (hb : Below w.heap.size w w') => implIsTable_any c v ll w' (hr.kept hb) hl ht)
  have HB1 := Lib.hid hb1
  obtain ⟨c0, c1⟩ := zero2 w 26 (.int .i64 c) v
  obtain ⟨a, cap, rfl, -⟩ := hr
  obtain ⟨F, hF⟩ : ∃ F, eqFn m = F := ⟨_, rfl⟩
  rw [hF] at HO
  clear hb1 hF
  cases hm : modeOk m with
  | false =>
    have HE : Hid (fineT c ll m = false) := Lib.hid (by unfold fineT; rw [hm]; simp)
    rw [hm] at HO
    clear hm
    go_enter Try.func35, Try.ntmps35
    go_wp2_with fail
    refine (HO.out _).mono ?_
    rintro e w' ⟨rfl, rfl⟩
    go_wp2_with fail
    go_ret
    exact ⟨ret_b HE.out, HB1.out⟩
  | true =>
    have HE : Hid (fineT c ll m = isT c ll) := Lib.hid (by unfold fineT; rw [hm]; simp)
    rw [hm] at HO
    clear hm
    go_enter Try.func35, Try.ntmps35
    go_wp2_with fail
    refine (HO.out _).mono ?_
    rintro e w' ⟨rfl, rfl⟩
    go_wp2_with fail
    refine (HV.out _ HB1.out).mono ?_
    rintro e w2 ⟨rfl, b2⟩
    have hb2 := HB1.out.trans (b2.mono HB1.out.size)
    go_wp2_with fail
    go_ret
    exact ⟨ret_b HE.out, hb2⟩
theorem pw_next (ps : List Int) (r k : Nat) (h : k < ps.length) : (ps.take (k + 1)).map (fun S => (S, (r : Int))) = (ps.take k).map (fun S => (S, (r : Int))) ++ [(ps.getD k 0, (r : Int))] := by
  rw [take_succ_getD ps 0 k h, List.map_append]; rfl
theorem cand_len (C r : Nat) (hC : C ≤ 5) (hr : r ≤ C) : (mdOut (fun S r => !bitB S.toNat r) (parts (C : Int)) r).length ≤ 160 := by
  have h1 := mdOut_len (fun S r => !bitB S.toNat r) (parts (C : Int)) r
  have h2 := parts_len32 hC
  have h3 : r * (parts (C : Int)).length ≤ 5 * 32 := Nat.mul_le_mul (by omega) h2
  omega
end Go.Proofs.Ytigecfbmdbpbhaa
namespace Go.Proofs.Ytigecfbmdbpbhaa
open Go.RowKit

theorem box_two {w : World} {T T' : TypeId} {a b l r : Value} : (((w.alloc (.cells #[a, b] T)).alloc (.cells #[l, r] T')).cell? ⟨w.heap.size, 0, none⟩ = some a ∧ ((w.alloc (.cells #[a, b] T)).alloc (.cells #[l, r] T')).cell? ⟨w.heap.size, 1, none⟩ = some b) ∧ ((w.alloc (.cells #[a, b] T)).alloc (.cells #[l, r] T')).cell? ⟨w.heap.size + 1, 0, none⟩ = some l ∧ ((w.alloc (.cells #[a, b] T)).alloc (.cells #[l, r] T')).cell? ⟨w.heap.size + 1, 1, none⟩ = some r := boxTD (Below.refl _ _)
set_option maxHeartbeats 1600000 in
theorem covers_any (e0 e1 d0 d1 : Int) (w : World) :
    Calls Try.prog 74 #[.agg #[.int .i64 e0, .int .i64 e1], .agg #[.int .i64 d0, .int .i64 d1]] w fun e w' => e = .returned (.bool (covB (e0, e1) (d0, d1))) ∧ Below w.heap.size w w' := by
  have hb1 := (Below.refl w.heap.size w).alloc (Nat.le_refl _) (.cells #[.int .i64 e0, .int .i64 e1] 46)
  have hb2 := hb1.alloc hb1.size (.cells #[.int .i64 d0, .int .i64 d1] 46)
  have HB := Lib.hid hb2
  obtain ⟨⟨c0, c1⟩, c2, c3⟩ := box_two (w := w) (T := 46) (T' := 46) (a := .int .i64 e0) (b := .int .i64 e1) (l := .int .i64 d0) (r := .int .i64 d1)
  have HP := Lib.hid (fun w' => partOf_any e0 d0 w')
  clear hb1 hb2
  by_cases h : e1 = d1
  · subst h
    have HE : Hid (covB (e0, e1) (d0, e1) = partZ e0 d0) := Lib.hid (by unfold covB; simp)
    go_enter Try.func74, Try.ntmps74
    go_wp2_with fail
    refine (HP.out _).mono ?_
    rintro e w' ⟨rfl, rfl⟩
    go_wp2_with fail
    go_ret
    exact ⟨ret_b HE.out, HB.out⟩
  · have HE : Hid (covB (e0, e1) (d0, d1) = false) := Lib.hid (by unfold covB; rw [decide_eq_false h]; rfl)
    have hne : (e1 == d1) = false := by simpa using h
    clear h
    go_enter Try.func74, Try.ntmps74
    go_wp2_with fail
    go_ret
    exact ⟨ret_b HE.out, HB.out⟩
theorem any_no {α : Type} (p : α → Bool) (l : List α) (d : α) (k : Nat) (h : k < l.length) (h0 : (l.take k).any p = false) (h1 : p (l.getD k d) = false) : (l.take (k + 1)).any p = false := by
  rw [take_succ_getD l d k h, List.any_append, h0, Bool.false_or]
  show (p (l.getD k d) || false) = false
  rw [h1]; rfl
theorem any_yes {α : Type} (p : α → Bool) (l : List α) (d : α) (k : Nat) (h : k < l.length) (h1 : p (l.getD k d) = true) : l.any p = true := by
  rw [List.any_eq_true]
  exact ⟨l.getD k d, by rw [List.getD_eq_getElem?_getD, List.getElem?_eq_getElem h]; exact List.getElem_mem h, h1⟩
/-- An index that is not negative just if one is so. -/
def IxOk (b : Bool) (i : Int) : Prop := (b = true → 0 ≤ i) ∧ (b = false → i = -1)
end Go.Proofs.Ytigecfbmdbpbhaa
namespace Go.Proofs.Ytigecfbmdbpbhaa
open Go.RowKit

theorem OwnD.same {w w' : World} {B : Nat} {v : Value} {l : List (Int × Int)} (h : OwnD w B v l) (hs : ∀ g, v.ownBlock = some g → w'.heap[g]? = w.heap[g]?) : OwnD w' B v l := by
  refine ⟨h.1, ?_⟩
  rcases h.2 with hn | ⟨g, cap, cur, rfl, hB, hgg, rest⟩
  · exact .inl hn
  · exact .inr ⟨g, cap, cur, rfl, hB, (hs g rfl).trans hgg, rest⟩
/-- The block of a search differs from a row of dependencies. -/
theorem sb_apart {w : World} {B p : Nat} {v a0 a1 a2 a3 a4 a5 : Value} {l : List (Int × Int)} (h : OwnD w B v l) (hs : SBI w p a0 a1 a2 a3 a4 a5) : ∀ g, v.ownBlock = some g → g ≠ p := by
  intro g hg e
  subst e
  rcases h.2 with ⟨rfl, _⟩ | ⟨g1, cap, cur, rfl, hB, hgg, rest⟩
  · cases hg
  · simp [Value.ownBlock] at hg
    subst hg
    unfold SBI at hs
    rw [hgg] at hs
    simp at hs
/-- What holds of the world while the copy of a search is carried on: p: its box; the search that came in and the result's box; the table; what is found; the candidates. -/
structure Ct (w0 : World) (C : Nat) (m : Int) (x1 x4 : Value) (K : Nat) (n0 : Int) (u : Value) (ll : List (List Int)) (ov : Value) (L : List (Int × Int)) (p Bt Cc : Nat) (k : Nat) (g : Value) (F : List (Int × Int)) (T : Int) (wr : World) : Prop where
  nx : SBI wr p (.int .i64 (C : Int)) u (.int .i64 m) (.int .i64 (k : Int)) g (.int .i64 T)
  sb : SBI wr w0.heap.size (.int .i64 (C : Int)) x1 (.int .i64 m) (.int .i64 (K : Int)) x4 (.int .i64 n0)
  rb : SBI wr (w0.heap.size + 1) (.int .i64 0) (.slice none 0 0) (.int .i64 0) (.int .i64 0) (.slice none 0 0) (.int .i64 0)
  tab : OwnSS wr Bt Cc u ll
  fnd : OwnD wr Cc g F
  ord : OwnD wr (p + 1) ov L
  ap : ∀ q, ov.ownBlock = some q → g.ownBlock ≠ some q
  bel : Below w0.heap.size w0 wr
  sz : w0.heap.size + 1 < Bt ∧ Bt ≤ Cc ∧ Cc ≤ p ∧ p < wr.heap.size
section
variable {w0 wr w' : World} {C : Nat} {m : Int} {x1 x4 : Value} {K : Nat} {n0 : Int} {u : Value} {ll : List (List Int)} {ov : Value} {L : List (Int × Int)} {p Bt Cc k : Nat} {g : Value} {F : List (Int × Int)} {T : Int}
theorem Ct.below (h : Ct w0 C m x1 x4 K n0 u ll ov L p Bt Cc k g F T wr) (hb : Below wr.heap.size wr w') : Ct w0 C m x1 x4 K n0 u ll ov L p Bt Cc k g F T w' :=
  ⟨h.nx.kept hb, h.sb.kept hb, h.rb.kept hb, h.tab.same (Below.keeps hb (by have := h.sz; omega)), h.fnd.below hb (fun q hq => (h.fnd.lt q hq).2), h.ord.below hb (fun q hq => (h.ord.lt q hq).2), h.ap, h.bel.trans (hb.mono h.bel.size), by have := h.sz; have := hb.size; omega⟩
theorem Ct.same (h : Ct w0 C m x1 x4 K n0 u ll ov L p Bt Cc k g F T wr) {k' : Nat} {T' : Int} (hn : SBI w' p (.int .i64 (C : Int)) u (.int .i64 m) (.int .i64 (k' : Int)) g (.int .i64 T')) (hs : ∀ q, q ≠ p → w'.heap[q]? = wr.heap[q]?) (hb : Below p wr w') : Ct w0 C m x1 x4 K n0 u ll ov L p Bt Cc k' g F T' w' := by
  obtain ⟨s1, s2, s3, s4⟩ := h.sz
  exact ⟨hn, h.sb.eqb (hs _ (by omega)), h.rb.eqb (hs _ (by omega)), h.tab.same (fun q _ hq => hs q (by omega)), h.fnd.same (fun q hq => hs q (sb_apart h.fnd h.nx q hq)), h.ord.same (fun q hq => hs q (by have := (h.ord.lt q hq).1; omega)), h.ap, h.bel.trans (hb.mono (by omega)), by have := hb.size; omega⟩
theorem Ct.at_ (h : Ct w0 C m x1 x4 K n0 u ll ov L p Bt Cc k g F T wr) : Ct w0 C m x1 x4 K n0 u ll ov L p Bt Cc (k + 1) g F T (wr.setCell ⟨p, 3, none⟩ (.int .i64 ((k : Int) + 1))) :=
  h.same (k' := k + 1) (by have := h.nx.one3 (b3 := .int .i64 ((k : Int) + 1)); exact this) (fun q hq => Below.heap_setCell _ _ _ _ hq) ((Below.refl p wr).setCell (p := ⟨p, 3, none⟩) (Nat.le_refl _) _)
theorem Ct.tests (h : Ct w0 C m x1 x4 K n0 u ll ov L p Bt Cc k g F T wr) (T' : Int) : Ct w0 C m x1 x4 K n0 u ll ov L p Bt Cc k g F T' (wr.setCell ⟨p, 5, none⟩ (.int .i64 T')) :=
  h.same (by exact h.nx.one5) (fun q hq => Below.heap_setCell _ _ _ _ hq) ((Below.refl p wr).setCell (p := ⟨p, 5, none⟩) (Nat.le_refl _) _)
theorem Ct.nxg (h : Ct w0 C m x1 x4 K n0 u ll ov L p Bt Cc k g F T wr) (hg : wr.grownBy w' g.ownBlock) : SBI w' p (.int .i64 (C : Int)) u (.int .i64 m) (.int .i64 (k : Int)) g (.int .i64 T) :=
  h.nx.eqb (hg.block p h.sz.2.2.2 (fun e => sb_apart h.fnd h.nx p e.symm rfl))
theorem Ct.found (h : Ct w0 C m x1 x4 K n0 u ll ov L p Bt Cc k g F T wr) {g' : Value} {F' : List (Int × Int)} (ho : OwnD w' Cc g' F') (hg : wr.grownBy w' g.ownBlock) (hat : g'.ownBlock = g.ownBlock ∨ g'.ownBlock = some wr.heap.size) :
    Ct w0 C m x1 x4 K n0 u ll ov L p Bt Cc k g' F' T (w'.setCell ⟨p, 4, none⟩ g') := by
  obtain ⟨s1, s2, s3, s4⟩ := h.sz
  have hne : ∀ q, q < wr.heap.size → (∀ x, g.ownBlock = some x → x ≠ q) → w'.heap[q]? = wr.heap[q]? := fun q hq hx => hg.block q hq (fun e => hx q e.symm rfl)
  have hfp := sb_apart h.fnd h.nx
  have hgc : ∀ x, g.ownBlock = some x → Cc ≤ x := fun x hx => (h.fnd.lt x hx).1
  have hnx : SBI w' p _ _ _ _ _ _ := h.nx.eqb (hne p s4 (fun x hx => hfp x hx))
  have hsb : SBI w' w0.heap.size _ _ _ _ _ _ := h.sb.eqb (hne _ (by omega) (fun x hx => by have := hgc x hx; omega))
  have hrb : SBI w' (w0.heap.size + 1) _ _ _ _ _ _ := h.rb.eqb (hne _ (by omega) (fun x hx => by have := hgc x hx; omega))
  have hset : ∀ q, q ≠ p → (w'.setCell ⟨p, 4, none⟩ g').heap[q]? = w'.heap[q]? := fun q hq => Below.heap_setCell _ _ _ _ hq
  refine ⟨hnx.one4, hsb.eqb (hset _ (by omega)), hrb.eqb (hset _ (by omega)), h.tab.same (fun q _ hq => (hset q (by omega)).trans (hne q (by omega) (fun x hx => by have := hgc x hx; omega))), ho.same (fun q hq => hset q (sb_apart ho hnx q hq)), h.ord.same (fun q hq => ?_), fun q hq e => ?_, ?_, by have := hg.size; simp; omega⟩
  · exact (hset q (by have := (h.ord.lt q hq).1; omega)).trans (hne q (h.ord.lt q hq).2 (fun x hx e => h.ap q hq (by rw [hx, e])))
  · rcases hat with e2 | e2
    · exact h.ap q hq (by rw [← e2, e])
    · rw [e2] at e
      have := (h.ord.lt q hq).2
      simp at e
      omega
  · exact (h.bel.grown hg (by have := h.bel.size; omega) (fun x hx => by have := hgc x hx; omega)).setCell (p := ⟨p, 4, none⟩) (by show w0.heap.size ≤ p; omega) _
theorem Ct.fin (h : Ct w0 C m x1 x4 K n0 u ll ov L p Bt Cc k g F T wr) (b0 b1 b2 b3 b4 b5 : Value) :
    OwnSS ((((((wr.setCell ⟨w0.heap.size + 1, 0, none⟩ b0).setCell ⟨w0.heap.size + 1, 1, none⟩ b1).setCell ⟨w0.heap.size + 1, 2, none⟩ b2).setCell ⟨w0.heap.size + 1, 3, none⟩ b3).setCell ⟨w0.heap.size + 1, 4, none⟩ b4).setCell ⟨w0.heap.size + 1, 5, none⟩ b5) w0.heap.size Cc u ll ∧
    OwnD ((((((wr.setCell ⟨w0.heap.size + 1, 0, none⟩ b0).setCell ⟨w0.heap.size + 1, 1, none⟩ b1).setCell ⟨w0.heap.size + 1, 2, none⟩ b2).setCell ⟨w0.heap.size + 1, 3, none⟩ b3).setCell ⟨w0.heap.size + 1, 4, none⟩ b4).setCell ⟨w0.heap.size + 1, 5, none⟩ b5) Cc g F ∧ w0.heap.size ≤ Cc ∧
    Cc ≤ ((((((wr.setCell ⟨w0.heap.size + 1, 0, none⟩ b0).setCell ⟨w0.heap.size + 1, 1, none⟩ b1).setCell ⟨w0.heap.size + 1, 2, none⟩ b2).setCell ⟨w0.heap.size + 1, 3, none⟩ b3).setCell ⟨w0.heap.size + 1, 4, none⟩ b4).setCell ⟨w0.heap.size + 1, 5, none⟩ b5).heap.size ∧
    Below w0.heap.size w0 ((((((wr.setCell ⟨w0.heap.size + 1, 0, none⟩ b0).setCell ⟨w0.heap.size + 1, 1, none⟩ b1).setCell ⟨w0.heap.size + 1, 2, none⟩ b2).setCell ⟨w0.heap.size + 1, 3, none⟩ b3).setCell ⟨w0.heap.size + 1, 4, none⟩ b4).setCell ⟨w0.heap.size + 1, 5, none⟩ b5) := by
  obtain ⟨s1, s2, s3, s4⟩ := h.sz
  have hs := fun (B D : Nat) (hB : w0.heap.size + 1 < B) => six_same (B := B) (C := D) wr (p := w0.heap.size + 1) b0 b1 b2 b3 b4 b5 (.inl hB)
  refine ⟨(h.tab.same (hs Bt Cc s1)).base (by omega) (Nat.le_refl _), (h.fnd.range.same (hs Cc wr.heap.size (by omega))).1, by omega, by simp; omega, six_below _ _ _ _ _ _ h.bel (by omega)⟩
end
/-- Where a search stops: k: the next candidate's number; t0: the tests when it began. -/
noncomputable def goN (C : Nat) (ll : List (List Int)) (m t0 E b : Int) : Nat → Nat → Nat
  | 0, k => k
  | f + 1, k => if (k : Int) < E ∧ ((repN C ll m k).2 : Int) - t0 < b then goN C ll m t0 E b f (k + 1) else k
theorem goN_step {C : Nat} {ll : List (List Int)} {m t0 E b : Int} {N k : Nat} (hk : k < N) (h1 : (k : Int) < E) (h2 : ((repN C ll m k).2 : Int) - t0 < b) : goN C ll m t0 E b (N - k) k = goN C ll m t0 E b (N - (k + 1)) (k + 1) := by
  obtain ⟨f, hf⟩ : ∃ f, N - k = f + 1 := ⟨N - k - 1, by omega⟩
  rw [hf, show N - (k + 1) = f by omega]
  show (if _ then _ else _) = _
  rw [if_pos ⟨h1, h2⟩]
theorem goN_stop {C : Nat} {ll : List (List Int)} {m t0 E b : Int} {f k : Nat} (h : ¬ ((k : Int) < E ∧ ((repN C ll m k).2 : Int) - t0 < b)) : goN C ll m t0 E b f k = k := by
  cases f with
  | zero => rfl
  | succ f =>
    show (if _ then _ else _) = _
    rw [if_neg h]
theorem goN_le {C : Nat} {ll : List (List Int)} {m t0 E b : Int} : ∀ (f k : Nat), k ≤ goN C ll m t0 E b f k ∧ goN C ll m t0 E b f k ≤ k + f
  | 0, k => ⟨Nat.le_refl _, Nat.le_refl _⟩
  | f + 1, k => by
    have ih := goN_le (C := C) (ll := ll) (m := m) (t0 := t0) (E := E) (b := b) f (k + 1)
    show k ≤ (if _ then _ else _) ∧ (if _ then _ else _) ≤ _
    split
    · omega
    · omega
end Go.Proofs.Ytigecfbmdbpbhaa
namespace Go.Proofs.Ytigecfbmdbpbhaa
open Go.RowKit
open Go.Maps (Keyed)
open Go.WideMaps (ArrKey)
open Go.ChangeMaps (setBlock)

theorem arrR : ArrKey Try.prog 110 3 5 := ⟨Try.underlying110, by kernel_rfl, by kernel_rfl, by kernel_rfl⟩
theorem keyR : Keyed Try.prog 110 := Keyed.of_law arrR.law
theorem sizeT : ∃ m, Try.prog.types.size = m + 1 := ⟨Try.prog.types.size - 1, by kernel_rfl⟩
/-- The value of a record. -/
def recV (r : List Int) : Value := .agg #[.int .i64 (r.getD 0 0), .int .i64 (r.getD 1 0), .int .i64 (r.getD 2 0), .int .i64 (r.getD 3 0), .int .i64 (r.getD 4 0)]
/-- Five ints. -/
def R5 (r : List Int) : Prop := r.length = 5 ∧ ∀ j, j < 5 → (Lit.int .i64 (r.getD j 0)).wf = true
theorem r5_list {r : List Int} (h : R5 r) : r = [r.getD 0 0, r.getD 1 0, r.getD 2 0, r.getD 3 0, r.getD 4 0] := by
  obtain ⟨h, -⟩ := h
  match r, h with
  | [a, b, c, d, e], _ => rfl
theorem recV_inj {r s : List Int} (hr : R5 r) (hs : R5 s) (h : recV r = recV s) : r = s := by
  rw [r5_list hr, r5_list hs]
  unfold recV at h
  simp only [Value.agg.injEq, Array.mk.injEq, List.cons.injEq, Value.int.injEq, true_and, and_true] at h
  obtain ⟨h0, h1, h2, h3, h4⟩ := h
  rw [h0, h1, h2, h3, h4]
instance : Nonempty Lit := ⟨.bool false⟩
theorem keyOf_rec {r : List Int} (h : R5 r) : ∃ kl, keyOf Try.prog 110 (recV r) = some kl := by
  have hkt := arrR.keyType sizeT
  obtain ⟨m, hm⟩ := sizeT
  obtain ⟨-, hw⟩ := h
  have w0 := hw 0 (by omega)
  have w1 := hw 1 (by omega)
  have w2 := hw 2 (by omega)
  have w3 := hw 3 (by omega)
  have w4 := hw 4 (by omega)
  refine ⟨.string (keyBytes [.int .i64 (r.getD 0 0), .int .i64 (r.getD 1 0), .int .i64 (r.getD 2 0), .int .i64 (r.getD 3 0), .int .i64 (r.getD 4 0)]), ?_⟩
  · unfold keyOf recV
    generalize r.getD 0 0 = a0, r.getD 1 0 = a1, r.getD 2 0 = a2, r.getD 3 0 = a3, r.getD 4 0 = a4 at *
    simp only [arrR.hu]
    rw [if_pos (by simp [hkt, Value.formed, arrR.hu, arrR.size]), hm]
    unfold Program.keyLits
    simp only [arrR.hu, Value.cells]
    rw [if_pos (by rw [arrR.size]; rfl), show List.range 5 = [0, 1, 2, 3, 4] from rfl, List.mapM_cons, List.mapM_cons, List.mapM_cons, List.mapM_cons, List.mapM_cons, List.mapM_nil]
    simp [arrR.one, Program.keyLits, Try.underlying3, w0, w1, w2, w3, w4]
/-- What a record reads as. -/
noncomputable def klR (r : List Int) : Lit := Classical.epsilon fun kl => keyOf Try.prog 110 (recV r) = some kl
theorem keyOf_klR {r : List Int} (h : R5 r) : keyOf Try.prog 110 (recV r) = some (klR r) := by
  exact Classical.epsilon_spec (keyOf_rec h)
theorem klR_inj {r s : List Int} (hr : R5 r) (hs : R5 s) (h : klR r = klR s) : r = s := by
  have h1 := keyOf_klR hr
  rw [h] at h1
  exact recV_inj hr hs (keyR.inj h1 (keyOf_klR hs))
theorem klR_key {r : List Int} (h : R5 r) : WideAt.IsKeyLit (klR r) := keyR.key (keyOf_klR h)
theorem lit_one {m : Nat} {c : Value} {ls : List Lit} (h : Try.prog.keyLits (m + 1) 3 [c] = some ls) : ∃ a, c = .int .i64 a ∧ (Lit.int .i64 a).wf = true := by
  unfold Program.keyLits at h
  simp only [Try.underlying3] at h
  cases c <;> simp at h
  obtain ⟨⟨rfl, hw⟩, -⟩ := h
  exact ⟨_, rfl, hw⟩
set_option maxRecDepth 100000 in
theorem rec_inv {v : Value} {kl : Lit} (h : keyOf Try.prog 110 v = some kl) : ∃ r, R5 r ∧ v = recV r ∧ kl = klR r := by
  have h' := h
  obtain ⟨m, hm⟩ := sizeT
  unfold keyOf at h
  simp only [arrR.hu] at h
  split at h
  · next hf =>
    rw [Bool.and_eq_true] at hf
    have hfm := hf.2
    cases v with
    | agg cs =>
      simp only [Value.formed, arrR.hu, arrR.size, beq_iff_eq] at hfm
      obtain ⟨c0, c1, c2, c3, c4, rfl⟩ : ∃ c0 c1 c2 c3 c4, cs = #[c0, c1, c2, c3, c4] := by
        obtain ⟨l⟩ := cs
        match l, hfm with
        | [a, b, c, d, e], _ => exact ⟨a, b, c, d, e, rfl⟩
      rw [hm] at h
      unfold Program.keyLits at h
      simp only [arrR.hu, Value.cells] at h
      rw [if_pos (by rw [arrR.size]; rfl), show List.range 5 = [0, 1, 2, 3, 4] from rfl, List.mapM_cons, List.mapM_cons, List.mapM_cons, List.mapM_cons, List.mapM_cons, List.mapM_nil] at h
      simp only [arrR.one, Nat.mul_one, List.drop_zero, List.drop_succ_cons, List.take_succ_cons, List.take_zero, Option.map_eq_some_iff, bind, Option.bind_eq_some_iff, pure] at h
      obtain ⟨-, ⟨-, ⟨y0, h0, -, ⟨y1, h1, -, ⟨y2, h2, -, ⟨y3, h3, -, ⟨y4, h4, -⟩, -⟩, -⟩, -⟩, -⟩, -⟩, -⟩ := h
      obtain ⟨a0, rfl, v0⟩ := lit_one h0
      obtain ⟨a1, rfl, v1⟩ := lit_one h1
      obtain ⟨a2, rfl, v2⟩ := lit_one h2
      obtain ⟨a3, rfl, v3⟩ := lit_one h3
      obtain ⟨a4, rfl, v4⟩ := lit_one h4
      have hR : R5 [a0, a1, a2, a3, a4] := ⟨rfl, fun j hj => by
        rcases (show j = 0 ∨ j = 1 ∨ j = 2 ∨ j = 3 ∨ j = 4 by omega) with rfl | rfl | rfl | rfl | rfl
        · exact v0
        · exact v1
        · exact v2
        · exact v3
        · exact v4⟩
      have hk := keyOf_klR hR
      refine ⟨_, hR, rfl, ?_⟩
      rw [show recV [a0, a1, a2, a3, a4] = .agg #[.int .i64 a0, .int .i64 a1, .int .i64 a2, .int .i64 a3, .int .i64 a4] from rfl, h'] at hk
      exact Option.some.inj hk
    | _ => simp [Value.formed, arrR.hu] at hfm
  · cases h

/-- A value reads as itself. -/
def tokR (v : Value) : Option (DataW Value × List MemPlace) := some (.held v, [])
abbrev nilS : Value := .slice none 0 0
theorem zeroS (w : World) : (zeroValue 76).run Try.prog w = .ok nilS w := by kernel_rfl
/-- Block b is a map of at most n entries from records to slices that reads as D. -/
def MapR (w : World) (b n : Nat) (D : DataW Value) : Prop := w.ownsMap Try.prog 110 tokR b n D
section
variable (w : World) {ops : Array Oper} {rest : List Oper} {o : Oper} {a : Act} {Q : Exit → Act → World → Prop}
end
end Go.Proofs.Ytigecfbmdbpbhaa
namespace Go.Proofs.Ytigecfbmdbpbhaa
open Go.RowKit
open Go.Maps (Keyed)

theorem keyS : Keyed Try.prog 114 := Keyed.of_law (deep_law (m := 3) (by omega) (by kernel_rfl) (by kernel_rfl) (by kernel_rfl))
theorem typS : Try.prog.keyType 114 = true := by kernel_rfl
theorem sizS : Try.prog.cellsOf 114 = 6 := by kernel_rfl
/-- The value of the sides of a row: five ints and one. -/
def sidV (r : List Int) : Value := .agg #[.int .i64 (r.getD 0 0), .int .i64 (r.getD 1 0), .int .i64 (r.getD 2 0), .int .i64 (r.getD 3 0), .int .i64 (r.getD 4 0), .int .i64 (r.getD 5 0)]
/-- Six ints. -/
def S6 (r : List Int) : Prop := r.length = 6 ∧ ∀ j, j < 6 → (Lit.int .i64 (r.getD j 0)).wf = true
theorem s6_list {r : List Int} (h : S6 r) : r = [r.getD 0 0, r.getD 1 0, r.getD 2 0, r.getD 3 0, r.getD 4 0, r.getD 5 0] := by
  obtain ⟨h, -⟩ := h
  match r, h with
  | [a, b, c, d, e, f], _ => rfl
theorem sidV_inj {r s : List Int} (hr : S6 r) (hs : S6 s) (h : sidV r = sidV s) : r = s := by
  rw [s6_list hr, s6_list hs]
  unfold sidV at h
  simp only [Value.agg.injEq, Array.mk.injEq, List.cons.injEq, Value.int.injEq, true_and, and_true] at h
  obtain ⟨h0, h1, h2, h3, h4, h5⟩ := h
  rw [h0, h1, h2, h3, h4, h5]
theorem lits_int {m : Nat} {a : Int} (h : (Lit.int .i64 a).wf = true) : Try.prog.keyLits (m + 1) 3 [.int .i64 a] = some [.int .i64 a] := by
  unfold Program.keyLits
  simp [Try.underlying3, h]
theorem lits_rec {m : Nat} {a0 a1 a2 a3 a4 : Int} (w0 : (Lit.int .i64 a0).wf = true) (w1 : (Lit.int .i64 a1).wf = true) (w2 : (Lit.int .i64 a2).wf = true) (w3 : (Lit.int .i64 a3).wf = true) (w4 : (Lit.int .i64 a4).wf = true) :
    Try.prog.keyLits (m + 2) 110 [.int .i64 a0, .int .i64 a1, .int .i64 a2, .int .i64 a3, .int .i64 a4] = some [.int .i64 a0, .int .i64 a1, .int .i64 a2, .int .i64 a3, .int .i64 a4] := by
  unfold Program.keyLits
  simp only [arrR.hu]
  rw [if_pos (by rw [arrR.size]; rfl), show List.range 5 = [0, 1, 2, 3, 4] from rfl, List.mapM_cons, List.mapM_cons, List.mapM_cons, List.mapM_cons, List.mapM_cons, List.mapM_nil]
  simp [arrR.one, lits_int w0, lits_int w1, lits_int w2, lits_int w3, lits_int w4]
theorem sizeT2 : ∃ m, Try.prog.types.size = m + 2 := ⟨Try.prog.types.size - 2, by kernel_rfl⟩
theorem keyOf_sid {r : List Int} (h : S6 r) : ∃ kl, keyOf Try.prog 114 (sidV r) = some kl := by
  obtain ⟨m, hm⟩ := sizeT2
  obtain ⟨-, hw⟩ := h
  have w0 := hw 0 (by omega)
  have w1 := hw 1 (by omega)
  have w2 := hw 2 (by omega)
  have w3 := hw 3 (by omega)
  have w4 := hw 4 (by omega)
  have w5 := hw 5 (by omega)
  refine ⟨.string (keyBytes [.int .i64 (r.getD 0 0), .int .i64 (r.getD 1 0), .int .i64 (r.getD 2 0), .int .i64 (r.getD 3 0), .int .i64 (r.getD 4 0), .int .i64 (r.getD 5 0)]), ?_⟩
  unfold keyOf sidV
  generalize r.getD 0 0 = a0, r.getD 1 0 = a1, r.getD 2 0 = a2, r.getD 3 0 = a3, r.getD 4 0 = a4, r.getD 5 0 = a5 at *
  simp only [Try.underlying114]
  rw [if_pos (by simp [typS, Value.formed, Try.underlying114, sizS]), hm]
  unfold Program.keyLits
  simp only [Try.underlying114, Value.cells]
  rw [if_pos (by rw [sizS]; exact ⟨rfl, by simp⟩)]
  have e5 := @lits_rec (m) a0 a1 a2 a3 a4 w0 w1 w2 w3 w4
  have e1 := @lits_int (m + 1) a5 w5
  simp [arrR.size, arrR.one, e5, e1]
noncomputable def klS (r : List Int) : Lit := Classical.epsilon fun kl => keyOf Try.prog 114 (sidV r) = some kl
theorem keyOf_klS {r : List Int} (h : S6 r) : keyOf Try.prog 114 (sidV r) = some (klS r) := by
  exact Classical.epsilon_spec (keyOf_sid h)
theorem klS_inj {r s : List Int} (hr : S6 r) (hs : S6 s) (h : klS r = klS s) : r = s := by
  have h1 := keyOf_klS hr
  rw [h] at h1
  exact sidV_inj hr hs (keyS.inj h1 (keyOf_klS hs))
theorem klS_key {r : List Int} (h : S6 r) : WideAt.IsKeyLit (klS r) := keyS.key (keyOf_klS h)
/-- Block b is a map of at most n entries from sides to numbers: f's, 0 where it has none. -/
def MapT (w : World) (b n : Nat) (f : List Int → Nat) : Prop :=
  ∃ D : DataW Unit, w.ownsMap Try.prog 114 (plainElem Try.prog 3) b n D ∧ ∀ x, S6 x → D.atKey (klS x) (.lit (.int .i64 0)) = .lit (.int .i64 (f x : Int))
/-- The same from records; only those with a number above 0 are there. -/
def MapQ (w : World) (b n : Nat) (f : List Int → Nat) : Prop :=
  ∃ D : DataW Unit, w.ownsMap Try.prog 110 (plainElem Try.prog 3) b n D ∧ ∀ x, R5 x → Maps.has D (klR x) = decide (f x ≠ 0) ∧ D.atKey (klR x) (.lit (.int .i64 0)) = .lit (.int .i64 (f x : Int))
theorem zeroJ (w : World) : (zeroValue 3).run Try.prog w = .ok (.int .i64 0) w := by kernel_rfl
theorem MapT.made (w : World) : MapT (w.alloc (.map #[] 0)) w.heap.size 0 (fun _ => 0) := ⟨.map [], World.ownsMap_made _ _ _ _, fun _ _ => rfl⟩
theorem MapQ.made (w : World) : MapQ (w.alloc (.map #[] 0)) w.heap.size 0 (fun _ => 0) := ⟨.map [], World.ownsMap_made _ _ _ _, fun _ _ => ⟨rfl, rfl⟩⟩
theorem MapT.congr {w : World} {b n : Nat} {f g : List Int → Nat} (h : MapT w b n f) (e : ∀ x, f x = g x) : MapT w b n g := by
  have : f = g := funext e
  exact this ▸ h
theorem MapQ.congr {w : World} {b n : Nat} {f g : List Int → Nat} (h : MapQ w b n f) (e : ∀ x, f x = g x) : MapQ w b n g := by
  have : f = g := funext e
  exact this ▸ h
theorem MapT.lt {w : World} {b n : Nat} {f : List Int → Nat} (h : MapT w b n f) : b < w.heap.size := by
  obtain ⟨D, h1, -⟩ := h; exact h1.lt
theorem MapQ.lt {w : World} {b n : Nat} {f : List Int → Nat} (h : MapQ w b n f) : b < w.heap.size := by
  obtain ⟨D, h1, -⟩ := h; exact h1.lt
theorem MapT.kept {w w' : World} {b n : Nat} {f : List Int → Nat} {row : Option Nat} (h : MapT w b n f) (hg : w.grownBy w' row) (hne : some b ≠ row) : MapT w' b n f := by
  obtain ⟨D, h1, h2⟩ := h; exact ⟨D, h1.kept hg hne, h2⟩
theorem MapQ.kept {w w' : World} {b n : Nat} {f : List Int → Nat} {row : Option Nat} (h : MapQ w b n f) (hg : w.grownBy w' row) (hne : some b ≠ row) : MapQ w' b n f := by
  obtain ⟨D, h1, h2⟩ := h; exact ⟨D, h1.kept hg hne, h2⟩
theorem MapT.below {w w' : World} {b n C : Nat} {f : List Int → Nat} (h : MapT w b n f) (hb : Below C w w') (hC : b < C) : MapT w' b n f := by
  obtain ⟨D, h1, h2⟩ := h
  obtain ⟨es, clock, h3, r⟩ := h1
  exact ⟨D, ⟨es, clock, (hb.block b hC).trans h3, r⟩, h2⟩
theorem MapQ.below {w w' : World} {b n C : Nat} {f : List Int → Nat} (h : MapQ w b n f) (hb : Below C w w') (hC : b < C) : MapQ w' b n f := by
  obtain ⟨D, h1, h2⟩ := h
  obtain ⟨es, clock, h3, r⟩ := h1
  exact ⟨D, ⟨es, clock, (hb.block b hC).trans h3, r⟩, h2⟩
/-- The two maps are two blocks. -/
theorem MapT.store {w' : World} {b n : Nat} {f : List Int → Nat} {D : DataW Unit} {r : List Int} {c : Nat} (h : w'.ownsMap Try.prog 114 (plainElem Try.prog 3) b (n + 1) (D.put (klS r) (.lit (.int .i64 (c : Int))))) (hr : S6 r) (hD : Maps.IsMap D)
    (h2 : ∀ x, S6 x → D.atKey (klS x) (.lit (.int .i64 0)) = .lit (.int .i64 (f x : Int))) : MapT w' b (n + 1) (fun x => if x = r then c else f x) := by
  refine ⟨_, h, fun x hx => ?_⟩
  by_cases hxr : x = r
  · subst hxr
    have hkk := @klS_key x hr
    rw [Go.Maps.atKey_put_same (k := klS x) hD hkk]; simp
  · rw [Go.Maps.atKey_put_other (fun e => hxr (klS_inj hx hr e))]
    simpa only [if_neg hxr] using h2 x hx
theorem MapQ.store {w' : World} {b n : Nat} {f : List Int → Nat} {D : DataW Unit} {r : List Int} {c : Nat} (h : w'.ownsMap Try.prog 110 (plainElem Try.prog 3) b (n + 1) (D.put (klR r) (.lit (.int .i64 (c : Int))))) (hr : R5 r) (hD : Maps.IsMap D) (hc : c ≠ 0)
    (h2 : ∀ x, R5 x → Maps.has D (klR x) = decide (f x ≠ 0) ∧ D.atKey (klR x) (.lit (.int .i64 0)) = .lit (.int .i64 (f x : Int))) : MapQ w' b (n + 1) (fun x => if x = r then c else f x) := by
  refine ⟨_, h, fun x hx => ?_⟩
  by_cases hxr : x = r
  · subst hxr
    have hkk := @klR_key x hr
    rw [Go.Maps.has_put_same (k := klR x) hD hkk, Go.Maps.atKey_put_same (k := klR x) hD hkk]
    simp [hc]
  · rw [Go.Maps.has_put_other (fun e => hxr (klR_inj hx hr e)), Go.Maps.atKey_put_other (fun e => hxr (klR_inj hx hr e))]
    simpa only [if_neg hxr] using h2 x hx
section
variable (w : World) {ops : Array Oper} {rest : List Oper} {o : Oper} {a : Act} {Q : Exit → Act → World → Prop}
end
end Go.Proofs.Ytigecfbmdbpbhaa
