/- Texts of this claim, merged: TrI, TrJ, FnTrB. Conditions: as stated. -/
import Derived.Test.YtnbjcelfdppkcabTz22
import Derived.Test.YtnbjcelfdppkcabTz8
import Derived.Test.YtnbjcelfdppkcabAgrDraw2m
import Derived.Test.YtnbjcelfdppkcabTz13
import Derived.Test.YtnbjcelfdppkcabTz14
import Derived.Test.YtnbjcelfdppkcabTpDm
import Derived.Test.YtnbjcelfdppkcabTz25
import Derived.Test.YtnbjcelfdppkcabTrGm
import Derived.Test.YtnbjcelfdppkcabTz20
namespace Go.Proofs.Ytnbjcelfdppkcab
open Go.RowKit

/-- A list of sets, and a number. -/
def DrawnLI (w : World) (e : Ending) (w' : World) : Prop := ∃ (u : Value) (l : List Int) (q : Int), e = .returned (.tuple #[u, .int .i64 q]) ∧ l.length ≤ 500 ∧ (∀ x ∈ l, -9223372036854775808 ≤ x ∧ x ≤ 9223372036854775807) ∧ (-1000 ≤ q ∧ q ≤ 1000) ∧ ReadI w' u l ∧ Below w.heap.size w w'
theorem OwnI.cur9 {w w' : World} {B c : Nat} {u : Value} {l : List Int} (h : OwnI w B u l) (hg : w.grownBy w' (some c)) (hc : c < B) : OwnI w' B u l :=
  h.keptBy hg (fun g e1 e2 => by cases e1; have := (h.lt _ e2).1; omega)
section
set_option maxRecDepth 20000
set_option maxHeartbeats 1600000
theorem drawHitsAll9_any (W : World) (v : Value) (n : Nat) (hn : n ≤ 1048576) (hcode : CodeAt W v n) (w : World) (hb : Below W.heap.size W w) :
    Calls Try.prog 12 #[v] w (DrawnLI w) := by
  have H1 := Lib.hid (new_any W v n hn hcode w hb)
  have H2 := Lib.hid (list4_any W v n hn hcode)
  have H3 := Lib.hid (anySet_any W v n hn hcode)
  obtain ⟨a, cap, rfl⟩ := code_slice hcode
  go_enter Try.func12, Try.ntmps12
  go_wp2_with fail
  refine H1.out.mono ?_
  rintro e w1 ⟨c, hc, rfl, g1, hc1⟩
  have B1 := (Below.refl w.heap.size w).grown g1 (Nat.le_refl _) (by simp)
  have hcw := hc1.lt
  go_wp2_with fail
  refine (H2.out c w1 hc1).mono ?_
  rintro e w2 ⟨u, l, rfl, hl, hlx, ho, g2, hc2⟩
  have B2 := B1.grown g2 B1.size (fun k e => by cases e; exact hc)
  clear g1 g2
  go_wp2_with fail
  refine (H3.out c w2 hc2).mono ?_
  rintro e w3 ⟨x, x0, x1, rfl, g3, hc3⟩
  have B3 := B2.grown g3 B2.size (fun k e => by cases e; exact hc)
  have ho3 := ho.cur9 g3 hcw
  clear g3 ho
  go_wp2_with fail
  exact bodyPost_ret (v := .tuple #[u, .int .i64 x]) (by simp [results, Try.results12, go_sem]) rfl ⟨_, l, x, rfl, by omega, (fun z hz => by have := hlx z hz; omega), by omega, ho3.read, B3⟩
theorem drawTransversals9_any (W : World) (v : Value) (n : Nat) (hn : n ≤ 1048576) (hcode : CodeAt W v n) (w : World) (hb : Below W.heap.size W w) :
    Calls Try.prog 5 #[v] w (DrawnLI w) := by
  have H1 := Lib.hid (new_any W v n hn hcode w hb)
  have H2 := Lib.hid (list4_any W v n hn hcode)
  have H3 := Lib.hid (below_any W v n hn hcode)
  obtain ⟨a, cap, rfl⟩ := code_slice hcode
  go_enter Try.func5, Try.ntmps5
  go_wp2_with fail
  refine H1.out.mono ?_
  rintro e w1 ⟨c, hc, rfl, g1, hc1⟩
  have B1 := (Below.refl w.heap.size w).grown g1 (Nat.le_refl _) (by simp)
  have hcw := hc1.lt
  go_wp2_with fail
  refine (H2.out c w1 hc1).mono ?_
  rintro e w2 ⟨u, l, rfl, hl, hlx, ho, g2, hc2⟩
  have B2 := B1.grown g2 B1.size (fun k e => by cases e; exact hc)
  clear g1 g2
  go_wp2_with fail
  refine (H3.out c w2 hc2 2 (by omega) (by omega)).mono ?_
  rintro e w3 ⟨x, x0, x1, rfl, g3, hc3⟩
  have B3 := B2.grown g3 B2.size (fun k e => by cases e; exact hc)
  have ho3 := ho.cur9 g3 hcw
  clear g3 ho
  go_wp2_with fail
  refine (H3.out c w3 hc3 7 (by omega) (by omega)).mono ?_
  rintro e w4 ⟨y, y0, y1, rfl, g4, hc4⟩
  have B4 := B3.grown g4 B3.size (fun k e => by cases e; exact hc)
  have ho4 := ho3.cur9 g4 hcw
  have hb1 : 0 ≤ x * y ∧ x * y ≤ 6 := by
    rcases (show x = 0 ∨ x = 1 by omega) with rfl | rfl
    · omega
    · omega
  obtain ⟨z, hz⟩ : ∃ z, z = x * y := ⟨_, rfl⟩
  have hw1 : IntKind.i64.wrap (x * y) = z := by rw [← hz, IntWalk.i64_in _ (by omega)]
  have hw2 : IntKind.i64.wrap (5 - z) = 5 - z := IntWalk.i64_in _ (by omega)
  have hw3 : wrap64 (x * y) = z := by rw [← IntWalk.i64_left]; exact hw1
  have hw4 : wrap64 (5 - z) = 5 - z := by rw [← IntWalk.i64_left]; exact hw2
  rw [← hz] at hb1
  clear g4 ho3 hz
  go_wp2_with fail
  exact bodyPost_ret (v := .tuple #[u, .int .i64 (5 - z)]) (by simp [results, Try.results5, go_sem]) rfl ⟨_, l, _, rfl, by omega, (fun z hz => by have := hlx z hz; omega), by omega, ho4.read, B4⟩
theorem drawGrow9_any (W : World) (v : Value) (n : Nat) (hn : n ≤ 1048576) (hcode : CodeAt W v n) (w : World) (hb : Below W.heap.size W w) :
    Calls Try.prog 11 #[v] w (DrawnLI w) := by
  have H1 := Lib.hid (new_any W v n hn hcode w hb)
  have H2 := Lib.hid (list4_any W v n hn hcode)
  have H3 := Lib.hid (anySet_any W v n hn hcode)
  have H4 := Lib.hid (once_any W v n hn hcode)
  have H5 := Lib.hid (fun (v : Value) (E : List Int) w' (h : ReadI w' v E) (hl : E.length ≤ 1048576) => trans9_any v E 5 w' h hl)
  obtain ⟨a, cap, rfl⟩ := code_slice hcode
  go_enter Try.func11, Try.ntmps11
  go_wp2_with fail
  refine H1.out.mono ?_
  rintro e w1 ⟨c, hc, rfl, g1, hc1⟩
  have B1 := (Below.refl w.heap.size w).grown g1 (Nat.le_refl _) (by simp)
  have hcw := hc1.lt
  go_wp2_with fail
  refine (H2.out c w1 hc1).mono ?_
  rintro e w2 ⟨u, l, rfl, hl, hlx, ho, g2, hc2⟩
  have B2 := B1.grown g2 B1.size (fun k e => by cases e; exact hc)
  have s2 := g2.size
  clear g1 g2
  go_wp2_with fail
  refine (H5.out u l _ ho.read (by omega)).mono ?_
  rintro e w3 ⟨v3, rfl, o3, b3⟩
  have B3 := B2.trans (b3.mono B2.size)
  have ho3 := o3.base (B' := w1.heap.size) s2
  have hc3 := hc2.kept (row := none) ⟨b3.os, b3.tape, b3.output, b3.size, fun k hk _ => b3.block k hk⟩ (by simp) (by simp)
  have hq : (trL l 5).length ≤ 500 := by
    unfold trL
    split
    · exact trTo_len _ _
    · exact Nat.zero_le _
  have HQV : Hid (∀ z ∈ trL l 5, -9223372036854775808 ≤ z ∧ z ≤ 9223372036854775807) := Lib.hid (fun z hz => by
    obtain ⟨-, X, rfl, hX, -⟩ := tr_hits hz
    omega)
  obtain ⟨q, hqq⟩ : ∃ q, q = trL l 5 := ⟨_, rfl⟩
  rw [← hqq] at ho3 hq HQV
  clear b3 o3 ho hqq hl hlx
  go_wp2_with fail
  refine (H4.out c w3 hc3 4 (by omega) (by omega)).mono ?_
  rintro e w4 ⟨bq, rfl, g4, hc4⟩
  have B4 := B3.grown g4 B3.size (fun k e => by cases e; exact hc)
  have ho4 := ho3.cur9 g4 hcw
  have s4 := g4.size
  have s3 := B3.size
  clear g4 ho3
  cases bq with
  | true =>
    go_wp2_with fail
    refine (H2.out c w4 hc4).mono ?_
    rintro e w5 ⟨u5, l5, rfl, hl5, hlx5, ho5, g5, hc5⟩
    have B5 := B4.grown g5 B4.size (fun k e => by cases e; exact hc)
    have hcw4 := hc4.lt
    clear g5 ho4
    go_wp2_with fail
    refine (H3.out c w5 hc5).mono ?_
    rintro e w6 ⟨x, x0, x1, rfl, g6, hc6⟩
    have B6 := B5.grown g6 B5.size (fun k e => by cases e; exact hc)
    have ho6 := ho5.cur9 g6 hcw4
    clear g6 ho5
    go_wp2_with fail
    exact bodyPost_ret (v := .tuple #[u5, .int .i64 x]) (by simp [results, Try.results11, go_sem]) rfl ⟨_, l5, x, rfl, by omega, (fun z hz => by have := hlx5 z hz; omega), by omega, ho6.read, B6⟩
  | false =>
    go_wp2_with fail
    refine (H3.out c w4 hc4).mono ?_
    rintro e w6 ⟨x, x0, x1, rfl, g6, hc6⟩
    have B6 := B4.grown g6 B4.size (fun k e => by cases e; exact hc)
    have ho6 := ho4.cur9 g6 hcw
    clear g6 ho4
    go_wp2_with fail
    exact bodyPost_ret (v := .tuple #[v3, .int .i64 x]) (by simp [results, Try.results11, go_sem]) rfl ⟨_, q, x, rfl, by omega, HQV.out, by omega, ho6.read, B6⟩
end
end Go.Proofs.Ytnbjcelfdppkcab
namespace Go.Proofs.Ytnbjcelfdppkcab
open Go.RowKit

def DrawnTI (w : World) (e : Ending) (w' : World) : Prop :=
  ∃ (cc : Int) (u : Value) (ll : List (List Int)) (q : Int), -1 ≤ q ∧ q ≤ 2 ∧ e = .returned (.tuple #[.agg #[.int .i64 cc, u], .int .i64 q]) ∧ ll.length ≤ 20 ∧ (∀ r ∈ ll, r.length ≤ 10) ∧ CapOk u ∧ ReadSS w' u ll ∧ Below w.heap.size w w'
section
set_option maxRecDepth 20000
set_option maxHeartbeats 3200000
theorem drawDepsT9_any (W : World) (v : Value) (n : Nat) (hn : n ≤ 1048576) (hcode : CodeAt W v n) (w : World) (hb : Below W.heap.size W w) :
    Calls Try.prog 13 #[v] w (DrawnTI w) := by
  have hg0 : w.grownBy (w.alloc (.cells #[.int .i64 0, .slice none 0 0] 32)) none := World.grownBy_alloc w _ _
  have hz0 : BoxIs (w.alloc (.cells #[.int .i64 0, .slice none 0 0] 32)) w.heap.size 0 (.slice none 0 0) := heap_alloc_new w _
  have hs0 : w.heap.size + 1 ≤ (w.alloc (.cells #[.int .i64 0, .slice none 0 0] 32)).heap.size := by simp
  have H1 := Lib.hid (new_any W v n hn hcode _ (hb.alloc hb.size (.cells #[.int .i64 0, .slice none 0 0] 32)))
  have H2 := Lib.hid (draw4_any W v n hn hcode)
  obtain ⟨a, cap, rfl⟩ := code_slice hcode
  go_enter Try.func13, Try.ntmps13
  go_wp2_with fail
  refine H1.out.mono ?_
  rintro e w1 ⟨c, hc, rfl, g1, hc1⟩
  go_wp2_with fail
  refine (H2.out c w1 hc1).mono ?_
  rintro e w2 ⟨cc, u, ll, md, md0, md1, rfl, hll, hlr, hss, g2, hc2⟩
  have s1 := g1.size
  have s2 := g2.size
  have hz := (hz0.grown g1 (by simp)).grown g2 (by simp; omega)
  have hg := grown_above (grown_trans hg0 g1) g2 (fun g e => by simp at e; omega)
  obtain ⟨au, cu, rfl, -⟩ := hss.read
  replace hz := hz.grown (World.grownBy_alloc w2 (.cells #[.int .i64 cc, .slice au ll.length cu] 32) none) (by simp)
  replace hg := grown_trans hg (World.grownBy_alloc w2 (.cells #[.int .i64 cc, .slice au ll.length cu] 32) none)
  replace hss := hss.same (w' := w2.alloc (.cells #[.int .i64 cc, .slice au ll.length cu] 32)) (fun g _ hg => Below.heap_alloc _ _ _ hg)
  have HF := Lib.hid (FinT.mk (cc := cc) hz (hss.base (by omega) (Nat.le_refl _)) (by simp) hg)
  obtain ⟨⟨d0, d1⟩, f0, f1⟩ := hz.cells
  obtain ⟨⟨r0, r1⟩, -, -⟩ := HF.out.1.cells
  have HR := Lib.hid (And.intro r0 r1)
  clear r0 r1 hz hg hss hz0 hg0 hs0 g1 g2 hc1 hc2
  go_wp2_with fail
  exact bodyPost_ret (v := .tuple #[.agg #[.int .i64 cc, .slice au ll.length cu], .int .i64 md]) (by simp [results, Try.results13, go_sem, HR.out.1, HR.out.2]) rfl ⟨_, _, ll, md, by omega, by omega, rfl, hll, hlr, HF.out.2.1.capOk, HF.out.2.1.read, (Below.refl _ w).grown HF.out.2.2 (Nat.le_refl _) (by simp)⟩
end
end Go.Proofs.Ytnbjcelfdppkcab
namespace Go.Proofs.Ytnbjcelfdppkcab
open Go.RowKit

theorem drop9 : ∀ (Y : Fin 32) (k : Fin 5), bitB Y.val k.val = true → bits .andNot .i64 ((Y.val : Nat) : Int) (IntKind.i64.wrap (2 ^ k.val)) = ((Y.val - 2 ^ k.val : Nat) : Int) := by decide +kernel
structure TA (E : List Int) (n : Int) (X : List Int) : Prop where
  t1 : ∀ w' v, ReadI w' v E → Calls Try.prog 6 #[v, .int .i64 n] w' (RetI X w')
  t2 : ∀ w' v, ReadI w' v E → Calls Try.prog 8 #[v, .int .i64 n] w' (RetI X w')
  h1 : ∀ w' v x, ReadI w' v E → x ∈ X → Calls Try.prog 9 #[v, .int .i64 x] w' fun e w'' => e = .returned (.bool true) ∧ w' = w''
  h2 : ∀ w' v (Y k : Nat), ReadI w' v E → (Y : Int) ∈ X → k < 5 → bitB Y k = true → Calls Try.prog 10 #[v, .int .i64 (bits .andNot .i64 (Y : Int) (IntKind.i64.wrap (2 ^ k)))] w' fun e w'' => e = .returned (.bool false) ∧ w' = w''
  len : X.length ≤ 10
  nat : ∀ x ∈ X, ∃ Y : Nat, x = (Y : Int) ∧ Y < 32
theorem ta_of {E : List Int} {n : Int} (hl : E.length ≤ 1048576) (hI : I64s E) : ∃ X, TA E n X := by
  refine ⟨trL E n, fun w' v h => implTrans_any v E n w' h hl hI, fun w' v h => trans9_any v E n w' h hl, fun w' v x h hx => ?_, fun w' v Y k h hx hk hb => ?_, trL_ten _ _, fun x hx => ?_⟩
  · obtain ⟨h1, X, rfl, hX, -⟩ := tr_hits hx
    have := implHits_any v E (X : Int) w' h hl hI (by omega) (by omega)
    rw [h1] at this
    exact this
  · obtain ⟨-, X, e, hX, h2⟩ := tr_hits hx
    obtain rfl : Y = X := by omega
    have h3 := drop9 ⟨Y, hX⟩ ⟨k, hk⟩ hb
    simp only at h3
    rw [h3]
    have := hitsAll9_any v E ((Y - 2 ^ k : Nat) : Int) w' h hl
    rw [h2 k hk hb] at this
    exact this
  · obtain ⟨-, X, rfl, hX, -⟩ := tr_hits hx
    exact ⟨X, rfl, hX⟩
structure TG (A : List Int) (e : Int) (G : List Int) : Prop where
  g1 : ∀ w' v, ReadI w' v A → Calls Try.prog 14 #[v, .int .i64 e] w' (RetI G w')
  g2 : ∀ w' v, ReadI w' v A → Calls Try.prog 15 #[v, .int .i64 e] w' (RetI G w')
  len : G.length ≤ 1000000000
theorem tg_of {A : List Int} {e : Int} (hl : A.length ≤ 1048576) (hI : I64s A) (h0 : -1000 ≤ e) (h1 : e ≤ 1000) : ∃ G, TG A e G :=
  ⟨grwL A e, fun w' v h => implGrow_any v A e w' h hl hI (by omega) (by omega), fun w' v h => grow9_any v A e w' h hl, by have := grwL_len A e; omega⟩
structure TH (E : List Int) (x : Int) (b : Bool) : Prop where
  h1 : ∀ w' v, ReadI w' v E → Calls Try.prog 9 #[v, .int .i64 x] w' fun e w'' => e = .returned (.bool b) ∧ w' = w''
  h2 : ∀ w' v, ReadI w' v E → Calls Try.prog 10 #[v, .int .i64 x] w' fun e w'' => e = .returned (.bool b) ∧ w' = w''
theorem th_of {E : List Int} {x : Int} (hl : E.length ≤ 1048576) (hI : I64s E) (h0 : -1000 ≤ x) (h1 : x ≤ 1000) : ∃ b, TH E x b :=
  ⟨hitsA E x, fun w' v h => implHits_any v E x w' h hl hI (by omega) (by omega), fun w' v h => hitsAll9_any v E x w' h hl⟩
structure TD (c : Int) (u : Value) (ll : List (List Int)) (m : Int) (D : List (Int × Int)) : Prop where
  d1 : ∀ w', ReadSS w' u ll → Calls Try.prog 17 #[.agg #[.int .i64 c, u], .int .i64 m] w' (RetD D w')
  d2 : ∀ w', ReadSS w' u ll → Calls Try.prog 18 #[.agg #[.int .i64 c, u], .int .i64 m] w' (RetD D w')
  sd : ∀ w' v v', ReadD w' v D → ReadD w' v' D → Calls Try.prog 16 #[v, v'] w' fun e w'' => e = .returned (.bool true) ∧ Below w'.heap.size w' w''
theorem td_of {c m : Int} {u : Value} {ll : List (List Int)} (hl : ll.length ≤ 1048576) (ht : ∀ i, i < ll.length → (ll.getD i []).length ≤ 1048576) (hcap : CapOk u) : ∃ D, TD c u ll m D :=
  ⟨dtL c ll m, fun w' h => implDepsT_any c m u ll w' h hl ht hcap, fun w' h => depsT9_any c m u ll w' h hl ht, fun w' v v' h h' => (sameDeps_any v v' _ _ w' h h' (by have := dtL_len c ll m; omega)).mono fun _ _ ⟨a, b⟩ => ⟨by rw [a, decide_eq_true rfl], b⟩⟩
/-- A table in a box of its own, in readable memory. -/
def TBX (x : World) (T : Nat) (c : Int) (u : Value) (ll : List (List Int)) : Prop := (x.cell? ⟨T, 0, none⟩ = some (.int .i64 c) ∧ x.cell? ⟨T, 1, none⟩ = some u) ∧ ReadSS x u ll
theorem TBX.new {w : World} {c : Int} {u : Value} {ll : List (List Int)} (s : ReadSS w u ll) : TBX (w.alloc (.cells #[.int .i64 c, u] 32)) w.heap.size c u ll :=
  ⟨zero2 w 32 (.int .i64 c) u, s.kept ((Below.refl _ _).alloc (Nat.le_refl _) _)⟩
theorem few {ll : List (List Int)} (h : ∀ r ∈ ll, r.length ≤ 10) : ∀ i, i < ll.length → (ll.getD i []).length ≤ 1048576 := fun i hi => by
  have := h (ll.getD i []) (by rw [List.getD_eq_getElem?_getD, List.getElem?_eq_getElem hi]; exact List.getElem_mem hi)
  omega
theorem eqB_self (l : List Int) : eqB l l = true := by simp [eqB]
theorem readI_at {w : World} {a : Option Addr} {n cap : Nat} {l : List Int} (h : ReadI w (.slice a n cap) l) {i : Nat} (hi : i < l.length) : ∃ x, a = some x ∧ w.cell? (x.add i) = some (.int .i64 l[i]) := by
  obtain ⟨a', cap', hv, hc⟩ := h
  cases hv
  exact hc i hi
theorem same_any (X : List Int) (v v' : Value) (w' : World) (hX : X.length ≤ 1000000000) (h : ReadI w' v X) (h' : ReadI w' v' X) : Calls Try.prog 7 #[v, v'] w' fun e w'' => e = .returned (.bool true) ∧ Below w'.heap.size w' w'' :=
  (sameInts_any v v' X X w' h h' hX).mono fun _ _ ⟨x, m, y⟩ => ⟨by rw [x, eqB_self], by rw [y]; exact below_drewN (Below.refl _ _) m⟩
end Go.Proofs.Ytnbjcelfdppkcab
