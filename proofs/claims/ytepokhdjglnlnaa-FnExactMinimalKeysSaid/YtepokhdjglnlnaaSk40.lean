/- Texts of this claim, merged: MarkD, TabOpen, DepO, DepL. Conditions: as stated. -/
import Derived.Test.YtepokhdjglnlnaaSk16
import Derived.Test.YtepokhdjglnlnaaSk2
import Derived.Deep.Matrix
import Derived.Lib.SmallJoins
import Derived.Deep.RegionHeld3
import Derived.Deep.RegionWith
import Derived.Test.YtepokhdjglnlnaaSk15
import Derived.Deep.SlicePairs
import Derived.Test.YtepokhdjglnlnaaSk18
namespace Go.Proofs.Ytepokhdjglnlnaa
open Go.RowKit

/-- k, k + 1; k + 2, k + 3; and so on. -/
def upD (k : Int) (n : Nat) : List (Int × Int) := (List.range n).map fun (j : Nat) => (k + 2 * (j : Int), k + 2 * (j : Int) + 1)
theorem upD_length (k : Int) (n : Nat) : (upD k n).length = n := by simp [upD]
theorem upD_get (k : Int) (n j : Nat) (h : j < n) : (upD k n).getD j (0, 0) = (k + 2 * (j : Int), k + 2 * (j : Int) + 1) := by
  rw [List.getD_eq_getElem?_getD, List.getElem?_eq_getElem (by rw [upD_length]; exact h)]
  simp [upD]
theorem upD_start (k : Int) (l : List (Int × Int)) : upD k 0 ++ l.drop 0 = l := by simp [upD]
theorem upD_step (k : Int) (l : List (Int × Int)) (j : Nat) (h : j < l.length) : (upD k j ++ l.drop j).set j (k + 2 * (j : Int), k + 2 * (j : Int) + 1) = upD k (j + 1) ++ l.drop (j + 1) := by
  have e : upD k (j + 1) = upD k j ++ [(k + 2 * (j : Int), k + 2 * (j : Int) + 1)] := by simp [upD, List.range_succ]
  rw [List.set_append, if_neg (by rw [upD_length]; omega), upD_length, Nat.sub_self, List.drop_eq_getElem_cons h, e, List.append_assoc]
  rfl
theorem OwnD.num {w : World} {B g n cap : Nat} {ds : List (Int × Int)} (h : OwnD w B (.slice (some ⟨g, 0, none⟩) n cap) ds) : n = ds.length := by
  rcases h.2 with ⟨h', _⟩ | ⟨g', cap', cur, h', _⟩ <;> simp at h'; omega
theorem OwnD.cells2 {w : World} {B g n cap : Nat} {ds : List (Int × Int)} (h : OwnD w B (.slice (some ⟨g, 0, none⟩) n cap) ds) (j : Nat) (hj : j < ds.length) :
    (w.cell? ⟨g, j * 2, none⟩ = some (.int .i64 (ds.getD j (0, 0)).1) ∧ w.cell? ⟨g, j * 2 + 1, none⟩ = some (.int .i64 (ds.getD j (0, 0)).2)) ∧ w.frozen? ⟨g, j * 2, none⟩ = false ∧ w.frozen? ⟨g, j * 2 + 1, none⟩ = false := by
  have hn := h.num
  subst hn
  exact ⟨⟨by rw [World.ownsRow.cellAt h (j * 2) (by omega), (depsV_get ds j hj).1], by rw [World.ownsRow.cellAt h (j * 2 + 1) (by omega), (depsV_get ds j hj).2]⟩, World.ownsRow.frozenAt h _, World.ownsRow.frozenAt h _⟩
theorem OwnD.store2 {w : World} {B g n cap : Nat} {ds : List (Int × Int)} (h : OwnD w B (.slice (some ⟨g, 0, none⟩) n cap) ds) (j : Nat) (a b : Int) :
    OwnD ((w.setCell ⟨g, j * 2, none⟩ (.int .i64 a)).setCell ⟨g, j * 2 + 1, none⟩ (.int .i64 b)) B (.slice (some ⟨g, 0, none⟩) n cap) (ds.set j (a, b)) ∧ w.grownBy ((w.setCell ⟨g, j * 2, none⟩ (.int .i64 a)).setCell ⟨g, j * 2 + 1, none⟩ (.int .i64 b)) (some g) := by
  refine ⟨h.store j a b, ?_⟩
  have hn := h.num
  subst hn
  obtain ⟨h1, h2⟩ := World.ownsRow.stored h (j * 2) (.int .i64 a)
  obtain ⟨h3, h4⟩ := World.ownsRow.stored h1 (j * 2 + 1) (.int .i64 b)
  exact ⟨h4.os.trans h2.os, h4.tape.trans h2.tape, h4.output.trans h2.output, Nat.le_trans h2.size h4.size, fun q hq hne => (h4.block q (Nat.lt_of_lt_of_le hq h2.size) hne).trans (h2.block q hq hne)⟩
set_option maxHeartbeats 1600000 in
theorem markD_any (v : Value) (ds : List (Int × Int)) (k : Int) (B : Nat) (w : World) (ho : OwnD w B v ds) (hl : ds.length ≤ 1048576) (hk0 : -1000000000 ≤ k) (hk1 : k ≤ 1000000000) :
    Calls Try.prog 16 #[v, .int .i64 k] w fun e w' => e = .returned (.int .i64 (k + 2 * (ds.length : Int))) ∧ OwnD w' B v (upD k ds.length) ∧ w.grownBy w' v.ownBlock := by
  rcases ho.2 with ⟨rfl, h0⟩ | ⟨g, cap, cur, rfl, hBg, hgg, -⟩
  · obtain rfl : ds = [] := List.eq_nil_of_length_eq_zero h0
    go_enter Try.func16, Try.ntmps16
    go_wp2_with fail
    refine wp_loop_rounds 1 ?_
    rw [rounds_succ]
    go_wp2_with fail
    go_ret
    exact ⟨ret_int (by simp), by simpa [upD] using ho, World.grownBy.refl _ _⟩
  · clear hgg
    go_enter Try.func16, Try.ntmps16
    go_wp2_with fail
    go_loopw [1, 5] (fun kv iv wr => ∃ j : Nat, j ≤ ds.length ∧ kv = .int .i64 (k + 2 * (j : Int)) ∧ iv = .int .i64 (j : Int) ∧ OwnD wr B (.slice (some ⟨g, 0, none⟩) ds.length cap) (upD k j ++ ds.drop j) ∧ w.grownBy wr (some g)) (fun _ iv _ => ds.length - (intOf iv).toNat)
    case atStart => exact ⟨0, by omega, by simp, rfl, by rw [upD_start]; exact ho, World.grownBy.refl _ _⟩
    case round =>
      clear ho
      obtain ⟨j, hj, rfl, rfl, ho', hg⟩ := hrel
      by_cases hlt : j < ds.length
      · obtain ⟨⟨h0, h1⟩, f0, f1⟩ := ho'.cells2 j (by rw [List.length_append, upD_length, List.length_drop]; omega)
        have z0 : (0 : Int) ≤ (j : Int) := by omega
        have z1 : (j : Int) < (ds.length : Int) := by omega
        have z2 : IntKind.i64.wrap (k + 2 * (j : Int) + 1) = k + 2 * (j : Int) + 1 := IntWalk.i64_in _ (by omega)
        have z3 : IntKind.i64.wrap (k + 2 * (j : Int) + 1 + 1) = k + 2 * (j : Int) + 1 + 1 := IntWalk.i64_in _ (by omega)
        obtain ⟨s1, s2⟩ := ho'.store2 j (k + 2 * (j : Int)) (k + 2 * (j : Int) + 1)
        rw [upD_step k ds j hlt] at s1
        have S1 := Lib.hid s1
        have S2 := Lib.hid s2
        have HG := Lib.hid hg
        clear s1 s2 hg ho'
        go_wp2_with fail
        go_roundw
        case rel => exact ⟨j + 1, by omega, by go_num, by go_num, S1.out, ⟨S2.out.os.trans HG.out.os, S2.out.tape.trans HG.out.tape, S2.out.output.trans HG.out.output, Nat.le_trans HG.out.size S2.out.size, fun q hq hne => (S2.out.block q (Nat.lt_of_lt_of_le hq HG.out.size) hne).trans (HG.out.block q hq hne)⟩⟩
        case measure => simp [intOf]; omega
      · obtain rfl : j = ds.length := by omega
        go_wp2_with fail
        go_ret
        rw [List.drop_eq_nil_of_le (Nat.le_refl _), List.append_nil] at ho'
        exact ⟨rfl, ho', hg⟩
set_option maxHeartbeats 1600000 in
theorem heldD_any (v : Value) (n : Nat) (k : Int) (w : World) (hr : ReadD w v (upD k n)) (hl : n ≤ 1048576) (hk0 : -1000000000 ≤ k) (hk1 : k ≤ 1000000000) :
    Calls Try.prog 17 #[v, .int .i64 k] w fun e w' => e = .returned (.int .i64 (k + 2 * (n : Int))) ∧ w = w' := by
  obtain ⟨a, cap, rfl, ha⟩ := hr
  rw [upD_length]
  have HA : Hid (∀ i, i < n → ∃ b o, a = some ⟨b, o, none⟩ ∧ w.cell? ⟨b, o + i * 2, none⟩ = some (.int .i64 (k + 2 * (i : Int))) ∧ w.cell? ⟨b, o + i * 2 + 1, none⟩ = some (.int .i64 (k + 2 * (i : Int) + 1))) := Lib.hid fun i hi => by
    obtain ⟨b, o, e1, e2, e3⟩ := ha i (by rw [upD_length]; exact hi)
    rw [upD_get k n i hi] at e2 e3
    exact ⟨b, o, e1, e2, e3⟩
  clear ha
  go_enter Try.func17, Try.ntmps17
  go_wp2_with fail
  go_loop [1, 5] (fun kv iv => ∃ j : Nat, j ≤ n ∧ kv = .int .i64 (k + 2 * (j : Int)) ∧ iv = .int .i64 (j : Int)) (fun _ iv => n - (intOf iv).toNat)
  case atStart => exact ⟨0, by omega, by simp, rfl⟩
  case round =>
    obtain ⟨j, hj, rfl, rfl⟩ := hrel
    by_cases hlt : j < n
    · obtain ⟨b, o, rfl, h0, h1⟩ := HA.out j hlt
      have z0 : (0 : Int) ≤ (j : Int) := by omega
      have z1 : (j : Int) < (n : Int) := by omega
      have z2 : IntKind.i64.wrap (k + 2 * (j : Int) + 1) = k + 2 * (j : Int) + 1 := IntWalk.i64_in _ (by omega)
      have z3 : IntKind.i64.wrap (k + 2 * (j : Int) + 1 + 1) = k + 2 * (j : Int) + 1 + 1 := IntWalk.i64_in _ (by omega)
      have hb : (k + 2 * (j : Int) != k + 2 * (j : Int)) = false := by simp
      have hb1 : (k + 2 * (j : Int) + 1 != k + 2 * (j : Int) + 1) = false := by simp
      go_wp2_with fail
      go_round
      case rel => exact ⟨j + 1, by omega, by go_num, by go_num⟩
      case measure => simp [intOf]; omega
    · obtain rfl : j = n := by omega
      go_wp2_with fail
      go_ret
      exact ⟨rfl, rfl⟩
/-! ### With their bounds -/
def OwnDR (w : World) (B C : Nat) (v : Value) (l : List (Int × Int)) : Prop := OwnD w B v l ∧ ∀ g, v.ownBlock = some g → g < C
theorem OwnD.range {w : World} {B : Nat} {v : Value} {l : List (Int × Int)} (h : OwnD w B v l) : OwnDR w B w.heap.size v l := ⟨h, fun g hg => (h.lt g hg).2⟩
theorem OwnDR.same {w w' : World} {B C : Nat} {v : Value} {l : List (Int × Int)} (h : OwnDR w B C v l) (hs : Same B C w w') : OwnDR w' B C v l := by
  refine ⟨⟨h.1.1, ?_⟩, h.2⟩
  rcases h.1.2 with hn | ⟨g, cap, cur, rfl, hB, hgg, rest⟩
  · exact .inl hn
  · exact .inr ⟨g, cap, cur, rfl, hB, (hs g hB (h.2 g rfl)).trans hgg, rest⟩
theorem OwnDR.read {w : World} {B C : Nat} {v : Value} {l : List (Int × Int)} (h : OwnDR w B C v l) : ReadD w v l := h.1.read
def MarkDs (k : Int) (l : List (Int × Int)) (B C : Nat) (v : Value) (w : World) (e : Ending) (w' : World) : Prop := e = .returned (.int .i64 (k + 2 * (l.length : Int))) ∧ OwnDR w' B C v (upD k l.length) ∧ Mid B C w w'
theorem markDepR_any (v : Value) (l : List (Int × Int)) (k : Int) (B C : Nat) (w : World) (ho : OwnDR w B C v l) (hl : l.length ≤ 1048576) (hk0 : -1000000000 ≤ k) (hk1 : k ≤ 1000000000) :
    Calls Try.prog 16 #[v, .int .i64 k] w (MarkDs k l B C v w) :=
  (markD_any v l k B w ho.1 hl hk0 hk1).mono fun _ _ ⟨a, b, c⟩ => ⟨a, ⟨b, ho.2⟩, Mid.ofGrown c fun g hg => ⟨(ho.1.lt g hg).1, ho.2 g hg⟩⟩
theorem heldDepR_any (v : Value) (n : Nat) (k : Int) (w : World) (hr : ReadD w v (upD k n)) (hl : n ≤ 1048576) (hk0 : -1000000000 ≤ k) (hk1 : k ≤ 1000000000) :
    Calls Try.prog 17 #[v, .int .i64 k] w fun e w' => e = .returned (.int .i64 (k + 2 * (n : Int))) ∧ Below w.heap.size w w' :=
  (heldD_any v n k w hr hl hk0 hk1).mono fun _ w' ⟨a, b⟩ => ⟨a, by rw [← b]; exact Below.refl _ _⟩
end Go.Proofs.Ytepokhdjglnlnaa
namespace Go.Proofs.Ytepokhdjglnlnaa
open Go.ChangeShapes Go.WideShapes Go.Joins Go.RowKit Go.Deep

theorem cellsTab : Try.prog.cellsOf 24 = 2 := by kernel_rfl
section
variable {H : Type} {enc : TypeId × Value → H} {w : World} {base : Nat} {held : Bool}
theorem open_rows {fuel : Nat} {v : Value} {x : DataW H × List MemPlace} (h : DataW.trod enc Try.prog w base (fun _ => true) held fuel 22 [v] = some x) : ∃ ll, ReadSS w v ll ∧ Short ll := by
  rcases open_int_rows Try.underlying22 Try.underlying41 Try.underlying3 (by kernel_rfl) (by kernel_rfl) h with ⟨hcs, -⟩ | ⟨a, len, cap, A, L, C, Z, hcs, -, hl, hm, -, hr⟩
  · simp at hcs
    subst hcs
    exact ⟨[], ReadSS.nil _, ⟨Nat.zero_le _, fun i hi => absurd hi (Nat.not_lt_zero _)⟩⟩
  · simp at hcs
    subst hcs
    have hlen : ((List.range len).map fun r => (Z r).take (L r)).length = len := by simp
    have hget : ∀ i, i < len → ((List.range len).map fun r => (Z r).take (L r)).getD i [] = (Z i).take (L i) := fun i hi => by
      rw [List.getD_eq_getElem?_getD, List.getElem?_eq_getElem (by rw [hlen]; exact hi)]; simp
    have hrl : ∀ i, i < len → ((Z i).take (L i)).length = L i := fun i hi => by
      obtain ⟨-, h1, -, h2, -⟩ := hr i (by omega)
      rw [List.length_take]; omega
    refine ⟨(List.range len).map fun r => (Z r).take (L r), ⟨some a, cap, by rw [hlen], fun i hi => ?_⟩, by rw [hlen]; unfold maxLen at hm; omega, fun i hi => ?_⟩
    · rw [hlen] at hi
      obtain ⟨h0, h1, h2, h3, h4, h5, h6⟩ := hr i (by omega)
      rw [hget i hi]
      refine ⟨a, _, rfl, h0, A i, C i, by rw [hrl i hi], fun j hj => ?_⟩
      rw [hrl i hi] at hj
      cases hA : A i with
      | none => have := h5 hA; omega
      | some a' =>
        refine ⟨a', rfl, ?_⟩
        rw [(h6 a' hA).2 j (by omega)]
        simp only [List.getElem_take]
        rw [List.getD_eq_getElem?_getD, List.getElem?_eq_getElem (by omega)]
        rfl
    · rw [hlen] at hi
      rw [hget i hi, hrl i hi]
      obtain ⟨-, h1, h2, -⟩ := hr i (by omega)
      unfold maxLen at h2; omega
set_option maxRecDepth 20000 in
theorem open_table {r : Reach} {b0 : Nat} {v : Value} {d : DataW H} {p : List MemPlace} (hv : Value.okWide Try.prog w r b0 24 v) (h : DataW.Trod enc Try.prog w base (fun _ => true) held 24 v d p) :
    ∃ (c : Int) (u : Value) (ll : List (List Int)), v = .agg #[.int .i64 c, u] ∧ (Lit.int .i64 c).wf = true ∧ ReadSS w u ll ∧ Short ll := by
  obtain ⟨c0, c1, y0, y1, m, rfl, -, -, hy0, hy1⟩ := open_agg2 Try.underlying24 (by kernel_rfl) cellsTab hv h
  obtain ⟨n, hn, -, hwf⟩ := DataW.trod_int Try.underlying3 hy0
  simp at hn
  subst hn
  obtain ⟨ll, h1, h2⟩ := open_rows hy1
  exact ⟨n, c1, ll, rfl, hwf, h1, h2⟩
end
end Go.Proofs.Ytepokhdjglnlnaa
namespace Go.Proofs.Ytepokhdjglnlnaa
open Go.ChangeShapes Go.WideShapes Go.Joins Go.RowKit Go.Deep

theorem cellsDep : Try.prog.cellsOf 36 = 2 := by kernel_rfl
section
variable {H : Type} {enc : TypeId × Value → H} {w : World} {base : Nat} {held : Bool}
set_option maxRecDepth 20000 in
theorem open_dep {r : Reach} {b0 : Nat} {v : Value} {d : DataW H} {p : List MemPlace} (hv : Value.okWide Try.prog w r b0 36 v) (h : DataW.Trod enc Try.prog w base (fun _ => true) held 36 v d p) :
    ∃ x y : Int, v = .agg #[.int .i64 x, .int .i64 y] ∧ (Lit.int .i64 x).wf = true ∧ (Lit.int .i64 y).wf = true := by
  obtain ⟨c0, c1, y0, y1, m, rfl, -, -, hy0, hy1⟩ := open_agg2 Try.underlying36 (by kernel_rfl) cellsDep hv h
  obtain ⟨n, hn, -, hwf⟩ := DataW.trod_int Try.underlying3 hy0
  obtain ⟨n', hn', -, hwf'⟩ := DataW.trod_int Try.underlying3 hy1
  simp at hn hn'
  subst hn hn'
  exact ⟨n, n', rfl, hwf, hwf'⟩
end
end Go.Proofs.Ytepokhdjglnlnaa
namespace Go.Proofs.Ytepokhdjglnlnaa
open Go.RowKit

theorem keepTD {W1 w' w'' : World} {p0 p1 p2 p3 : Addr} {v0 v1 v2 v3 : Value} (h : ((w'.cell? p0 = some v0 ∧ w'.cell? p1 = some v1) ∧ w'.cell? p2 = some v2 ∧ w'.cell? p3 = some v3) ∧ Below W1.heap.size W1 w') (b : Below w'.heap.size w' w'') :
    ((w''.cell? p0 = some v0 ∧ w''.cell? p1 = some v1) ∧ w''.cell? p2 = some v2 ∧ w''.cell? p3 = some v3) ∧ Below W1.heap.size W1 w'' :=
  ⟨⟨⟨(b.cell (World.block_lt_of_cell? _ _ h.1.1.1)).trans h.1.1.1, (b.cell (World.block_lt_of_cell? _ _ h.1.1.2)).trans h.1.1.2⟩, (b.cell (World.block_lt_of_cell? _ _ h.1.2.1)).trans h.1.2.1, (b.cell (World.block_lt_of_cell? _ _ h.1.2.2)).trans h.1.2.2⟩, h.2.trans (b.mono h.2.size)⟩
theorem keepXD {W1 w' w'' : World} {p0 p1 p2 p3 p4 p5 : Addr} {v0 v1 v2 v3 v4 v5 u : Value} {ll : List (List Int)} (h : ((w'.cell? p0 = some v0 ∧ w'.cell? p1 = some v1) ∧ w'.cell? p2 = some v2 ∧ w'.cell? p3 = some v3) ∧ (w'.cell? p4 = some v4 ∧ w'.cell? p5 = some v5) ∧ ReadSS w' u ll ∧ Below W1.heap.size W1 w') (b : Below w'.heap.size w' w'') :
    ((w''.cell? p0 = some v0 ∧ w''.cell? p1 = some v1) ∧ w''.cell? p2 = some v2 ∧ w''.cell? p3 = some v3) ∧ (w''.cell? p4 = some v4 ∧ w''.cell? p5 = some v5) ∧ ReadSS w'' u ll ∧ Below W1.heap.size W1 w'' := by
  obtain ⟨h1, h2, h3, h4⟩ := h
  exact ⟨(keepTD ⟨h1, h4⟩ b).1, ⟨(b.cell (World.block_lt_of_cell? _ _ h2.1)).trans h2.1, (b.cell (World.block_lt_of_cell? _ _ h2.2)).trans h2.2⟩, h3.kept b, h4.trans (b.mono h4.size)⟩
end Go.Proofs.Ytepokhdjglnlnaa
