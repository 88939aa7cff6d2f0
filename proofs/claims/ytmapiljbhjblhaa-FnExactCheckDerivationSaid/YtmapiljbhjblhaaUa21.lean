/- Texts of this claim, merged: DvO, DepO, MarkD. Conditions: as stated. -/
import Derived.Test.YtmapiljbhjblhaaUa14
import Derived.Deep.SlicePairs
import Derived.Test.YtmapiljbhjblhaaUa10
import Derived.Lib.SmallJoins
import Derived.Test.YtmapiljbhjblhaaUa11
import Derived.Test.YtmapiljbhjblhaaUa2
namespace Go.Proofs.Ytmapiljbhjblhaa
open Go.ChangeShapes Go.WideShapes Go.Joins Go.RowKit Go.Deep

section
variable {H : Type} {enc : TypeId × Value → H} {w : World} {base : Nat} {held : Bool}
/-- Three cells that read as a step are three ints. -/
theorem trip_of {n : Nat} {cs : List Value} {y : DataW H × List MemPlace} (hl : cs.length = 3) (h : DataW.trod enc Try.prog w base (fun _ => true) held n 72 cs = some y) :
    ∃ t : Int × Int × Int, cs = [.int .i64 t.1, .int .i64 t.2.1, .int .i64 t.2.2] ∧ (Lit.int .i64 t.1).wf = true ∧ (Lit.int .i64 t.2.1).wf = true ∧ (Lit.int .i64 t.2.2).wf = true := by
  obtain ⟨v0, v1, v2, rfl⟩ : ∃ v0 v1 v2, cs = [v0, v1, v2] := by
    match cs, hl with
    | [v0, v1, v2], _ => exact ⟨v0, v1, v2, rfl⟩
  obtain ⟨xs, k, -, -, -, hxl, hf⟩ := DataW.trod_struct Try.underlying72 h
  obtain ⟨y0, y1, y2, rfl⟩ : ∃ y0 y1 y2, xs = [y0, y1, y2] := by
    match xs, hxl with
    | [y0, y1, y2], _ => exact ⟨y0, y1, y2, rfl⟩
  have g0 := hf 0 _ rfl
  have g1 := hf 1 _ rfl
  have g2 := hf 2 _ rfl
  have k1 : Try.prog.cellsOf 3 = 1 := by kernel_rfl
  simp [k1] at g0 g1 g2
  obtain ⟨n0, e0, -, w0⟩ := DataW.trod_int Try.underlying3 g0
  obtain ⟨n1, e1, -, w1⟩ := DataW.trod_int Try.underlying3 g1
  obtain ⟨n2, e2, -, w2⟩ := DataW.trod_int Try.underlying3 g2
  simp at e0 e1 e2
  subst e0 e1 e2
  exact ⟨(n0, n1, n2), rfl, w0, w1, w2⟩
set_option maxRecDepth 20000 in
theorem open_trips {fuel : Nat} {v : Value} {x : DataW H × List MemPlace} (h : DataW.trod enc Try.prog w base (fun _ => true) held fuel 43 [v] = some x) : ∃ ts, ReadT w v ts ∧ ts.length ≤ maxLen ∧ ∀ t ∈ ts, (Lit.int .i64 t.1).wf = true ∧ (Lit.int .i64 t.2.1).wf = true ∧ (Lit.int .i64 t.2.2).wf = true := by
  have k3 : Try.prog.cellsOf 72 = 3 := by kernel_rfl
  rcases open_slice Try.underlying43 h with ⟨hcs, -⟩ | ⟨a, len, cap, m, n, D, Pl, hcs, -, hl, hm, hmm, -, hx⟩
  · simp at hcs
    subst hcs
    exact ⟨[], ⟨none, 0, rfl, fun i hi => absurd hi (Nat.not_lt_zero _)⟩, Nat.zero_le _, fun d hd => by cases hd⟩
  · simp at hcs
    subst hcs
    simp at hmm
    subst hmm
    have each : ∀ i, i < m → ∃ t : Int × Int × Int, (w.cell? (a.add (i * 3)) = some (.int .i64 t.1) ∧ w.cell? (a.add (i * 3 + 1)) = some (.int .i64 t.2.1) ∧ w.cell? (a.add (i * 3 + 2)) = some (.int .i64 t.2.2)) ∧ (Lit.int .i64 t.1).wf = true ∧ (Lit.int .i64 t.2.1).wf = true ∧ (Lit.int .i64 t.2.2).wf = true := fun i hi => by
      obtain ⟨cs, h1, h2⟩ := hx i hi
      rw [k3] at h1
      obtain ⟨-, hlen, hcell⟩ := World.cells?_some h1
      obtain ⟨t, rfl, w0, w1, w2⟩ := trip_of hlen h2
      have q0 := hcell 0 (by omega)
      have q1 := hcell 1 (by omega)
      have q2 := hcell 2 (by omega)
      rw [Addr.add_add] at q0 q1 q2
      exact ⟨t, ⟨by simpa using q0, by simpa using q1, by simpa using q2⟩, w0, w1, w2⟩
    let f : Nat → Int × Int × Int := fun i => if h : i < m then Classical.choose (each i h) else (0, 0, 0)
    have hf : ∀ i, i < m → (w.cell? (a.add (i * 3)) = some (.int .i64 (f i).1) ∧ w.cell? (a.add (i * 3 + 1)) = some (.int .i64 (f i).2.1) ∧ w.cell? (a.add (i * 3 + 2)) = some (.int .i64 (f i).2.2)) ∧ (Lit.int .i64 (f i).1).wf = true ∧ (Lit.int .i64 (f i).2.1).wf = true ∧ (Lit.int .i64 (f i).2.2).wf = true := fun i hi => by
      have := Classical.choose_spec (each i hi)
      simp only [f, dif_pos hi]
      exact this
    have hlen : ((List.range len).map f).length = len := by simp
    refine ⟨(List.range len).map f, ⟨some a, m, by rw [hlen], fun i hi => ?_⟩, by rw [hlen]; omega, fun d hd => ?_⟩
    · rw [hlen] at hi
      obtain ⟨⟨c0, c1, c2⟩, -⟩ := hf i (by omega)
      obtain ⟨b, o, s⟩ := a
      have hs : s = none := by
        obtain ⟨⟨g0, -, -⟩, -⟩ := hf 0 (by omega)
        rw [Nat.zero_mul, Addr.add_zero'] at g0
        unfold World.cell? at g0
        cases s with
        | none => rfl
        | some z =>
          simp only at g0
          split at g0 <;> simp at g0
      subst hs
      have hg : ((List.range len).map f).getD i (0, 0, 0) = f i := by rw [List.getD_eq_getElem?_getD, List.getElem?_eq_getElem (by rw [hlen]; exact hi)]; simp
      rw [hg]
      have hadd : ∀ k, (⟨b, o, none⟩ : Addr).add k = ⟨b, o + k, none⟩ := fun k => by
        unfold Addr.add
        split
        · next h => rw [h, Nat.add_zero]
        · rfl
      rw [hadd] at c0 c1 c2
      exact ⟨b, o, rfl, c0, c1, c2⟩
    · obtain ⟨i, hi, rfl⟩ := List.mem_map.1 hd
      have := List.mem_range.1 hi
      exact (hf i (by omega)).2
end
end Go.Proofs.Ytmapiljbhjblhaa
namespace Go.Proofs.Ytmapiljbhjblhaa
open Go.ChangeShapes Go.WideShapes Go.Joins Go.RowKit Go.Deep

theorem cellsDep : Try.prog.cellsOf 32 = 2 := by kernel_rfl
section
variable {H : Type} {enc : TypeId × Value → H} {w : World} {base : Nat} {held : Bool}
set_option maxRecDepth 20000 in
theorem open_dep {r : Reach} {b0 : Nat} {v : Value} {d : DataW H} {p : List MemPlace} (hv : Value.okWide Try.prog w r b0 32 v) (h : DataW.Trod enc Try.prog w base (fun _ => true) held 32 v d p) :
    ∃ x y : Int, v = .agg #[.int .i64 x, .int .i64 y] ∧ (Lit.int .i64 x).wf = true ∧ (Lit.int .i64 y).wf = true := by
  obtain ⟨c0, c1, y0, y1, m, rfl, -, -, hy0, hy1⟩ := open_agg2 Try.underlying32 (by kernel_rfl) cellsDep hv h
  obtain ⟨n, hn, -, hwf⟩ := DataW.trod_int Try.underlying3 hy0
  obtain ⟨n', hn', -, hwf'⟩ := DataW.trod_int Try.underlying3 hy1
  simp at hn hn'
  subst hn hn'
  exact ⟨n, n', rfl, hwf, hwf'⟩
set_option maxRecDepth 20000 in
theorem open_deps {fuel : Nat} {v : Value} {x : DataW H × List MemPlace} (h : DataW.trod enc Try.prog w base (fun _ => true) held fuel 22 [v] = some x) : ∃ ds, ReadD w v ds ∧ ds.length ≤ maxLen ∧ ∀ d ∈ ds, (Lit.int .i64 d.1).wf = true ∧ (Lit.int .i64 d.2).wf = true := by
  rcases open_slice_pairs Try.underlying22 Try.underlying32 cellsDep rfl rfl (by kernel_rfl) (by kernel_rfl) h with ⟨hcs, -⟩ | ⟨a, len, cap, m, n, V0, V1, D0, D1, P0, P1, hcs, -, hl, hm, hmm, -, hr⟩
  · simp at hcs
    subst hcs
    exact ⟨[], ⟨none, 0, rfl, fun i hi => absurd hi (Nat.not_lt_zero _)⟩, Nat.zero_le _, fun d hd => by cases hd⟩
  · simp at hcs
    subst hcs
    simp at hmm
    subst hmm
    have hx : ∀ i, i < m → ∃ p : Int × Int, V0 i = .int .i64 p.1 ∧ V1 i = .int .i64 p.2 ∧ (Lit.int .i64 p.1).wf = true ∧ (Lit.int .i64 p.2).wf = true := fun i hi => by
      obtain ⟨-, -, h0, h1⟩ := hr i hi
      obtain ⟨n0, e0, -, w0⟩ := DataW.trod_int Try.underlying3 h0
      obtain ⟨n1, e1, -, w1⟩ := DataW.trod_int Try.underlying3 h1
      simp at e0 e1
      exact ⟨(n0, n1), e0, e1, w0, w1⟩
    let f : Nat → Int × Int := fun i => if h : i < m then Classical.choose (hx i h) else (0, 0)
    have hf : ∀ i, i < m → V0 i = .int .i64 (f i).1 ∧ V1 i = .int .i64 (f i).2 ∧ (Lit.int .i64 (f i).1).wf = true ∧ (Lit.int .i64 (f i).2).wf = true := fun i hi => by
      have := Classical.choose_spec (hx i hi)
      simp only [f, dif_pos hi]
      exact this
    have hlen : ((List.range len).map f).length = len := by simp
    refine ⟨(List.range len).map f, ⟨some a, m, by rw [hlen], fun i hi => ?_⟩, by rw [hlen]; omega, fun d hd => ?_⟩
    · rw [hlen] at hi
      obtain ⟨c0, c1, -, -⟩ := hr i (by omega)
      obtain ⟨e0, e1, -, -⟩ := hf i (by omega)
      obtain ⟨b, o, s⟩ := a
      have hs : s = none := by
        obtain ⟨g0, -, -, -⟩ := hr 0 (by omega)
        rw [Nat.zero_mul, Addr.add_zero'] at g0
        unfold World.cell? at g0
        cases s with
        | none => rfl
        | some z =>
          simp only at g0
          split at g0 <;> simp at g0
      subst hs
      have hg : ((List.range len).map f).getD i (0, 0) = f i := by rw [List.getD_eq_getElem?_getD, List.getElem?_eq_getElem (by rw [hlen]; exact hi)]; simp
      rw [hg]
      refine ⟨b, o, rfl, ?_, ?_⟩
      · rw [← e0, ← c0]
        unfold Addr.add
        split
        · next h => rw [h, Nat.add_zero]
        · rfl
      · rw [← e1, ← c1]
        unfold Addr.add
        rw [if_neg (by omega)]
        rfl
    · obtain ⟨i, hi, rfl⟩ := List.mem_map.1 hd
      have := List.mem_range.1 hi
      exact (hf i (by omega)).2.2
end
end Go.Proofs.Ytmapiljbhjblhaa
namespace Go.Proofs.Ytmapiljbhjblhaa
open Go.RowKit

/-- k, k + 1; k + 2, k + 3; and so on. -/
def upD (k : Int) (n : Nat) : List (Int × Int) := (List.range n).map fun (j : Nat) => (k + 2 * (j : Int), k + 2 * (j : Int) + 1)
theorem upD_length (k : Int) (n : Nat) : (upD k n).length = n := by simp [upD]
theorem upD_get (k : Int) (n j : Nat) (h : j < n) : (upD k n).getD j (0, 0) = (k + 2 * (j : Int), k + 2 * (j : Int) + 1) := by
  rw [List.getD_eq_getElem?_getD, List.getElem?_eq_getElem (by rw [upD_length]; exact h)]
  simp [upD]
theorem upD_start (k : Int) (l : List (Int × Int)) : upD k 0 ++ l.drop 0 = l := by simp [upD]
theorem upD_step (k : Int) (l : List (Int × Int)) (j : Nat) (h : j < l.length) : (upD k j ++ l.drop j).set j (k + 2 * (j : Int), k + 2 * (j : Int) + 1) = upD k (j + 1) ++ l.drop (j + 1) := by
  have e : upD k (j + 1) = upD k j ++ [(k + 2 * (j : Int), k + 2 * (j : Int) + 1)] := by simp [upD, List.range_succ]
  rw [List.set_append, if_neg (by rw [upD_length]; omega), upD_length, Nat.sub_self, List.drop_eq_getElem_cons h, e, List.append_assoc]
  rfl
theorem OwnD.num {w : World} {B g n cap : Nat} {ds : List (Int × Int)} (h : OwnD w B (.slice (some ⟨g, 0, none⟩) n cap) ds) : n = ds.length := by
  rcases h.2 with ⟨h', _⟩ | ⟨g', cap', cur, h', _⟩ <;> simp at h'; omega
theorem OwnD.cells2 {w : World} {B g n cap : Nat} {ds : List (Int × Int)} (h : OwnD w B (.slice (some ⟨g, 0, none⟩) n cap) ds) (j : Nat) (hj : j < ds.length) :
    (w.cell? ⟨g, j * 2, none⟩ = some (.int .i64 (ds.getD j (0, 0)).1) ∧ w.cell? ⟨g, j * 2 + 1, none⟩ = some (.int .i64 (ds.getD j (0, 0)).2)) ∧ w.frozen? ⟨g, j * 2, none⟩ = false ∧ w.frozen? ⟨g, j * 2 + 1, none⟩ = false := by
  have hn := h.num
  subst hn
  exact ⟨⟨by rw [World.ownsRow.cellAt h (j * 2) (by omega), (depsV_get ds j hj).1], by rw [World.ownsRow.cellAt h (j * 2 + 1) (by omega), (depsV_get ds j hj).2]⟩, World.ownsRow.frozenAt h _, World.ownsRow.frozenAt h _⟩
theorem OwnD.store2 {w : World} {B g n cap : Nat} {ds : List (Int × Int)} (h : OwnD w B (.slice (some ⟨g, 0, none⟩) n cap) ds) (j : Nat) (a b : Int) :
    OwnD ((w.setCell ⟨g, j * 2, none⟩ (.int .i64 a)).setCell ⟨g, j * 2 + 1, none⟩ (.int .i64 b)) B (.slice (some ⟨g, 0, none⟩) n cap) (ds.set j (a, b)) ∧ w.grownBy ((w.setCell ⟨g, j * 2, none⟩ (.int .i64 a)).setCell ⟨g, j * 2 + 1, none⟩ (.int .i64 b)) (some g) := by
  refine ⟨h.store j a b, ?_⟩
  have hn := h.num
  subst hn
  obtain ⟨h1, h2⟩ := World.ownsRow.stored h (j * 2) (.int .i64 a)
  obtain ⟨h3, h4⟩ := World.ownsRow.stored h1 (j * 2 + 1) (.int .i64 b)
  exact ⟨h4.os.trans h2.os, h4.tape.trans h2.tape, h4.output.trans h2.output, Nat.le_trans h2.size h4.size, fun q hq hne => (h4.block q (Nat.lt_of_lt_of_le hq h2.size) hne).trans (h2.block q hq hne)⟩
set_option maxHeartbeats 1600000 in
theorem markD_any (v : Value) (ds : List (Int × Int)) (k : Int) (B : Nat) (w : World) (ho : OwnD w B v ds) (hl : ds.length ≤ 1048576) (hk0 : -1000000000 ≤ k) (hk1 : k ≤ 1000000000) :
    Calls Try.prog 23 #[v, .int .i64 k] w fun e w' => e = .returned (.int .i64 (k + 2 * (ds.length : Int))) ∧ OwnD w' B v (upD k ds.length) ∧ w.grownBy w' v.ownBlock := by
  rcases ho.2 with ⟨rfl, h0⟩ | ⟨g, cap, cur, rfl, hBg, hgg, -⟩
  · obtain rfl : ds = [] := List.eq_nil_of_length_eq_zero h0
    go_enter Try.func23, Try.ntmps23
    go_wp2_with fail
    refine wp_loop_rounds 1 ?_
    rw [rounds_succ]
    go_wp2_with fail
    go_ret
    exact ⟨ret_int (by simp), by simpa [upD] using ho, World.grownBy.refl _ _⟩
  · clear hgg
    go_enter Try.func23, Try.ntmps23
    go_wp2_with fail
    go_loopw [1, 5] (fun kv iv wr => ∃ j : Nat, j ≤ ds.length ∧ kv = .int .i64 (k + 2 * (j : Int)) ∧ iv = .int .i64 (j : Int) ∧ OwnD wr B (.slice (some ⟨g, 0, none⟩) ds.length cap) (upD k j ++ ds.drop j) ∧ w.grownBy wr (some g)) (fun _ iv _ => ds.length - (intOf iv).toNat)
    case atStart => exact ⟨0, by omega, by simp, rfl, by rw [upD_start]; exact ho, World.grownBy.refl _ _⟩
    case round =>
      clear ho
      obtain ⟨j, hj, rfl, rfl, ho', hg⟩ := hrel
      by_cases hlt : j < ds.length
      · obtain ⟨⟨h0, h1⟩, f0, f1⟩ := ho'.cells2 j (by rw [List.length_append, upD_length, List.length_drop]; omega)
        have z0 : (0 : Int) ≤ (j : Int) := by omega
        have z1 : (j : Int) < (ds.length : Int) := by omega
        have z2 : IntKind.i64.wrap (k + 2 * (j : Int) + 1) = k + 2 * (j : Int) + 1 := IntWalk.i64_in _ (by omega)
        have z3 : IntKind.i64.wrap (k + 2 * (j : Int) + 1 + 1) = k + 2 * (j : Int) + 1 + 1 := IntWalk.i64_in _ (by omega)
        obtain ⟨s1, s2⟩ := ho'.store2 j (k + 2 * (j : Int)) (k + 2 * (j : Int) + 1)
        rw [upD_step k ds j hlt] at s1
        have S1 := Lib.hid s1
        have S2 := Lib.hid s2
        have HG := Lib.hid hg
        clear s1 s2 hg ho'
        go_wp2_with fail
        go_roundw
        case rel => exact ⟨j + 1, by omega, by go_num, by go_num, S1.out, ⟨S2.out.os.trans HG.out.os, S2.out.tape.trans HG.out.tape, S2.out.output.trans HG.out.output, Nat.le_trans HG.out.size S2.out.size, fun q hq hne => (S2.out.block q (Nat.lt_of_lt_of_le hq HG.out.size) hne).trans (HG.out.block q hq hne)⟩⟩
        case measure => simp [intOf]; omega
      · obtain rfl : j = ds.length := by omega
        go_wp2_with fail
        go_ret
        rw [List.drop_eq_nil_of_le (Nat.le_refl _), List.append_nil] at ho'
        exact ⟨rfl, ho', hg⟩
/-! ### With their bounds -/
def OwnDR (w : World) (B C : Nat) (v : Value) (l : List (Int × Int)) : Prop := OwnD w B v l ∧ ∀ g, v.ownBlock = some g → g < C
theorem OwnD.range {w : World} {B : Nat} {v : Value} {l : List (Int × Int)} (h : OwnD w B v l) : OwnDR w B w.heap.size v l := ⟨h, fun g hg => (h.lt g hg).2⟩
theorem OwnDR.same {w w' : World} {B C : Nat} {v : Value} {l : List (Int × Int)} (h : OwnDR w B C v l) (hs : Same B C w w') : OwnDR w' B C v l := by
  refine ⟨⟨h.1.1, ?_⟩, h.2⟩
  rcases h.1.2 with hn | ⟨g, cap, cur, rfl, hB, hgg, rest⟩
  · exact .inl hn
  · exact .inr ⟨g, cap, cur, rfl, hB, (hs g hB (h.2 g rfl)).trans hgg, rest⟩
theorem OwnDR.read {w : World} {B C : Nat} {v : Value} {l : List (Int × Int)} (h : OwnDR w B C v l) : ReadD w v l := h.1.read
def MarkDs (k : Int) (l : List (Int × Int)) (B C : Nat) (v : Value) (w : World) (e : Ending) (w' : World) : Prop := e = .returned (.int .i64 (k + 2 * (l.length : Int))) ∧ OwnDR w' B C v (upD k l.length) ∧ Mid B C w w'
theorem markDepR_any (v : Value) (l : List (Int × Int)) (k : Int) (B C : Nat) (w : World) (ho : OwnDR w B C v l) (hl : l.length ≤ 1048576) (hk0 : -1000000000 ≤ k) (hk1 : k ≤ 1000000000) :
    Calls Try.prog 23 #[v, .int .i64 k] w (MarkDs k l B C v w) :=
  (markD_any v l k B w ho.1 hl hk0 hk1).mono fun _ _ ⟨a, b, c⟩ => ⟨a, ⟨b, ho.2⟩, Mid.ofGrown c fun g hg => ⟨(ho.1.lt g hg).1, ho.2 g hg⟩⟩
end Go.Proofs.Ytmapiljbhjblhaa
