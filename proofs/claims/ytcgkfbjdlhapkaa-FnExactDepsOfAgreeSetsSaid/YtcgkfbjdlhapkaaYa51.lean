/- Texts of this claim, merged: DepO, MarkD, ClV, ExT, ExC. Conditions: as stated. -/
import Derived.Test.YtcgkfbjdlhapkaaYa12
import Derived.Lib.SmallJoins
import Derived.Deep.SlicePairs
import Derived.Test.YtcgkfbjdlhapkaaYa15
import Derived.Test.YtcgkfbjdlhapkaaYa2
import Derived.Test.YtcgkfbjdlhapkaaYa11
import Derived.Test.YtcgkfbjdlhapkaaYa13
import Derived.Laws.OwnMore
import Derived.Deep.CutBlock
namespace Go.Proofs.Ytcgkfbjdlhapkaa
open Go.ChangeShapes Go.WideShapes Go.Joins Go.RowKit Go.Deep

theorem cellsDep : Try.prog.cellsOf 46 = 2 := by kernel_rfl
section
variable {H : Type} {enc : TypeId × Value → H} {w : World} {base : Nat} {held : Bool}
set_option maxRecDepth 20000 in
theorem open_dep {r : Reach} {b0 : Nat} {v : Value} {d : DataW H} {p : List MemPlace} (hv : Value.okWide Try.prog w r b0 46 v) (h : DataW.Trod enc Try.prog w base (fun _ => true) held 46 v d p) :
    ∃ x y : Int, v = .agg #[.int .i64 x, .int .i64 y] ∧ (Lit.int .i64 x).wf = true ∧ (Lit.int .i64 y).wf = true := by
  obtain ⟨c0, c1, y0, y1, m, rfl, -, -, hy0, hy1⟩ := open_agg2 Try.underlying46 (by kernel_rfl) cellsDep hv h
  obtain ⟨n, hn, -, hwf⟩ := DataW.trod_int Try.underlying3 hy0
  obtain ⟨n', hn', -, hwf'⟩ := DataW.trod_int Try.underlying3 hy1
  simp at hn hn'
  subst hn hn'
  exact ⟨n, n', rfl, hwf, hwf'⟩
set_option maxRecDepth 20000 in
theorem open_deps {fuel : Nat} {v : Value} {x : DataW H × List MemPlace} (h : DataW.trod enc Try.prog w base (fun _ => true) held fuel 22 [v] = some x) : ∃ ds, ReadD w v ds ∧ ds.length ≤ maxLen ∧ ∀ d ∈ ds, (Lit.int .i64 d.1).wf = true ∧ (Lit.int .i64 d.2).wf = true := by
  rcases open_slice_pairs Try.underlying22 Try.underlying46 cellsDep rfl rfl (by kernel_rfl) (by kernel_rfl) h with ⟨hcs, -⟩ | ⟨a, len, cap, m, n, V0, V1, D0, D1, P0, P1, hcs, -, hl, hm, hmm, -, hr⟩
  · simp at hcs
    subst hcs
    exact ⟨[], ⟨none, 0, rfl, fun i hi => absurd hi (Nat.not_lt_zero _)⟩, Nat.zero_le _, fun d hd => by cases hd⟩
  · simp at hcs
    subst hcs
    simp at hmm
    subst hmm
    have hx : ∀ i, i < m → ∃ p : Int × Int, V0 i = .int .i64 p.1 ∧ V1 i = .int .i64 p.2 ∧ (Lit.int .i64 p.1).wf = true ∧ (Lit.int .i64 p.2).wf = true := fun i hi => by
      obtain ⟨-, -, h0, h1⟩ := hr i hi
      obtain ⟨n0, e0, -, w0⟩ := DataW.trod_int Try.underlying3 h0
      obtain ⟨n1, e1, -, w1⟩ := DataW.trod_int Try.underlying3 h1
      simp at e0 e1
      exact ⟨(n0, n1), e0, e1, w0, w1⟩
    let f : Nat → Int × Int := fun i => if h : i < m then Classical.choose (hx i h) else (0, 0)
    have hf : ∀ i, i < m → V0 i = .int .i64 (f i).1 ∧ V1 i = .int .i64 (f i).2 ∧ (Lit.int .i64 (f i).1).wf = true ∧ (Lit.int .i64 (f i).2).wf = true := fun i hi => by
      have := Classical.choose_spec (hx i hi)
      simp only [f, dif_pos hi]
      exact this
    have hlen : ((List.range len).map f).length = len := by simp
    refine ⟨(List.range len).map f, ⟨some a, m, by rw [hlen], fun i hi => ?_⟩, by rw [hlen]; omega, fun d hd => ?_⟩
    · rw [hlen] at hi
      obtain ⟨c0, c1, -, -⟩ := hr i (by omega)
      obtain ⟨e0, e1, -, -⟩ := hf i (by omega)
      obtain ⟨b, o, s⟩ := a
      have hs : s = none := by
        obtain ⟨g0, -, -, -⟩ := hr 0 (by omega)
        rw [Nat.zero_mul, Addr.add_zero'] at g0
        unfold World.cell? at g0
        cases s with
        | none => rfl
        | some z =>
          simp only at g0
          split at g0 <;> simp at g0
      subst hs
      have hg : ((List.range len).map f).getD i (0, 0) = f i := by rw [List.getD_eq_getElem?_getD, List.getElem?_eq_getElem (by rw [hlen]; exact hi)]; simp
      rw [hg]
      refine ⟨b, o, rfl, ?_, ?_⟩
      · rw [← e0, ← c0]
        unfold Addr.add
        split
        · next h => rw [h, Nat.add_zero]
        · rfl
      · rw [← e1, ← c1]
        unfold Addr.add
        rw [if_neg (by omega)]
        rfl
    · obtain ⟨i, hi, rfl⟩ := List.mem_map.1 hd
      have := List.mem_range.1 hi
      exact (hf i (by omega)).2.2
end
end Go.Proofs.Ytcgkfbjdlhapkaa
namespace Go.Proofs.Ytcgkfbjdlhapkaa
open Go.RowKit

/-- k, k + 1; k + 2, k + 3; and so on. -/
def upD (k : Int) (n : Nat) : List (Int × Int) := (List.range n).map fun (j : Nat) => (k + 2 * (j : Int), k + 2 * (j : Int) + 1)
theorem upD_length (k : Int) (n : Nat) : (upD k n).length = n := by simp [upD]
theorem upD_get (k : Int) (n j : Nat) (h : j < n) : (upD k n).getD j (0, 0) = (k + 2 * (j : Int), k + 2 * (j : Int) + 1) := by
  rw [List.getD_eq_getElem?_getD, List.getElem?_eq_getElem (by rw [upD_length]; exact h)]
  simp [upD]
theorem upD_start (k : Int) (l : List (Int × Int)) : upD k 0 ++ l.drop 0 = l := by simp [upD]
theorem upD_step (k : Int) (l : List (Int × Int)) (j : Nat) (h : j < l.length) : (upD k j ++ l.drop j).set j (k + 2 * (j : Int), k + 2 * (j : Int) + 1) = upD k (j + 1) ++ l.drop (j + 1) := by
  have e : upD k (j + 1) = upD k j ++ [(k + 2 * (j : Int), k + 2 * (j : Int) + 1)] := by simp [upD, List.range_succ]
  rw [List.set_append, if_neg (by rw [upD_length]; omega), upD_length, Nat.sub_self, List.drop_eq_getElem_cons h, e, List.append_assoc]
  rfl
theorem OwnD.num {w : World} {B g n cap : Nat} {ds : List (Int × Int)} (h : OwnD w B (.slice (some ⟨g, 0, none⟩) n cap) ds) : n = ds.length := by
  rcases h.2 with ⟨h', _⟩ | ⟨g', cap', cur, h', _⟩ <;> simp at h'; omega
theorem OwnD.cells2 {w : World} {B g n cap : Nat} {ds : List (Int × Int)} (h : OwnD w B (.slice (some ⟨g, 0, none⟩) n cap) ds) (j : Nat) (hj : j < ds.length) :
    (w.cell? ⟨g, j * 2, none⟩ = some (.int .i64 (ds.getD j (0, 0)).1) ∧ w.cell? ⟨g, j * 2 + 1, none⟩ = some (.int .i64 (ds.getD j (0, 0)).2)) ∧ w.frozen? ⟨g, j * 2, none⟩ = false ∧ w.frozen? ⟨g, j * 2 + 1, none⟩ = false := by
  have hn := h.num
  subst hn
  exact ⟨⟨by rw [World.ownsRow.cellAt h (j * 2) (by omega), (depsV_get ds j hj).1], by rw [World.ownsRow.cellAt h (j * 2 + 1) (by omega), (depsV_get ds j hj).2]⟩, World.ownsRow.frozenAt h _, World.ownsRow.frozenAt h _⟩
theorem OwnD.store2 {w : World} {B g n cap : Nat} {ds : List (Int × Int)} (h : OwnD w B (.slice (some ⟨g, 0, none⟩) n cap) ds) (j : Nat) (a b : Int) :
    OwnD ((w.setCell ⟨g, j * 2, none⟩ (.int .i64 a)).setCell ⟨g, j * 2 + 1, none⟩ (.int .i64 b)) B (.slice (some ⟨g, 0, none⟩) n cap) (ds.set j (a, b)) ∧ w.grownBy ((w.setCell ⟨g, j * 2, none⟩ (.int .i64 a)).setCell ⟨g, j * 2 + 1, none⟩ (.int .i64 b)) (some g) := by
  refine ⟨h.store j a b, ?_⟩
  have hn := h.num
  subst hn
  obtain ⟨h1, h2⟩ := World.ownsRow.stored h (j * 2) (.int .i64 a)
  obtain ⟨h3, h4⟩ := World.ownsRow.stored h1 (j * 2 + 1) (.int .i64 b)
  exact ⟨h4.os.trans h2.os, h4.tape.trans h2.tape, h4.output.trans h2.output, Nat.le_trans h2.size h4.size, fun q hq hne => (h4.block q (Nat.lt_of_lt_of_le hq h2.size) hne).trans (h2.block q hq hne)⟩
set_option maxHeartbeats 1600000 in
theorem markD_any (v : Value) (ds : List (Int × Int)) (k : Int) (B : Nat) (w : World) (ho : OwnD w B v ds) (hl : ds.length ≤ 1048576) (hk0 : -1000000000 ≤ k) (hk1 : k ≤ 1000000000) :
    Calls Try.prog 17 #[v, .int .i64 k] w fun e w' => e = .returned (.int .i64 (k + 2 * (ds.length : Int))) ∧ OwnD w' B v (upD k ds.length) ∧ w.grownBy w' v.ownBlock := by
  rcases ho.2 with ⟨rfl, h0⟩ | ⟨g, cap, cur, rfl, hBg, hgg, -⟩
  · obtain rfl : ds = [] := List.eq_nil_of_length_eq_zero h0
    go_enter Try.func17, Try.ntmps17
    go_wp2_with fail
    refine wp_loop_rounds 1 ?_
    rw [rounds_succ]
    go_wp2_with fail
    go_ret
    exact ⟨ret_int (by simp), by simpa [upD] using ho, World.grownBy.refl _ _⟩
  · clear hgg
    go_enter Try.func17, Try.ntmps17
    go_wp2_with fail
    go_loopw [1, 5] (fun kv iv wr => ∃ j : Nat, j ≤ ds.length ∧ kv = .int .i64 (k + 2 * (j : Int)) ∧ iv = .int .i64 (j : Int) ∧ OwnD wr B (.slice (some ⟨g, 0, none⟩) ds.length cap) (upD k j ++ ds.drop j) ∧ w.grownBy wr (some g)) (fun _ iv _ => ds.length - (intOf iv).toNat)
    case atStart => exact ⟨0, by omega, by simp, rfl, by rw [upD_start]; exact ho, World.grownBy.refl _ _⟩
    case round =>
      clear ho
      obtain ⟨j, hj, rfl, rfl, ho', hg⟩ := hrel
      by_cases hlt : j < ds.length
      · obtain ⟨⟨h0, h1⟩, f0, f1⟩ := ho'.cells2 j (by rw [List.length_append, upD_length, List.length_drop]; omega)
        have z0 : (0 : Int) ≤ (j : Int) := by omega
        have z1 : (j : Int) < (ds.length : Int) := by omega
        have z2 : IntKind.i64.wrap (k + 2 * (j : Int) + 1) = k + 2 * (j : Int) + 1 := IntWalk.i64_in _ (by omega)
        have z3 : IntKind.i64.wrap (k + 2 * (j : Int) + 1 + 1) = k + 2 * (j : Int) + 1 + 1 := IntWalk.i64_in _ (by omega)
        obtain ⟨s1, s2⟩ := ho'.store2 j (k + 2 * (j : Int)) (k + 2 * (j : Int) + 1)
        rw [upD_step k ds j hlt] at s1
        have S1 := Lib.hid s1
        have S2 := Lib.hid s2
        have HG := Lib.hid hg
        clear s1 s2 hg ho'
        go_wp2_with fail
        go_roundw
        case rel => exact ⟨j + 1, by omega, by go_num, by go_num, S1.out, ⟨S2.out.os.trans HG.out.os, S2.out.tape.trans HG.out.tape, S2.out.output.trans HG.out.output, Nat.le_trans HG.out.size S2.out.size, fun q hq hne => (S2.out.block q (Nat.lt_of_lt_of_le hq HG.out.size) hne).trans (HG.out.block q hq hne)⟩⟩
        case measure => simp [intOf]; omega
      · obtain rfl : j = ds.length := by omega
        go_wp2_with fail
        go_ret
        rw [List.drop_eq_nil_of_le (Nat.le_refl _), List.append_nil] at ho'
        exact ⟨rfl, ho', hg⟩
set_option maxHeartbeats 1600000 in
theorem heldD_any (v : Value) (n : Nat) (k : Int) (w : World) (hr : ReadD w v (upD k n)) (hl : n ≤ 1048576) (hk0 : -1000000000 ≤ k) (hk1 : k ≤ 1000000000) :
    Calls Try.prog 25 #[v, .int .i64 k] w fun e w' => e = .returned (.int .i64 (k + 2 * (n : Int))) ∧ w = w' := by
  obtain ⟨a, cap, rfl, ha⟩ := hr
  rw [upD_length]
  have HA : Hid (∀ i, i < n → ∃ b o, a = some ⟨b, o, none⟩ ∧ w.cell? ⟨b, o + i * 2, none⟩ = some (.int .i64 (k + 2 * (i : Int))) ∧ w.cell? ⟨b, o + i * 2 + 1, none⟩ = some (.int .i64 (k + 2 * (i : Int) + 1))) := Lib.hid fun i hi => by
    obtain ⟨b, o, e1, e2, e3⟩ := ha i (by rw [upD_length]; exact hi)
    rw [upD_get k n i hi] at e2 e3
    exact ⟨b, o, e1, e2, e3⟩
  clear ha
  go_enter Try.func25, Try.ntmps25
  go_wp2_with fail
  go_loop [1, 5] (fun kv iv => ∃ j : Nat, j ≤ n ∧ kv = .int .i64 (k + 2 * (j : Int)) ∧ iv = .int .i64 (j : Int)) (fun _ iv => n - (intOf iv).toNat)
  case atStart => exact ⟨0, by omega, by simp, rfl⟩
  case round =>
    obtain ⟨j, hj, rfl, rfl⟩ := hrel
    by_cases hlt : j < n
    · obtain ⟨b, o, rfl, h0, h1⟩ := HA.out j hlt
      have z0 : (0 : Int) ≤ (j : Int) := by omega
      have z1 : (j : Int) < (n : Int) := by omega
      have z2 : IntKind.i64.wrap (k + 2 * (j : Int) + 1) = k + 2 * (j : Int) + 1 := IntWalk.i64_in _ (by omega)
      have z3 : IntKind.i64.wrap (k + 2 * (j : Int) + 1 + 1) = k + 2 * (j : Int) + 1 + 1 := IntWalk.i64_in _ (by omega)
      have hb : (k + 2 * (j : Int) != k + 2 * (j : Int)) = false := by simp
      have hb1 : (k + 2 * (j : Int) + 1 != k + 2 * (j : Int) + 1) = false := by simp
      go_wp2_with fail
      go_round
      case rel => exact ⟨j + 1, by omega, by go_num, by go_num⟩
      case measure => simp [intOf]; omega
    · obtain rfl : j = n := by omega
      go_wp2_with fail
      go_ret
      exact ⟨rfl, rfl⟩
/-! ### With their bounds -/
def OwnDR (w : World) (B C : Nat) (v : Value) (l : List (Int × Int)) : Prop := OwnD w B v l ∧ ∀ g, v.ownBlock = some g → g < C
theorem OwnD.range {w : World} {B : Nat} {v : Value} {l : List (Int × Int)} (h : OwnD w B v l) : OwnDR w B w.heap.size v l := ⟨h, fun g hg => (h.lt g hg).2⟩
theorem OwnDR.same {w w' : World} {B C : Nat} {v : Value} {l : List (Int × Int)} (h : OwnDR w B C v l) (hs : Same B C w w') : OwnDR w' B C v l := by
  refine ⟨⟨h.1.1, ?_⟩, h.2⟩
  rcases h.1.2 with hn | ⟨g, cap, cur, rfl, hB, hgg, rest⟩
  · exact .inl hn
  · exact .inr ⟨g, cap, cur, rfl, hB, (hs g hB (h.2 g rfl)).trans hgg, rest⟩
theorem OwnDR.read {w : World} {B C : Nat} {v : Value} {l : List (Int × Int)} (h : OwnDR w B C v l) : ReadD w v l := h.1.read
def MarkDs (k : Int) (l : List (Int × Int)) (B C : Nat) (v : Value) (w : World) (e : Ending) (w' : World) : Prop := e = .returned (.int .i64 (k + 2 * (l.length : Int))) ∧ OwnDR w' B C v (upD k l.length) ∧ Mid B C w w'
theorem markDepR_any (v : Value) (l : List (Int × Int)) (k : Int) (B C : Nat) (w : World) (ho : OwnDR w B C v l) (hl : l.length ≤ 1048576) (hk0 : -1000000000 ≤ k) (hk1 : k ≤ 1000000000) :
    Calls Try.prog 17 #[v, .int .i64 k] w (MarkDs k l B C v w) :=
  (markD_any v l k B w ho.1 hl hk0 hk1).mono fun _ _ ⟨a, b, c⟩ => ⟨a, ⟨b, ho.2⟩, Mid.ofGrown c fun g hg => ⟨(ho.1.lt g hg).1, ho.2 g hg⟩⟩
theorem heldDepR_any (v : Value) (n : Nat) (k : Int) (w : World) (hr : ReadD w v (upD k n)) (hl : n ≤ 1048576) (hk0 : -1000000000 ≤ k) (hk1 : k ≤ 1000000000) :
    Calls Try.prog 25 #[v, .int .i64 k] w fun e w' => e = .returned (.int .i64 (k + 2 * (n : Int))) ∧ Below w.heap.size w w' :=
  (heldD_any v n k w hr hl hk0 hk1).mono fun _ w' ⟨a, b⟩ => ⟨a, by rw [← b]; exact Below.refl _ _⟩
end Go.Proofs.Ytcgkfbjdlhapkaa
namespace Go.Proofs.Ytcgkfbjdlhapkaa
open Go.RowKit

/-- A row: 0 in the columns of X, v in the others. -/
def rowA (X : Nat) (v : Int) : Nat → List Int
  | 0 => []
  | k + 1 => rowA X v k ++ [if bitB X k = true then 0 else v]
theorem rowA_len (X : Nat) (v : Int) : ∀ C, (rowA X v C).length = C
  | 0 => rfl
  | k + 1 => by unfold rowA; rw [List.length_append, rowA_len X v k]; rfl
theorem rowA_get (X : Nat) (v : Int) : ∀ C j, j < C → (rowA X v C).getD j 0 = if bitB X j = true then 0 else v
  | 0, _, h => absurd h (by omega)
  | k + 1, j, h => by
    unfold rowA
    rw [List.getD_eq_getElem?_getD]
    by_cases e : j < k
    · rw [List.getElem?_append_left (by rw [rowA_len]; exact e), ← List.getD_eq_getElem?_getD]
      exact rowA_get X v k j e
    · obtain rfl : j = k := by omega
      rw [List.getElem?_append_right (by rw [rowA_len]; omega), rowA_len, Nat.sub_self]
      rfl
theorem rowA_mem {X : Nat} {v : Int} : ∀ {C : Nat} {x : Int}, x ∈ rowA X v C → x = 0 ∨ x = v
  | 0, _, h => by cases h
  | k + 1, x, h => by
    unfold rowA at h
    rw [List.mem_append] at h
    rcases h with h | h
    · exact rowA_mem h
    · rw [List.mem_singleton] at h
      rw [h]
      split
      · exact .inl rfl
      · exact .inr rfl
/-- The rows of a list of sets and values. -/
def rowsA (C : Nat) (ps : List (Nat × Int)) : List (List Int) := ps.map fun p => rowA p.1 p.2 C
theorem rowsA_get (C : Nat) (ps : List (Nat × Int)) {i : Nat} (h : i < ps.length) : (rowsA C ps).getD i [] = rowA (ps.getD i (0, 0)).1 (ps.getD i (0, 0)).2 C := by
  unfold rowsA
  rw [List.getD_eq_getElem?_getD, List.getElem?_map, List.getD_eq_getElem?_getD, List.getElem?_eq_getElem h]
  rfl
/-- The values ascend, from 0 with all columns on. -/
structure AscZ (C : Nat) (ps : List (Nat × Int)) : Prop where
  pos : 0 < ps.length
  first : ps.getD 0 (0, 0) = (2 ^ C - 1, 0)
  asc : ∀ a b, a < b → b < ps.length → (ps.getD a (0, 0)).2 < (ps.getD b (0, 0)).2
theorem full_bit : ∀ (C : Fin 6) (j : Fin 5), bitB (2 ^ C.val - 1) j.val = decide (j.val < C.val) := by decide +kernel
theorem low12 : ∀ (C : Fin 6) (x : Fin 32) (j : Fin 5), x.val < 2 ^ C.val → C.val ≤ j.val → bitB x.val j.val = false := by decide +kernel
theorem AscZ.up {C : Nat} {ps : List (Nat × Int)} (h : AscZ C ps) {b : Nat} (hb0 : 0 < b) (hb : b < ps.length) : 0 < (ps.getD b (0, 0)).2 := by
  have := h.asc 0 b hb0 hb
  rw [h.first] at this
  exact this
/-- Two rows agree in what their sets have in common. -/
theorem rows_agree {C : Nat} (hC : C ≤ 5) {ps : List (Nat × Int)} (h : AscZ C ps) {a b : Nat} (hab : a < b) (hb : b < ps.length) {S : Nat} (hS : S < 2 ^ C) :
    agB C (rowsA C ps) 0 (S : Int) a b = true ↔ ∀ j, j < C → bitB S j = true → bitB (ps.getD a (0, 0)).1 j = true ∧ bitB (ps.getD b (0, 0)).1 j = true := by
  rw [agB_iff C (rowsA C ps) 0 S a b hC hS]
  have hv := h.asc a b hab hb
  have hv0 := h.up (b := b) (by omega) hb
  have key : ∀ j, j < C → (eqC 0 (((rowsA C ps).getD a []).getD j 0) (((rowsA C ps).getD b []).getD j 0) = true ↔ bitB (ps.getD a (0, 0)).1 j = true ∧ bitB (ps.getD b (0, 0)).1 j = true) := by
    intro j hj
    rw [rowsA_get C ps (by omega), rowsA_get C ps hb, rowA_get _ _ C j hj, rowA_get _ _ C j hj]
    unfold eqC
    rw [decide_eq_true_iff]
    by_cases ha : a = 0
    · subst ha
      rw [h.first]
      simp only
      have hf := full_bit ⟨C, by omega⟩ ⟨j, by omega⟩
      simp only at hf
      rw [hf, decide_eq_true hj]
      obtain ⟨vb, hvb⟩ : ∃ vb, vb = (ps.getD b (0, 0)).2 := ⟨_, rfl⟩
      obtain ⟨Xb, hXb⟩ : ∃ Xb, Xb = (ps.getD b (0, 0)).1 := ⟨_, rfl⟩
      rw [← hvb] at hv0 ⊢
      rw [← hXb]
      cases bitB Xb j <;> simp <;> omega
    · have hva := h.up (b := a) (by omega) (by omega)
      obtain ⟨vb, hvb⟩ : ∃ vb, vb = (ps.getD b (0, 0)).2 := ⟨_, rfl⟩
      obtain ⟨Xb, hXb⟩ : ∃ Xb, Xb = (ps.getD b (0, 0)).1 := ⟨_, rfl⟩
      obtain ⟨u, hu⟩ : ∃ u, u = (ps.getD a (0, 0)).2 := ⟨_, rfl⟩
      obtain ⟨Xa, hXa⟩ : ∃ Xa, Xa = (ps.getD a (0, 0)).1 := ⟨_, rfl⟩
      rw [← hvb] at hv0 hv ⊢
      rw [← hu] at hv hva ⊢
      rw [← hXb, ← hXa]
      cases bitB Xa j <;> cases bitB Xb j <;> simp <;> omega
  constructor
  · intro h j hj hb; exact (key j hj).1 (h j hj hb)
  · intro h j hj hb; exact (key j hj).2 (h j hj hb)
/-- What holds in such a table hangs on the sets alone. -/
theorem rows_hold {C : Nat} (hC : C ≤ 5) {ps : List (Nat × Int)} (h : AscZ C ps) (hX : ∀ p ∈ ps, p.1 < 2 ^ C) {L R : Nat} (hL : L < 2 ^ C) (hR : R < C) :
    HoldsAll C (rowsA C ps) 0 L R ↔ ∀ p ∈ ps, subN L p.1 = true → bitB p.1 R = true := by
  have h32 := two5 hC
  have hR2 : 2 ^ R < 2 ^ C := Nat.pow_lt_pow_right (by omega) hR
  have hlen : (rowsA C ps).length = ps.length := List.length_map _
  have hpb := fun (j : Nat) (hj : j < 5) => pow_bit ⟨R, by omega⟩ ⟨j, hj⟩
  simp only at hpb
  have hmem : ∀ {i : Nat}, i < ps.length → ps.getD i (0, 0) ∈ ps := fun {i} hi => by
    rw [List.getD_eq_getElem?_getD, List.getElem?_eq_getElem hi]; exact List.getElem_mem hi
  have hsub : ∀ {X : Nat}, X < 2 ^ C → (subN L X = true ↔ ∀ j, j < C → bitB L j = true → bitB X j = true) := fun {X} hX => by
    rw [subN_bit ⟨L, by omega⟩ ⟨X, by omega⟩]
    constructor
    · intro h j hj hb; exact h ⟨j, by omega⟩ hb
    · intro h j hb
      by_cases hj : j.val < C
      · exact h j hj hb
      · have := low12 ⟨C, by omega⟩ ⟨L, by omega⟩ j hL (Nat.not_lt.1 hj)
        rw [this] at hb
        cases hb
  constructor
  · intro hh p hp hs
    obtain ⟨b, hb, rfl⟩ := List.getElem_of_mem hp
    have hg : ps.getD b (0, 0) = ps[b] := by rw [List.getD_eq_getElem?_getD, List.getElem?_eq_getElem hb]; rfl
    rw [← hg] at hs hp ⊢
    by_cases hb0 : b = 0
    · subst hb0
      rw [h.first]
      have hf := full_bit ⟨C, by omega⟩ ⟨R, by omega⟩
      simp only at hf
      rw [hf, decide_eq_true hR]
    · have h1 := hh 0 b (by omega) (by rw [hlen]; exact hb) ((rows_agree hC h (by omega) hb hL).2 fun j hj hbj => ⟨by
        rw [h.first]
        have hf := full_bit ⟨C, by omega⟩ ⟨j, by omega⟩
        simp only at hf
        rw [hf, decide_eq_true hj], (hsub (hX _ hp)).1 hs j hj hbj⟩)
      exact ((rows_agree hC h (by omega) hb hR2).1 h1 R hR (by rw [hpb R (by omega)]; exact decide_eq_true rfl)).2
  · intro hh a b hab hb hag
    rw [hlen] at hb
    have h1 := (rows_agree hC h hab hb hL).1 hag
    refine (rows_agree hC h hab hb hR2).2 fun j hj hbj => ?_
    rw [hpb j (by omega)] at hbj
    have e : j = R := of_decide_eq_true hbj
    subst e
    exact ⟨hh _ (hmem (by omega)) ((hsub (hX _ (hmem (by omega)))).2 fun j hj hbj => (h1 j hj hbj).1), hh _ (hmem hb) ((hsub (hX _ (hmem hb))).2 fun j hj hbj => (h1 j hj hbj).2)⟩
/-- The sets and values of an example table: all columns, and each closed set but that one. -/
def armP (C : Nat) (c : List Int) : Nat → List (Nat × Int)
  | 0 => [(2 ^ C - 1, 0)]
  | i + 1 => if c.getD i 0 = (2 : Int) ^ C - 1 then armP C c i else armP C c i ++ [((c.getD i 0).toNat, (i : Int) + 1)]
theorem armP_mem {C : Nat} {c : List Int} {p : Nat × Int} : ∀ i, (p ∈ armP C c i ↔ p = (2 ^ C - 1, 0) ∨ ∃ j, j < i ∧ c.getD j 0 ≠ (2 : Int) ^ C - 1 ∧ p = ((c.getD j 0).toNat, (j : Int) + 1))
  | 0 => by
    unfold armP
    rw [List.mem_singleton]
    constructor
    · exact .inl
    · rintro (h | ⟨j, h, -⟩)
      · exact h
      · exact absurd h (by omega)
  | i + 1 => by
    have ih := armP_mem (C := C) (c := c) (p := p) i
    unfold armP
    split
    · rename_i he
      rw [ih]
      constructor
      · rintro (h | ⟨j, h1, h2⟩)
        · exact .inl h
        · exact .inr ⟨j, by omega, h2⟩
      · rintro (h | ⟨j, h1, h2, h3⟩)
        · exact .inl h
        · by_cases e : j = i
          · subst e; exact absurd he h2
          · exact .inr ⟨j, by omega, h2, h3⟩
    · rename_i he
      rw [List.mem_append, List.mem_singleton, ih]
      constructor
      · rintro ((h | ⟨j, h1, h2⟩) | h)
        · exact .inl h
        · exact .inr ⟨j, by omega, h2⟩
        · exact .inr ⟨i, by omega, he, h⟩
      · rintro (h | ⟨j, h1, h2, h3⟩)
        · exact .inl (.inl h)
        · by_cases e : j = i
          · subst e; exact .inr h3
          · exact .inl (.inr ⟨j, by omega, h2, h3⟩)
theorem armP_len (C : Nat) (c : List Int) : ∀ i, (armP C c i).length ≤ i + 1
  | 0 => Nat.le_refl _
  | i + 1 => by
    have := armP_len C c i
    unfold armP
    split
    · omega
    · rw [List.length_append]; simp; omega
theorem armP_asc (C : Nat) (c : List Int) : ∀ i, AscZ C (armP C c i) ∧ ∀ p ∈ armP C c i, p.2 ≤ (i : Int)
  | 0 => by
    refine ⟨⟨Nat.zero_lt_one, rfl, fun a b h hb => ?_⟩, fun p hp => ?_⟩
    · unfold armP at hb
      simp at hb
      omega
    · unfold armP at hp
      rw [List.mem_singleton] at hp
      rw [hp]
      exact Int.le_refl _
  | i + 1 => by
    obtain ⟨h1, h2⟩ := armP_asc C c i
    unfold armP
    split
    · exact ⟨h1, fun p hp => by have := h2 p hp; omega⟩
    · have hg : ∀ a, a < (armP C c i).length → (armP C c i ++ [((c.getD i 0).toNat, (i : Int) + 1)]).getD a (0, 0) = (armP C c i).getD a (0, 0) := fun a ha => by
        rw [List.getD_eq_getElem?_getD, List.getElem?_append_left ha, ← List.getD_eq_getElem?_getD]
      refine ⟨⟨by rw [List.length_append]; have := h1.pos; omega, by rw [hg 0 h1.pos]; exact h1.first, fun a b hab hb => ?_⟩, fun p hp => ?_⟩
      · rw [List.length_append] at hb
        simp only [List.length_singleton] at hb
        rw [hg a (by omega)]
        by_cases e : b < (armP C c i).length
        · rw [hg b e]; exact h1.asc a b hab e
        · have hm : (armP C c i).getD a (0, 0) ∈ armP C c i := by
            rw [List.getD_eq_getElem?_getD, List.getElem?_eq_getElem (show a < (armP C c i).length by omega)]; exact List.getElem_mem _
          have := h2 _ hm
          have hb' : (armP C c i ++ [((c.getD i 0).toNat, (i : Int) + 1)]).getD b (0, 0) = ((c.getD i 0).toNat, (i : Int) + 1) := by
            rw [List.getD_eq_getElem?_getD, List.getElem?_append_right (by omega), show b - (armP C c i).length = 0 by omega]; rfl
          rw [hb']
          show _ < (i : Int) + 1
          omega
      · rw [List.mem_append, List.mem_singleton] at hp
        rcases hp with hp | hp
        · have := h2 p hp; omega
        · rw [hp]; exact Int.le_refl _
/-- The rows of the example table. -/
def armL (n : Int) (l : List (Int × Int)) : List (List Int) := if arD n l = true then rowsA n.toNat (armP n.toNat (clsL n l) (clsL n l).length) else []
theorem closed_full {C : Nat} {l : List (Int × Int)} (hC : C ≤ 5) (hl : DepsN C l) : ClosedN l (2 ^ C - 1) := by
  intro d hd _
  obtain ⟨L, R, e, hL, hR⟩ := hl d hd
  have hf := full_bit ⟨C, by omega⟩ ⟨R, by omega⟩
  simp only at hf
  rw [e]
  show bitB (2 ^ C - 1) R = true
  rw [hf, decide_eq_true hR]
theorem cls_len (n : Int) (l : List (Int × Int)) : (clsL n l).length ≤ 32 := by
  unfold clsL
  split
  · rename_i h
    obtain ⟨C, rfl, h1, h5, -, -⟩ := arD_n h
    have := brdTo_len (clB l) (2 ^ C)
    have := two5 h5
    show (brdTo (clB l) (2 ^ C)).length ≤ 32
    omega
  · exact Nat.zero_le _
/-- An example table is a table; what holds in it is what follows. -/
theorem arm_facts {C : Nat} {l : List (Int × Int)} (ha : arD (C : Int) l = true) :
    isT (C : Int) (armL (C : Int) l) = true ∧ (∀ x ∈ l, holdsD (C : Int) (armL (C : Int) l) 0 x.1 x.2 = true) ∧ ∀ L R : Nat, L < 2 ^ C → R < C → holdsD (C : Int) (armL (C : Int) l) 0 (L : Int) (R : Int) = bitB (clo l L) R := by
  obtain ⟨C', e, h1, h5, -, hd⟩ := arD_n ha
  obtain rfl : C = C' := by omega
  have h32 := two5 h5
  have hE : armL (C : Int) l = rowsA C (armP C (clsL (C : Int) l) (clsL (C : Int) l).length) := by unfold armL; rw [if_pos ha]; rfl
  have hlen := cls_len (C : Int) l
  obtain ⟨k1, k2⟩ := armP_asc C (clsL (C : Int) l) (clsL (C : Int) l).length
  have k3 := armP_len C (clsL (C : Int) l) (clsL (C : Int) l).length
  have kp : ∀ p ∈ armP C (clsL (C : Int) l) (clsL (C : Int) l).length, p.1 < 2 ^ C ∧ ClosedN l p.1 ∧ 0 ≤ p.2 := by
    intro p hp
    rcases (armP_mem _).1 hp with rfl | ⟨j, hj, hne, rfl⟩
    · have : 0 < 2 ^ C := Nat.pow_pos (by omega)
      exact ⟨by show 2 ^ C - 1 < 2 ^ C; omega, closed_full h5 hd, Int.le_refl _⟩
    · have hm : (clsL (C : Int) l).getD j 0 ∈ clsL (C : Int) l := by rw [List.getD_eq_getElem?_getD, List.getElem?_eq_getElem hj]; exact List.getElem_mem hj
      obtain ⟨x, hx, hc, he⟩ := (cls_mem ha _).1 hm
      rw [he]
      exact ⟨hx, hc, by omega⟩
  have hT : isT (C : Int) (armL (C : Int) l) = true := by
    rw [hE]
    unfold isT
    rw [Bool.and_eq_true, Bool.and_eq_true, decide_eq_true_iff, decide_eq_true_iff, List.all_eq_true]
    refine ⟨fun r hr => ?_, ⟨by omega, by omega⟩, by unfold rowsA; rw [List.length_map]; omega⟩
    unfold rowsA at hr
    obtain ⟨p, hp, rfl⟩ := List.mem_map.1 hr
    unfold rowOk
    rw [Bool.and_eq_true, List.all_eq_true, decide_eq_true_iff]
    refine ⟨fun x hx => ?_, by rw [rowA_len]⟩
    have h2 := k2 p hp
    have h0 := (kp p hp).2.2
    unfold cellOk
    rcases rowA_mem hx with rfl | rfl
    · simp
    · simp; omega
  have hF : ∀ L R : Nat, L < 2 ^ C → R < C → holdsD (C : Int) (armL (C : Int) l) 0 (L : Int) (R : Int) = bitB (clo l L) R := by
    intro L R hL hR
    have hok : okD (C : Int) (armL (C : Int) l) 0 (L : Int) (R : Int) = true := by
      unfold okD fineT
      rw [hT, depB_iff.2 ⟨⟨by omega, by omega⟩, isA_fit h5 hL, by omega, by omega⟩]
      rfl
    rw [Bool.eq_iff_iff, holds_iff hok rfl rfl rfl h5 hR, hE, rows_hold h5 k1 (fun p hp => (kp p hp).1) hL hR]
    obtain ⟨c1, c2, c3, c4, c5⟩ := clo_spec h5 hd (x := L) (by omega)
    constructor
    · intro h
      refine Classical.byContradiction fun hno => ?_
      have hm : ((clo l L : Nat) : Int) ∈ clsL (C : Int) l := (cls_mem ha _).2 ⟨_, c3 hL, c4, rfl⟩
      obtain ⟨j, hj, hg⟩ := List.getElem_of_mem hm
      have hg' : (clsL (C : Int) l).getD j 0 = ((clo l L : Nat) : Int) := by rw [List.getD_eq_getElem?_getD, List.getElem?_eq_getElem hj]; exact hg
      have hne : (clsL (C : Int) l).getD j 0 ≠ (2 : Int) ^ C - 1 := by
        rw [hg']
        intro e
        have hz : ((2 ^ C : Nat) : Int) = (2 : Int) ^ C := by rw [Int.natCast_pow]; rfl
        have hp : 0 < 2 ^ C := Nat.pow_pos (by omega)
        have e' : clo l L = 2 ^ C - 1 := by omega
        have hf := full_bit ⟨C, by omega⟩ ⟨R, by omega⟩
        simp only at hf
        rw [e', hf, decide_eq_true hR] at hno
        exact hno rfl
      exact hno (by
        have := h (((clsL (C : Int) l).getD j 0).toNat, (j : Int) + 1) ((armP_mem _).2 (.inr ⟨j, hj, hne, rfl⟩)) (by rw [hg']; exact c2)
        rw [hg'] at this
        exact this)
    · intro h p hp hs
      exact sub_bitN c1 (by have := (kp p hp).1; omega) (c5 _ (by have := (kp p hp).1; omega) hs (kp p hp).2.1) (by omega) h
  refine ⟨hT, fun x hx => ?_, hF⟩
  obtain ⟨L, R, rfl, hL, hR⟩ := hd x hx
  rw [hF L R hL hR]
  obtain ⟨c1, c2, c3, c4, c5⟩ := clo_spec h5 hd (x := L) (by omega)
  exact c4 _ hx c2
/-- The rows of a table in which the dependencies hold and another one does not. -/
def ctrL (n : Int) (l : List (Int × Int)) (d : Int × Int) : List (List Int) := if arD n l = true ∧ depB n d.1 d.2 = true ∧ impB n l d = false then rowsA n.toNat [(2 ^ n.toNat - 1, 0), (clo l d.1.toNat, 1)] else []
def ctrB (n : Int) (l : List (Int × Int)) (d : Int × Int) : Bool := decide (arD n l = true ∧ depB n d.1 d.2 = true ∧ impB n l d = false)
theorem isA_lt12 {C : Nat} {x : Int} (hC : C ≤ 5) (h : isA (C : Int) x = true) : ∃ X : Nat, x = (X : Int) ∧ X < 32 ∧ X < 2 ^ C := by
  unfold isA at h
  rw [decide_eq_true_iff, show ((C : Int)).toNat = C from rfl] at h
  have h32 := two5 hC
  have hz : ((2 ^ C : Nat) : Int) = (2 : Int) ^ C := by rw [Int.natCast_pow]; rfl
  exact ⟨x.toNat, by omega, by omega, by omega⟩
theorem ctr_facts {n : Int} {l : List (Int × Int)} {d : Int × Int} (h : ctrB n l d = true) :
    isT n (ctrL n l d) = true ∧ (∀ x ∈ l, holdsD n (ctrL n l d) 0 x.1 x.2 = true) ∧ holdsD n (ctrL n l d) 0 d.1 d.2 = false ∧ (ctrL n l d).length = 2 := by
  have hc := of_decide_eq_true h
  obtain ⟨ha, hb, hi⟩ := hc
  obtain ⟨C, rfl, h1, h5, -, hd⟩ := arD_n ha
  have h32 := two5 h5
  obtain ⟨⟨-, -⟩, hA, hr0, hr1⟩ := depB_iff.1 hb
  obtain ⟨L, hL', hL32, hL⟩ := isA_lt12 h5 hA
  obtain ⟨R, hR'⟩ : ∃ R : Nat, d.2 = (R : Int) := ⟨d.2.toNat, by omega⟩
  have hR : R < C := by omega
  have hE : ctrL (C : Int) l d = rowsA C [(2 ^ C - 1, 0), (clo l L, 1)] := by
    unfold ctrL
    rw [if_pos ⟨ha, hb, hi⟩, hL']
    rfl
  have hno : bitB (clo l L) R = false := by
    unfold impB at hi
    rw [ha, hb, hL', hR', Bool.true_and, Bool.true_and] at hi
    exact hi
  obtain ⟨c1, c2, c3, c4, c5⟩ := clo_spec h5 hd (x := L) hL32
  have kA : AscZ C [(2 ^ C - 1, 0), (clo l L, 1)] := ⟨Nat.zero_lt_two, rfl, fun a b hab hb => by
    simp only [List.length_cons, List.length_nil] at hb
    obtain rfl : a = 0 := by omega
    obtain rfl : b = 1 := by omega
    exact Int.zero_lt_one⟩
  have kp : ∀ p ∈ [((2 ^ C - 1 : Nat), (0 : Int)), (clo l L, 1)], p.1 < 2 ^ C ∧ ClosedN l p.1 ∧ (p.2 = 0 ∨ p.2 = 1) := by
    intro p hp
    rcases List.mem_cons.1 hp with rfl | hp
    · have : 0 < 2 ^ C := Nat.pow_pos (by omega)
      exact ⟨by show 2 ^ C - 1 < 2 ^ C; omega, closed_full h5 hd, .inl rfl⟩
    · rw [List.mem_singleton] at hp
      subst hp
      exact ⟨c3 hL, c4, .inr rfl⟩
  have hT : isT (C : Int) (ctrL (C : Int) l d) = true := by
    rw [hE]
    unfold isT
    rw [Bool.and_eq_true, Bool.and_eq_true, decide_eq_true_iff, decide_eq_true_iff, List.all_eq_true]
    refine ⟨fun r hr => ?_, ⟨by omega, by omega⟩, by unfold rowsA; rw [List.length_map]; simp⟩
    unfold rowsA at hr
    obtain ⟨p, hp, rfl⟩ := List.mem_map.1 hr
    unfold rowOk
    rw [Bool.and_eq_true, List.all_eq_true, decide_eq_true_iff]
    refine ⟨fun x hx => ?_, by rw [rowA_len]⟩
    have h2 := (kp p hp).2.2
    unfold cellOk
    rcases rowA_mem hx with rfl | rfl
    · simp
    · simp; omega
  have hF : ∀ L' R' : Nat, L' < 2 ^ C → R' < C → (holdsD (C : Int) (ctrL (C : Int) l d) 0 (L' : Int) (R' : Int) = true ↔ ∀ p ∈ [((2 ^ C - 1 : Nat), (0 : Int)), (clo l L, 1)], subN L' p.1 = true → bitB p.1 R' = true) := by
    intro L' R' hL' hR'
    have hok : okD (C : Int) (ctrL (C : Int) l d) 0 (L' : Int) (R' : Int) = true := by
      unfold okD fineT
      rw [hT, depB_iff.2 ⟨⟨by omega, by omega⟩, isA_fit h5 hL', by omega, by omega⟩]
      rfl
    rw [holds_iff hok rfl rfl rfl h5 hR', hE, rows_hold h5 kA (fun p hp => (kp p hp).1) hL' hR']
  refine ⟨hT, fun x hx => ?_, ?_, by rw [hE]; rfl⟩
  · have hx' := hx
    obtain ⟨L', R', rfl, hL2, hR2⟩ := hd x hx
    exact (hF L' R' hL2 hR2).2 fun p hp hs => (kp p hp).2.1 _ hx' hs
  · rw [hL', hR', Bool.eq_false_iff]
    intro hh
    have := (hF L R hL hR).1 hh (clo l L, 1) (by simp) c2
    rw [hno] at this
    cases this
end Go.Proofs.Ytcgkfbjdlhapkaa
namespace Go.Proofs.Ytcgkfbjdlhapkaa
open Go.RowKit

/-- A table in memory of the call's own, and a bool. -/
def RetTB (rc : Int) (d : List (List Int)) (ok : Bool) (w : World) (e : Ending) (w' : World) : Prop :=
  ∃ v, e = .returned (.tuple #[.agg #[.int .i64 rc, v], .bool ok]) ∧ OwnSS w' w.heap.size w'.heap.size v d ∧ Below w.heap.size w w'
theorem rowA_zero (X : Nat) : ∀ C, rowA X 0 C = List.replicate C 0
  | 0 => rfl
  | C + 1 => by
    unfold rowA
    rw [rowA_zero X C, List.replicate_succ']
    congr 1
    split <;> rfl
theorem make_zeros (C : Nat) (hC : C ≤ 1000) (w : World) : (Instr.makeSlice 24 (.int .i64 (C : Int)) (.int .i64 (C : Int))).run Try.prog w = .ok (.slice (some ⟨w.heap.size, 0, none⟩) C C) (w.alloc (.cells (madeCells (Value.cells (.int .i64 0)) (C * 1)) 3)) := by
  obtain ⟨i0, hi, hz0, hz1, hz2⟩ := info_parts info3j
  have h := run_make (P := Try.prog) w 24 3 i0 (.int .i64 0) Try.underlying24 hi hz0 .i64 .i64 (C : Int) (C : Int) (by omega) (Int.le_refl _) (by rw [hz2]; omega) (by omega)
  rw [hz1] at h
  simp only [Int.toNat_natCast] at h
  exact h
theorem own_zeros (w : World) (B C : Nat) (hB : B ≤ w.heap.size) (hC : C ≤ 1000) : OwnI (w.alloc (.cells (madeCells (Value.cells (.int .i64 0)) (C * 1)) 3)) B (.slice (some ⟨w.heap.size, 0, none⟩) C C) (List.replicate C 0) :=
  OwnI.full (World.ownsRow_lit w _ C hB (by unfold maxLen; omega) (size_madeCells _ _))
/-- Two rows of a table, each in a block of its own. -/
theorem own_two {w : World} {B C a : Nat} {u0 u1 : Value} {l0 l1 : List Int} (h0 : OwnI w B u0 l0) (h1 : OwnI w B u1 l1) (hne : ∀ g, u0.ownBlock = some g → u1.ownBlock ≠ some g) (hB : B ≤ w.heap.size)
    (hC : C = (w.alloc (.cells #[u0, u1] 24)).heap.size) (ha : a = w.heap.size) : OwnSS (w.alloc (.cells #[u0, u1] 24)) B C (.slice (some ⟨a, 0, none⟩) 2 2) [l0, l1] := by
  subst hC ha
  have k0 : OwnI (w.alloc (.cells #[u0, u1] 24)) B u0 l0 := World.ownsRow.alloc h0 _
  have k1 : OwnI (w.alloc (.cells #[u0, u1] 24)) B u1 l1 := World.ownsRow.alloc h1 _
  refine ⟨fun i => if i = 0 then u0 else u1, ?_, fun g hg => ?_, fun i hi => ?_, fun i j hij hj g hg => ?_⟩
  · exact World.ownsRow_lit w #[u0, u1] 2 hB (by unfold maxLen; omega) rfl
  · simp [Value.ownBlock] at hg
    rw [← hg]; simp
  · have hi2 : i < 2 := hi
    rcases (show i = 0 ∨ i = 1 by omega) with rfl | rfl
    · exact ⟨k0, fun g hg => (k0.lt g hg).2⟩
    · exact ⟨k1, fun g hg => (k1.lt g hg).2⟩
  · have hj2 : j < 2 := hj
    obtain rfl : i = 0 := by omega
    obtain rfl : j = 1 := by omega
    exact hne g hg
end Go.Proofs.Ytcgkfbjdlhapkaa
namespace Go.Proofs.Ytcgkfbjdlhapkaa
open Go.RowKit

def ctrC (n : Int) (l : List (Int × Int)) (d : Int × Int) : Int := if ctrB n l d = true then n else 0
theorem ctr_none {n : Int} {l : List (Int × Int)} {d : Int × Int} (h : ¬ (arD n l = true ∧ depB n d.1 d.2 = true ∧ impB n l d = false)) : ctrC n l d = 0 ∧ ctrL n l d = [] ∧ ctrB n l d = false := by
  have hb : ctrB n l d = false := decide_eq_false h
  exact ⟨by unfold ctrC; rw [hb]; rfl, by unfold ctrL; rw [if_neg h], hb⟩
theorem bit_val (X k : Nat) : bits BinOp.and IntKind.i64 ((X : Int) / 2 ^ k) 1 = if bitB X k = true then 1 else 0 := by
  have e : (X : Int) / 2 ^ k % 2 = ((X / 2 ^ k % 2 : Nat) : Int) := by
    rw [Int.natCast_emod, Int.natCast_ediv, Int.natCast_pow]; rfl
  rw [i64_and_1, e]
  unfold bitB
  split
  · rename_i h
    rw [beq_iff_eq] at h
    rw [h]; rfl
  · rename_i h
    rw [beq_iff_eq] at h
    have : X / 2 ^ k % 2 = 0 := by omega
    rw [this]; rfl
section
set_option maxRecDepth 20000
set_option maxHeartbeats 3200000
end
end Go.Proofs.Ytcgkfbjdlhapkaa
