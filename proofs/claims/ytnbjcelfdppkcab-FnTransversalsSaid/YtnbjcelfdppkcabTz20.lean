/- Texts of this claim, merged: MvA, DepG, DepH, OwnDs. Conditions: as stated. -/
import Derived.Test.YtnbjcelfdppkcabTz19
import Derived.Test.YtnbjcelfdppkcabTz17
import Derived.Deep.Quiet
import Derived.Deep.RegionLaw
import Derived.Deep.RegionHeld3
import Derived.Test.YtnbjcelfdppkcabTz16
import Derived.Test.YtnbjcelfdppkcabTz2
namespace Go.Proofs.Ytnbjcelfdppkcab
open Go.RowKit

section
set_option maxRecDepth 20000
set_option maxHeartbeats 1600000
theorem rng_snoc {p : Nat → Bool} {k : Nat} (h : (List.range k).all p = true) (hp : p k = true) : (List.range (k + 1)).all p = true := by
  rw [List.range_succ, List.all_append, h]; simp [hp]
theorem rng_not {p : Nat → Bool} {k n : Nat} (hk : k < n) (hp : p k = false) : (List.range n).all p = false := by
  cases h : (List.range n).all p with
  | false => rfl
  | true => have := List.all_eq_true.1 h k (List.mem_range.2 hk); rw [hp] at this; cases this
theorem drop_b : ∀ (L : Fin 32) (i : Fin 5), bitB L.val i.val = true → bits .andNot .i64 ((L.val : Nat) : Int) ((2 ^ i.val : Nat) : Int) = ((L.val - 2 ^ i.val : Nat) : Int) := by decide +kernel
theorem wrap_pw5 : ∀ i : Fin 5, IntKind.i64.wrap (2 ^ i.val) = ((2 ^ i.val : Nat) : Int) := by decide +kernel
/-- What the box of a table and the box of a dependency hold. -/
def TDc (w : World) (b : Nat) (c : Int) (v : Value) (l r : Int) : Prop :=
  (w.cell? ⟨b, 0, none⟩ = some (.int .i64 c) ∧ w.cell? ⟨b, 1, none⟩ = some v) ∧ w.cell? ⟨b + 1, 0, none⟩ = some (.int .i64 l) ∧ w.cell? ⟨b + 1, 1, none⟩ = some (.int .i64 r)
theorem TDc.kept {w w' : World} {b : Nat} {c l r : Int} {v : Value} (h : TDc w b c v l r) (hb : Below w.heap.size w w') : TDc w' b c v l r :=
  ⟨⟨(hb.cell (World.block_lt_of_cell? _ _ h.1.1)).trans h.1.1, (hb.cell (World.block_lt_of_cell? _ _ h.1.2)).trans h.1.2⟩, (hb.cell (World.block_lt_of_cell? _ _ h.2.1)).trans h.2.1, (hb.cell (World.block_lt_of_cell? _ _ h.2.2)).trans h.2.2⟩
theorem TDc.mk' (w : World) (T T' : TypeId) (c : Int) (v : Value) (l r : Int) : TDc ((w.alloc (.cells #[.int .i64 c, v] T)).alloc (.cells #[.int .i64 l, .int .i64 r] T')) w.heap.size c v l r := boxTD (Below.refl _ _)
theorem keepTc {w4 w' w'' : World} {b : Nat} {c l r : Int} {v : Value} (h : TDc w' b c v l r ∧ Below w4.heap.size w4 w') (hb : Below w'.heap.size w' w'') : TDc w'' b c v l r ∧ Below w4.heap.size w4 w'' := ⟨h.1.kept hb, h.2.trans (hb.mono h.2.size)⟩
end
section
set_option maxRecDepth 20000
set_option maxHeartbeats 3200000
end
end Go.Proofs.Ytnbjcelfdppkcab
namespace Go.Proofs.Ytnbjcelfdppkcab
open Go.RowKit

/-- The slice value v can be read: it holds these dependencies. -/
def ReadD (w : World) (v : Value) (ds : List (Int × Int)) : Prop :=
  ∃ (a : Option Addr) (cap : Nat), v = .slice a ds.length cap ∧ ∀ i, i < ds.length → ∃ b o, a = some ⟨b, o, none⟩ ∧ w.cell? ⟨b, o + i * 2, none⟩ = some (.int .i64 (ds.getD i (0, 0)).1) ∧ w.cell? ⟨b, o + i * 2 + 1, none⟩ = some (.int .i64 (ds.getD i (0, 0)).2)
set_option maxHeartbeats 800000 in
theorem sameDeps_any (v v' : Value) (d e : List (Int × Int)) (w : World) (hr : ReadD w v d) (hr' : ReadD w v' e) (hl : d.length ≤ 1048576) :
    Calls Try.prog 16 #[v, v'] w fun e' w' => e' = .returned (.bool (decide (d = e))) ∧ Below w.heap.size w w' := by
  obtain ⟨p, cap, rfl, ha⟩ := hr
  obtain ⟨p', cap', rfl, ha'⟩ := hr'
  have HA := Lib.hid ha
  have HA' := Lib.hid ha'
  clear ha ha'
  by_cases hlen : d.length = e.length
  · have HLE := Lib.hid hlen
    clear hlen
    have hne : ((d.length : Int) != (e.length : Int)) = false := by rw [HLE.out]; simp
    go_enter Try.func16, Try.ntmps16
    go_wp2_with fail
    go_loopw [5] (fun iv wr => ∃ i : Nat, i ≤ d.length ∧ iv = .int .i64 (i : Int) ∧ Hid (d.take i = e.take i) ∧ Below w.heap.size w wr) (fun iv _ => d.length - (intOf iv).toNat)
    case atStart => exact ⟨0, by omega, rfl, Lib.hid (by simp), Below.refl _ _⟩
    case round =>
      obtain ⟨i, hi, rfl, HT, hb⟩ := hrel
      by_cases hlt : i < d.length
      · obtain ⟨b, o, rfl, h0, h1⟩ := HA.out i hlt
        have hle2 : i < e.length := by rw [← HLE.out]; exact hlt
        obtain ⟨b', o', rfl, h0', h1'⟩ := HA'.out i hle2
        replace h0 := (hb.cell (World.block_lt_of_cell? w _ h0)).trans h0
        replace h1 := (hb.cell (World.block_lt_of_cell? w _ h1)).trans h1
        replace h0' := (hb.cell (World.block_lt_of_cell? w _ h0')).trans h0'
        replace h1' := (hb.cell (World.block_lt_of_cell? w _ h1')).trans h1'
        have z0 : (0 : Int) ≤ (i : Int) := by omega
        have z1 : (i : Int) < (d.length : Int) := by omega
        have z2 : (i : Int) < (e.length : Int) := Int.ofNat_lt.2 hle2
        have HX := Lib.hid (take_succ_getD d (0, 0) i hlt)
        have HY := Lib.hid (take_succ_getD e (0, 0) i hle2)
        obtain ⟨⟨x0, x1⟩, hx⟩ : ∃ z, z = d.getD i (0, 0) := ⟨_, rfl⟩
        obtain ⟨⟨y0, y1⟩, hy⟩ : ∃ z, z = e.getD i (0, 0) := ⟨_, rfl⟩
        rw [← hx] at h0 h1 HX
        rw [← hy] at h0' h1' HY
        simp only at h0 h1 h0' h1'
        by_cases he : x0 = y0 ∧ x1 = y1
        · obtain ⟨rfl, rfl⟩ := he
          have HN : Hid (d.take (i + 1) = e.take (i + 1)) := Lib.hid (by rw [HX.out, HY.out, HT.out])
          go_wp2_with fail
          go_region
          go_wp2_with fail
          go_roundw
          case rel => exact ⟨i + 1, by omega, by go_num, HN, hb.drew⟩
          case measure => simp [intOf]; omega
        · have HN : Hid (decide (d = e) = false) := Lib.hid (decide_eq_false fun h => he (by
            subst h
            rw [← hx] at hy
            cases hy; exact ⟨rfl, rfl⟩))
          by_cases he0 : x0 = y0
          · have he1 : ¬ x1 = y1 := fun h => he ⟨he0, h⟩
            clear he hx hy
            go_wp2_with fail
            go_region
            go_wp2_with fail
            go_ret
            exact ⟨ret_b HN.out, hb.drew⟩
          · clear he hx hy
            go_wp2_with fail
            go_region
            go_wp2_with fail
            go_ret
            exact ⟨ret_b HN.out, hb.drew⟩
      · obtain rfl : i = d.length := by omega
        have HN : Hid (decide (d = e) = true) := Lib.hid (decide_eq_true (by
          have h := HT.out
          rw [List.take_length, HLE.out, List.take_length] at h
          exact h))
        go_wp2_with fail
        go_ret
        exact ⟨ret_b HN.out, hb⟩
  · have HN : Hid (decide (d = e) = false) := Lib.hid (decide_eq_false fun h => hlen (by rw [h]))
    have hne : ((d.length : Int) != (e.length : Int)) = true := by rw [bne_iff_ne]; omega
    clear hlen
    go_enter Try.func16, Try.ntmps16
    go_wp2_with fail
    go_ret
    exact ⟨ret_b HN.out, Below.refl _ _⟩
end Go.Proofs.Ytnbjcelfdppkcab
namespace Go.Proofs.Ytnbjcelfdppkcab
open Go.RowKit

/-- The cells of a list of dependencies. -/
def depsV : List (Int × Int) → List Value
  | [] => []
  | d :: t => .int .i64 d.1 :: .int .i64 d.2 :: depsV t
theorem depsV_len : ∀ ds : List (Int × Int), (depsV ds).length = ds.length * 2
  | [] => rfl
  | d :: t => by simp only [depsV, List.length_cons, depsV_len t]; omega
theorem depsV_get : ∀ (ds : List (Int × Int)) (i : Nat), i < ds.length → (depsV ds)[i * 2]? = some (.int .i64 (ds.getD i (0, 0)).1) ∧ (depsV ds)[i * 2 + 1]? = some (.int .i64 (ds.getD i (0, 0)).2)
  | [], i, h => absurd h (Nat.not_lt_zero _)
  | d :: t, 0, _ => ⟨rfl, rfl⟩
  | d :: t, i + 1, h => by
    have ih := depsV_get t i (by simpa using h)
    rw [show (i + 1) * 2 = i * 2 + 1 + 1 by omega]
    simpa [depsV] using ih
theorem depsV_set : ∀ (ds : List (Int × Int)) (i : Nat) (a b : Int), ((depsV ds).set (i * 2) (.int .i64 a)).set (i * 2 + 1) (.int .i64 b) = depsV (ds.set i (a, b))
  | [], i, a, b => by simp [depsV]
  | d :: t, 0, a, b => rfl
  | d :: t, i + 1, a, b => by
    have ih := depsV_set t i a b
    rw [show (i + 1) * 2 = i * 2 + 1 + 1 by omega]
    simp only [depsV, List.set_cons_succ]
    rw [ih]
/-- A slice of dependencies that the call owns. -/
def OwnD (w : World) (B : Nat) (v : Value) (ds : List (Int × Int)) : Prop := w.ownsRow B 61 2 v ds.length (depsV ds)
theorem infoDp : (Try.prog.info? 61).map (fun i => (i.zero, i.size, i.bytes)) = some (some (.agg #[.int .i64 0, .int .i64 0]), 2, 16) := by kernel_rfl
theorem OwnD.read {w : World} {B : Nat} {v : Value} {ds : List (Int × Int)} (h : OwnD w B v ds) : ReadD w v ds := by
  rcases h.2 with ⟨rfl, h0⟩ | ⟨g, cap, cur, rfl, hB, hgg, rest⟩
  · exact ⟨none, 0, by rw [h0], fun i hi => by omega⟩
  · refine ⟨_, cap, rfl, fun i hi => ⟨g, 0, rfl, ?_, ?_⟩⟩
    · rw [Nat.zero_add, World.ownsRow.cellAt h (i * 2) (by omega), (depsV_get ds i hi).1]
    · rw [Nat.zero_add, World.ownsRow.cellAt h (i * 2 + 1) (by omega), (depsV_get ds i hi).2]
theorem ReadD.kept {w w' : World} {v : Value} {ds : List (Int × Int)} (h : ReadD w v ds) (hb : Below w.heap.size w w') : ReadD w' v ds := by
  obtain ⟨a, cap, hv, hc⟩ := h
  refine ⟨a, cap, hv, fun i hi => ?_⟩
  obtain ⟨b, o, ha, h0, h1⟩ := hc i hi
  exact ⟨b, o, ha, (hb.cell (World.block_lt_of_cell? w _ h0)).trans h0, (hb.cell (World.block_lt_of_cell? w _ h1)).trans h1⟩
theorem OwnD.lt {w : World} {B : Nat} {v : Value} {ds : List (Int × Int)} (h : OwnD w B v ds) : ∀ k, v.ownBlock = some k → B ≤ k ∧ k < w.heap.size := World.ownsRow.lt h
theorem OwnD.below {w w' : World} {B C : Nat} {v : Value} {ds : List (Int × Int)} (h : OwnD w B v ds) (hb : Below C w w') (hC : ∀ k, v.ownBlock = some k → k < C) : OwnD w' B v ds := by
  refine ⟨h.1, ?_⟩
  rcases h.2 with hn | ⟨g, cap, cur, rfl, hB, hgg, rest⟩
  · exact .inl hn
  · exact .inr ⟨g, cap, cur, rfl, hB, (hb.block g (hC g rfl)).trans hgg, rest⟩
theorem OwnD.store {w : World} {B g cap n : Nat} {ds : List (Int × Int)} (h : OwnD w B (.slice (some ⟨g, 0, none⟩) n cap) ds) (i : Nat) (a b : Int) : OwnD ((w.setCell ⟨g, i * 2, none⟩ (.int .i64 a)).setCell ⟨g, i * 2 + 1, none⟩ (.int .i64 b)) B (.slice (some ⟨g, 0, none⟩) n cap) (ds.set i (a, b)) := by
  have hn : n = ds.length := by rcases h.2 with ⟨h', _⟩ | ⟨g', cap', cur, h', _⟩ <;> simp at h'; omega
  subst hn
  have h1 := (World.ownsRow.stored (World.ownsRow.stored h (i * 2) (.int .i64 a)).1 (i * 2 + 1) (.int .i64 b)).1
  rw [depsV_set] at h1
  unfold OwnD
  rw [List.length_set]; exact h1
theorem depsV_zero : ∀ n : Nat, depsV (List.replicate n (0, 0)) = List.replicate (n * 2) (.int .i64 0)
  | 0 => rfl
  | n + 1 => by
    rw [show (n + 1) * 2 = n * 2 + 1 + 1 by omega, List.replicate_succ, List.replicate_succ, List.replicate_succ, depsV, depsV_zero n]
theorem made_deps (n : Nat) : (madeCells (Value.cells (.agg #[.int .i64 0, .int .i64 0])) (n * 2)).toList = depsV (List.replicate n (0, 0)) := by
  rw [depsV_zero]
  unfold madeCells
  apply List.ext_getElem
  · simp
  · intro i h1 h2
    simp only [Array.toList_map, List.getElem_map, List.getElem_replicate, Array.getElem_toList, Array.getElem_range]
    show (#[Value.int .i64 0, Value.int .i64 0])[i % 2]! = _
    rcases (show i % 2 = 0 ∨ i % 2 = 1 by omega) with h | h <;> rw [h] <;> rfl
theorem OwnD.full {w : World} {B : Nat} {v : Value} {n : Nat} (h : w.ownsRow B 61 2 v n (madeCells (Value.cells (.agg #[.int .i64 0, .int .i64 0])) (n * 2)).toList) : OwnD w B v (List.replicate n (0, 0)) := by
  unfold OwnD
  rw [List.length_replicate, ← made_deps]; exact h
/-- A slice of dependencies of the call's own. -/
def RetD (ds : List (Int × Int)) (w : World) (e : Ending) (w' : World) : Prop := ∃ v, e = .returned v ∧ OwnD w' w.heap.size v ds ∧ Below w.heap.size w w'
/-- What a region of two lists' places holds on to. -/
theorem keep4 {w3 w' w'' : World} {p0 p1 p2 p3 : Addr} {v0 v1 v2 v3 : Value} (h : w'.cell? p0 = some v0 ∧ w'.cell? p1 = some v1 ∧ w'.cell? p2 = some v2 ∧ w'.cell? p3 = some v3 ∧ Below w3.heap.size w3 w') (b : Below w'.heap.size w' w'') :
    w''.cell? p0 = some v0 ∧ w''.cell? p1 = some v1 ∧ w''.cell? p2 = some v2 ∧ w''.cell? p3 = some v3 ∧ Below w3.heap.size w3 w'' :=
  ⟨(b.cell (World.block_lt_of_cell? _ _ h.1)).trans h.1, (b.cell (World.block_lt_of_cell? _ _ h.2.1)).trans h.2.1, (b.cell (World.block_lt_of_cell? _ _ h.2.2.1)).trans h.2.2.1, (b.cell (World.block_lt_of_cell? _ _ h.2.2.2.1)).trans h.2.2.2.1, h.2.2.2.2.trans (b.mono h.2.2.2.2.size)⟩
theorem below4 {w3 w' : World} {p0 p1 p2 p3 : Addr} {v0 v1 v2 v3 : Value} (h : w'.cell? p0 = some v0 ∧ w'.cell? p1 = some v1 ∧ w'.cell? p2 = some v2 ∧ w'.cell? p3 = some v3 ∧ Below w3.heap.size w3 w') : Below w3.heap.size w3 w' := h.2.2.2.2
theorem dep_box2 (w : World) (T T' : TypeId) (a b l r : Value) : (((w.alloc (.cells #[a, b] T)).alloc (.cells #[l, r] T')).cell? ⟨w.heap.size, 0, none⟩ = some a ∧ ((w.alloc (.cells #[a, b] T)).alloc (.cells #[l, r] T')).cell? ⟨w.heap.size, 1, none⟩ = some b) ∧ ((w.alloc (.cells #[a, b] T)).alloc (.cells #[l, r] T')).cell? ⟨w.heap.size + 1, 0, none⟩ = some l ∧ ((w.alloc (.cells #[a, b] T)).alloc (.cells #[l, r] T')).cell? ⟨w.heap.size + 1, 1, none⟩ = some r := boxTD (Below.refl _ _)
end Go.Proofs.Ytnbjcelfdppkcab
namespace Go.Proofs.Ytnbjcelfdppkcab
open Go.RowKit

theorem depsV_append (a b : List (Int × Int)) : depsV (a ++ b) = depsV a ++ depsV b := by
  induction a with
  | nil => rfl
  | cons x t ih => simp [depsV, ih]
theorem cell_two_new (w : World) (x y : Value) (t : TypeId) : ∀ j u, [x, y][j]? = some u → (w.alloc (.cells #[x, y] t)).cell? ((⟨w.heap.size, 0, none⟩ : Addr).add j) = some u := by
  intro j u hj
  match j, hj with
  | 0, hj =>
    simp at hj
    subst hj
    simp [Addr.add]
  | 1, hj =>
    simp at hj
    subst hj
    simp [Addr.add]
theorem two_i64 (x y : Int) : ∀ u ∈ [Value.int .i64 x, Value.int .i64 y], u.oneCell' = true := by
  intro u hu
  simp at hu
  rcases hu with rfl | rfl <;> rfl
theorem OwnD.nil (w : World) (B : Nat) : OwnD w B (.slice .none 0 0) [] := World.ownsRow_nil _ _ _ _
theorem OwnD.snoc {w : World} {B : Nat} {v : Value} {ds : List (Int × Int)} {x y : Int} (h : w.ownsRow B 61 2 v (ds.length + 1) (depsV ds ++ [.int .i64 x, .int .i64 y])) : OwnD w B v (ds ++ [(x, y)]) := by
  unfold OwnD
  rw [List.length_append, List.length_singleton, depsV_append]; exact h
theorem OwnD.base {w : World} {B B' : Nat} {v : Value} {ds : List (Int × Int)} (h : OwnD w B v ds) (hB : B' ≤ B) : OwnD w B' v ds := by
  refine ⟨h.1, ?_⟩
  rcases h.2 with hn | ⟨g, cap, cur, rfl, hb, rest⟩
  · exact .inl hn
  · exact .inr ⟨g, cap, cur, rfl, by omega, rest⟩
theorem OwnD.shape {w : World} {B : Nat} {v : Value} {ds : List (Int × Int)} (h : OwnD w B v ds) : ∃ a c, v = .slice a ds.length c := by
  rcases h.2 with ⟨rfl, h0⟩ | ⟨g, cap, cur, rfl, -⟩
  · exact ⟨_, _, by rw [h0]⟩
  · exact ⟨_, _, rfl⟩
/-- Blocks of rows of dependencies and blocks of rows of ints differ. -/
theorem dep_apart {w : World} {B B' : Nat} {v v' : Value} {n : Nat} {xs : List Value} {l : List Int} (h : w.ownsRow B 61 2 v n xs) (h' : OwnI w B' v' l) : ∀ g, v.ownBlock = some g → v'.ownBlock ≠ some g := by
  intro g hg hg'
  rcases h.2 with ⟨rfl, _⟩ | ⟨g1, cap, cur, rfl, hB, hgg, rest⟩
  · cases hg
  · rcases h'.2 with ⟨rfl, _⟩ | ⟨g2, cap2, cur2, rfl, hB2, hgg2, rest2⟩
    · cases hg'
    · simp [Value.ownBlock] at hg hg'
      subst hg hg'
      rw [hgg] at hgg2
      simp at hgg2
theorem one_at (w : World) (T : TypeId) (a : Value) : (w.alloc (.cells #[a] T)).cell? ⟨w.heap.size, 0, none⟩ = some a := World.cell?_alloc_mark w #[a] T (0, 0) 0
/-- A cell of a block that no row from B on holds is as it was, when a row grew. -/
theorem kept_cell {w w' : World} {row : Option Nat} {B : Nat} {p : Addr} (hg : w.grownBy w' row) (hB : ∀ g, row = some g → B < g) (hp : p.block < w.heap.size) (hlt : p.block ≤ B) : w'.cell? p = w.cell? p :=
  World.cell?_of_block (hg.block p.block hp (fun e => by have := hB p.block e.symm; omega))
end Go.Proofs.Ytnbjcelfdppkcab
