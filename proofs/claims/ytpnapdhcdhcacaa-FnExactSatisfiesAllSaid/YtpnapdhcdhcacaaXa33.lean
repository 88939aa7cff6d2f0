/- Texts of this claim, merged: MarkD, AxI. Conditions: as stated. -/
import Derived.Test.YtpnapdhcdhcacaaXa17
import Derived.Test.YtpnapdhcdhcacaaXa2
import Derived.Test.YtpnapdhcdhcacaaXa22
namespace Go.Proofs.Ytpnapdhcdhcacaa
open Go.RowKit

/-- k, k + 1; k + 2, k + 3; and so on. -/
def upD (k : Int) (n : Nat) : List (Int × Int) := (List.range n).map fun (j : Nat) => (k + 2 * (j : Int), k + 2 * (j : Int) + 1)
theorem upD_length (k : Int) (n : Nat) : (upD k n).length = n := by simp [upD]
theorem upD_get (k : Int) (n j : Nat) (h : j < n) : (upD k n).getD j (0, 0) = (k + 2 * (j : Int), k + 2 * (j : Int) + 1) := by
  rw [List.getD_eq_getElem?_getD, List.getElem?_eq_getElem (by rw [upD_length]; exact h)]
  simp [upD]
theorem upD_start (k : Int) (l : List (Int × Int)) : upD k 0 ++ l.drop 0 = l := by simp [upD]
theorem upD_step (k : Int) (l : List (Int × Int)) (j : Nat) (h : j < l.length) : (upD k j ++ l.drop j).set j (k + 2 * (j : Int), k + 2 * (j : Int) + 1) = upD k (j + 1) ++ l.drop (j + 1) := by
  have e : upD k (j + 1) = upD k j ++ [(k + 2 * (j : Int), k + 2 * (j : Int) + 1)] := by simp [upD, List.range_succ]
  rw [List.set_append, if_neg (by rw [upD_length]; omega), upD_length, Nat.sub_self, List.drop_eq_getElem_cons h, e, List.append_assoc]
  rfl
theorem OwnD.num {w : World} {B g n cap : Nat} {ds : List (Int × Int)} (h : OwnD w B (.slice (some ⟨g, 0, none⟩) n cap) ds) : n = ds.length := by
  rcases h.2 with ⟨h', _⟩ | ⟨g', cap', cur, h', _⟩ <;> simp at h'; omega
theorem OwnD.cells2 {w : World} {B g n cap : Nat} {ds : List (Int × Int)} (h : OwnD w B (.slice (some ⟨g, 0, none⟩) n cap) ds) (j : Nat) (hj : j < ds.length) :
    (w.cell? ⟨g, j * 2, none⟩ = some (.int .i64 (ds.getD j (0, 0)).1) ∧ w.cell? ⟨g, j * 2 + 1, none⟩ = some (.int .i64 (ds.getD j (0, 0)).2)) ∧ w.frozen? ⟨g, j * 2, none⟩ = false ∧ w.frozen? ⟨g, j * 2 + 1, none⟩ = false := by
  have hn := h.num
  subst hn
  exact ⟨⟨by rw [World.ownsRow.cellAt h (j * 2) (by omega), (depsV_get ds j hj).1], by rw [World.ownsRow.cellAt h (j * 2 + 1) (by omega), (depsV_get ds j hj).2]⟩, World.ownsRow.frozenAt h _, World.ownsRow.frozenAt h _⟩
theorem OwnD.store2 {w : World} {B g n cap : Nat} {ds : List (Int × Int)} (h : OwnD w B (.slice (some ⟨g, 0, none⟩) n cap) ds) (j : Nat) (a b : Int) :
    OwnD ((w.setCell ⟨g, j * 2, none⟩ (.int .i64 a)).setCell ⟨g, j * 2 + 1, none⟩ (.int .i64 b)) B (.slice (some ⟨g, 0, none⟩) n cap) (ds.set j (a, b)) ∧ w.grownBy ((w.setCell ⟨g, j * 2, none⟩ (.int .i64 a)).setCell ⟨g, j * 2 + 1, none⟩ (.int .i64 b)) (some g) := by
  refine ⟨h.store j a b, ?_⟩
  have hn := h.num
  subst hn
  obtain ⟨h1, h2⟩ := World.ownsRow.stored h (j * 2) (.int .i64 a)
  obtain ⟨h3, h4⟩ := World.ownsRow.stored h1 (j * 2 + 1) (.int .i64 b)
  exact ⟨h4.os.trans h2.os, h4.tape.trans h2.tape, h4.output.trans h2.output, Nat.le_trans h2.size h4.size, fun q hq hne => (h4.block q (Nat.lt_of_lt_of_le hq h2.size) hne).trans (h2.block q hq hne)⟩
set_option maxHeartbeats 1600000 in
theorem markD_any (v : Value) (ds : List (Int × Int)) (k : Int) (B : Nat) (w : World) (ho : OwnD w B v ds) (hl : ds.length ≤ 1048576) (hk0 : -1000000000 ≤ k) (hk1 : k ≤ 1000000000) :
    Calls Try.prog 13 #[v, .int .i64 k] w fun e w' => e = .returned (.int .i64 (k + 2 * (ds.length : Int))) ∧ OwnD w' B v (upD k ds.length) ∧ w.grownBy w' v.ownBlock := by
  rcases ho.2 with ⟨rfl, h0⟩ | ⟨g, cap, cur, rfl, hBg, hgg, -⟩
  · obtain rfl : ds = [] := List.eq_nil_of_length_eq_zero h0
    go_enter Try.func13, Try.ntmps13
    go_wp2_with fail
    refine wp_loop_rounds 1 ?_
    rw [rounds_succ]
    go_wp2_with fail
    go_ret
    exact ⟨ret_int (by simp), by simpa [upD] using ho, World.grownBy.refl _ _⟩
  · clear hgg
    go_enter Try.func13, Try.ntmps13
    go_wp2_with fail
    go_loopw [1, 5] (fun kv iv wr => ∃ j : Nat, j ≤ ds.length ∧ kv = .int .i64 (k + 2 * (j : Int)) ∧ iv = .int .i64 (j : Int) ∧ OwnD wr B (.slice (some ⟨g, 0, none⟩) ds.length cap) (upD k j ++ ds.drop j) ∧ w.grownBy wr (some g)) (fun _ iv _ => ds.length - (intOf iv).toNat)
    case atStart => exact ⟨0, by omega, by simp, rfl, by rw [upD_start]; exact ho, World.grownBy.refl _ _⟩
    case round =>
      clear ho
      obtain ⟨j, hj, rfl, rfl, ho', hg⟩ := hrel
      by_cases hlt : j < ds.length
      · obtain ⟨⟨h0, h1⟩, f0, f1⟩ := ho'.cells2 j (by rw [List.length_append, upD_length, List.length_drop]; omega)
        have z0 : (0 : Int) ≤ (j : Int) := by omega
        have z1 : (j : Int) < (ds.length : Int) := by omega
        have z2 : IntKind.i64.wrap (k + 2 * (j : Int) + 1) = k + 2 * (j : Int) + 1 := IntWalk.i64_in _ (by omega)
        have z3 : IntKind.i64.wrap (k + 2 * (j : Int) + 1 + 1) = k + 2 * (j : Int) + 1 + 1 := IntWalk.i64_in _ (by omega)
        obtain ⟨s1, s2⟩ := ho'.store2 j (k + 2 * (j : Int)) (k + 2 * (j : Int) + 1)
        rw [upD_step k ds j hlt] at s1
        have S1 := Lib.hid s1
        have S2 := Lib.hid s2
        have HG := Lib.hid hg
        clear s1 s2 hg ho'
        go_wp2_with fail
        go_roundw
        case rel => exact ⟨j + 1, by omega, by go_num, by go_num, S1.out, ⟨S2.out.os.trans HG.out.os, S2.out.tape.trans HG.out.tape, S2.out.output.trans HG.out.output, Nat.le_trans HG.out.size S2.out.size, fun q hq hne => (S2.out.block q (Nat.lt_of_lt_of_le hq HG.out.size) hne).trans (HG.out.block q hq hne)⟩⟩
        case measure => simp [intOf]; omega
      · obtain rfl : j = ds.length := by omega
        go_wp2_with fail
        go_ret
        rw [List.drop_eq_nil_of_le (Nat.le_refl _), List.append_nil] at ho'
        exact ⟨rfl, ho', hg⟩
set_option maxHeartbeats 1600000 in
theorem heldD_any (v : Value) (n : Nat) (k : Int) (w : World) (hr : ReadD w v (upD k n)) (hl : n ≤ 1048576) (hk0 : -1000000000 ≤ k) (hk1 : k ≤ 1000000000) :
    Calls Try.prog 28 #[v, .int .i64 k] w fun e w' => e = .returned (.int .i64 (k + 2 * (n : Int))) ∧ w = w' := by
  obtain ⟨a, cap, rfl, ha⟩ := hr
  rw [upD_length]
  have HA : Hid (∀ i, i < n → ∃ b o, a = some ⟨b, o, none⟩ ∧ w.cell? ⟨b, o + i * 2, none⟩ = some (.int .i64 (k + 2 * (i : Int))) ∧ w.cell? ⟨b, o + i * 2 + 1, none⟩ = some (.int .i64 (k + 2 * (i : Int) + 1))) := Lib.hid fun i hi => by
    obtain ⟨b, o, e1, e2, e3⟩ := ha i (by rw [upD_length]; exact hi)
    rw [upD_get k n i hi] at e2 e3
    exact ⟨b, o, e1, e2, e3⟩
  clear ha
  go_enter Try.func28, Try.ntmps28
  go_wp2_with fail
  go_loop [1, 5] (fun kv iv => ∃ j : Nat, j ≤ n ∧ kv = .int .i64 (k + 2 * (j : Int)) ∧ iv = .int .i64 (j : Int)) (fun _ iv => n - (intOf iv).toNat)
  case atStart => exact ⟨0, by omega, by simp, rfl⟩
  case round =>
    obtain ⟨j, hj, rfl, rfl⟩ := hrel
    by_cases hlt : j < n
    · obtain ⟨b, o, rfl, h0, h1⟩ := HA.out j hlt
      have z0 : (0 : Int) ≤ (j : Int) := by omega
      have z1 : (j : Int) < (n : Int) := by omega
      have z2 : IntKind.i64.wrap (k + 2 * (j : Int) + 1) = k + 2 * (j : Int) + 1 := IntWalk.i64_in _ (by omega)
      have z3 : IntKind.i64.wrap (k + 2 * (j : Int) + 1 + 1) = k + 2 * (j : Int) + 1 + 1 := IntWalk.i64_in _ (by omega)
      have hb : (k + 2 * (j : Int) != k + 2 * (j : Int)) = false := by simp
      have hb1 : (k + 2 * (j : Int) + 1 != k + 2 * (j : Int) + 1) = false := by simp
      go_wp2_with fail
      go_round
      case rel => exact ⟨j + 1, by omega, by go_num, by go_num⟩
      case measure => simp [intOf]; omega
    · obtain rfl : j = n := by omega
      go_wp2_with fail
      go_ret
      exact ⟨rfl, rfl⟩
/-! ### With their bounds -/
def OwnDR (w : World) (B C : Nat) (v : Value) (l : List (Int × Int)) : Prop := OwnD w B v l ∧ ∀ g, v.ownBlock = some g → g < C
theorem OwnD.range {w : World} {B : Nat} {v : Value} {l : List (Int × Int)} (h : OwnD w B v l) : OwnDR w B w.heap.size v l := ⟨h, fun g hg => (h.lt g hg).2⟩
theorem OwnDR.same {w w' : World} {B C : Nat} {v : Value} {l : List (Int × Int)} (h : OwnDR w B C v l) (hs : Same B C w w') : OwnDR w' B C v l := by
  refine ⟨⟨h.1.1, ?_⟩, h.2⟩
  rcases h.1.2 with hn | ⟨g, cap, cur, rfl, hB, hgg, rest⟩
  · exact .inl hn
  · exact .inr ⟨g, cap, cur, rfl, hB, (hs g hB (h.2 g rfl)).trans hgg, rest⟩
theorem OwnDR.read {w : World} {B C : Nat} {v : Value} {l : List (Int × Int)} (h : OwnDR w B C v l) : ReadD w v l := h.1.read
def MarkDs (k : Int) (l : List (Int × Int)) (B C : Nat) (v : Value) (w : World) (e : Ending) (w' : World) : Prop := e = .returned (.int .i64 (k + 2 * (l.length : Int))) ∧ OwnDR w' B C v (upD k l.length) ∧ Mid B C w w'
theorem markDepR_any (v : Value) (l : List (Int × Int)) (k : Int) (B C : Nat) (w : World) (ho : OwnDR w B C v l) (hl : l.length ≤ 1048576) (hk0 : -1000000000 ≤ k) (hk1 : k ≤ 1000000000) :
    Calls Try.prog 13 #[v, .int .i64 k] w (MarkDs k l B C v w) :=
  (markD_any v l k B w ho.1 hl hk0 hk1).mono fun _ _ ⟨a, b, c⟩ => ⟨a, ⟨b, ho.2⟩, Mid.ofGrown c fun g hg => ⟨(ho.1.lt g hg).1, ho.2 g hg⟩⟩
theorem heldDepR_any (v : Value) (n : Nat) (k : Int) (w : World) (hr : ReadD w v (upD k n)) (hl : n ≤ 1048576) (hk0 : -1000000000 ≤ k) (hk1 : k ≤ 1000000000) :
    Calls Try.prog 28 #[v, .int .i64 k] w fun e w' => e = .returned (.int .i64 (k + 2 * (n : Int))) ∧ Below w.heap.size w w' :=
  (heldD_any v n k w hr hl hk0 hk1).mono fun _ w' ⟨a, b⟩ => ⟨a, by rw [← b]; exact Below.refl _ _⟩
end Go.Proofs.Ytpnapdhcdhcacaa
namespace Go.Proofs.Ytpnapdhcdhcacaa
open Go.RowKit

section
set_option maxRecDepth 20000
set_option maxHeartbeats 3200000
theorem insert0_none (B g : Nat) (u : Value) (vb : Nat) (w : World) (hB : B ≤ w.heap.size) (h1u : u.oneCell' = true) (hown : w.ownsRow B 47 1 (.slice (some ⟨g, 0, none⟩) 0 0) 0 []) (hu : w.cell? ⟨vb, 0, none⟩ = some u) :
    Calls Try.prog 70 #[.slice (some ⟨g, 0, none⟩) 0 0, .int .i64 0, .slice (some ⟨vb, 0, none⟩) 1 1] w fun e w' => ∃ v', e = .returned v' ∧ w'.ownsRow B 47 1 v' 1 [u] ∧ w.grownBy w' (some g) := by
  obtain ⟨j0, hj, hz0, hz1, hz2⟩ := info_parts infoSj
  have HJ : Hid (_ ∧ _ ∧ _ ∧ _) := Lib.hid ⟨hj, hz0, hz1, hz2⟩
  have HO := Lib.hid hown
  have HU : Hid (∀ j x, [u][j]? = some x → w.cell? ((⟨vb, 0, none⟩ : Addr).add j) = some x) := Lib.hid (fun j x hx => by
    cases j with
    | zero => simp at hx; subst hx; exact hu
    | succ j => simp at hx)
  have H1 : Hid (∀ x ∈ [u], x.oneCell' = true) := Lib.hid (fun x hx => by rw [List.mem_singleton] at hx; rw [hx]; exact h1u)
  clear hj hz0 hz1 hz2 hown hu h1u
  go_enter Try.func70, Try.ntmps70
  go_wp2_with (at_builtin; refine wpList_append_own _ rfl _ _ 24 rfl B 47 j0 (.slice none 0 0) 1 24 Try.underlying24 HJ.out.1 HJ.out.2.1 HJ.out.2.2.1 HJ.out.2.2.2 rfl (by decide) _ _ _ rfl HO.out ⟨vb, 0, none⟩ 1 1 [u] rfl rfl HU.out H1.out (by unfold maxLen; omega) (by omega) hB ?_; intro v9 w9 hown9 hgrow9 _; have HR := Lib.hid (And.intro hown9 hgrow9); obtain ⟨p9, k9, rfl⟩ := row_form12 hown9; clear hown9 hgrow9)
  go_ret
  exact ⟨_, rfl, HR.out.1, HR.out.2⟩
theorem insert0_some (B g n : Nat) (xs : List Value) (u : Value) (vb : Nat) (w : World) (hB : B ≤ w.heap.size) (h0 : 0 < n) (hn : n ≤ 40) (h1 : ∀ v ∈ xs, v.oneCell' = true) (h1u : u.oneCell' = true) (hown : w.ownsRow B 47 1 (.slice (some ⟨g, 0, none⟩) n n) n xs) (hu : w.cell? ⟨vb, 0, none⟩ = some u) :
    Calls Try.prog 70 #[.slice (some ⟨g, 0, none⟩) n n, .int .i64 0, .slice (some ⟨vb, 0, none⟩) 1 1] w fun e w' => ∃ v', e = .returned v' ∧ w'.ownsRow B 47 1 v' (n + 1) (u :: xs) ∧ w.grownBy w' (some g) := by
  obtain ⟨j0, hj, hz0, hz1, hz2⟩ := info_parts infoSj
  have hxl : xs.length = n := by have := hown.1; omega
  have hcs : ∀ j v, xs[j]? = some v → w.cell? ((⟨g, 0, none⟩ : Addr).add j) = some v := hown.cells (g := g) rfl
  have hold : (Builtin.firstCells j0.size 0 (.slice (some ⟨g, 0, none⟩) 0 n)).run Try.prog w.drew = .ok ([] : List Value).toArray w.drew := by
    rw [hz1]
    exact run_firstCells_some w.drew 1 0 ⟨g, 0, none⟩ 0 n [] rfl (fun j v hj => by simp at hj)
  have hrz : ∀ ty, (Builtin.append_ #[24, 3] ty #[.slice (some ⟨g, 0, none⟩) 0 n, .int .i64 ((n : Int) + 1)]).run Try.prog w =
      .ok (.slice (some ⟨w.heap.size, 0, none⟩) (n + 1) (grownCap w (n + 1) n 47)) (w.drew.alloc (.cells (#[] ++ Builtin.zeroCells (Value.slice none 0 0).cells (n + 1) ++ Builtin.zeroCells (Value.slice none 0 0).cells (grownCap w (n + 1) n 47 - (n + 1))) 47)) := fun ty => by
    have h := Lib.run_append_grow_zeros (P := Try.prog) w 24 3 ty 47 j0 _ .i64 .i64 Try.underlying24 Try.underlying3 hj hz0 (some ⟨g, 0, none⟩) 0 n [] hold (n + 1) (by omega) (by omega) (by omega) (by omega) (by rw [hz2]; omega) (by rw [hz2, Nat.zero_add]; exact growslice_fits (by omega) (by omega))
    rw [Nat.zero_add] at h
    exact h
  obtain ⟨G, hG⟩ : ∃ G, G = grownCap w (n + 1) n 47 := ⟨_, rfl⟩
  have hGn : n + 1 ≤ G := by rw [hG]; exact grownCap_ge w _ _ _
  have hGm : G ≤ maxLen := by rw [hG]; exact grownCap_le_maxLen w (n + 1) n 47 (by unfold maxLen; omega)
  rw [← hG] at hrz
  obtain ⟨ROW, hROW⟩ : ∃ ROW : List Value, ROW.toArray = #[] ++ Builtin.zeroCells (Value.slice none 0 0).cells (n + 1) ++ Builtin.zeroCells (Value.slice none 0 0).cells (G - (n + 1)) := ⟨_, Array.toArray_toList⟩
  have hRl : ROW.length = G := by
    have := congrArg Array.size hROW
    simp [size_zeroCells, Value.cells] at this
    omega
  rw [← hROW] at hrz
  have HX := Lib.hid hcs
  have HRZ := Lib.hid hrz
  have HUU := Lib.hid hu
  have HJ : Hid (_ ∧ _ ∧ _ ∧ _) := Lib.hid ⟨hj, hz0, hz1, hz2⟩
  have HGW : Hid (g < w.heap.size ∧ B ≤ g) := Lib.hid (by have := hown.lt g rfl; exact ⟨this.2, this.1⟩)
  have H1U : Hid (∀ x ∈ [u], x.oneCell' = true) := Lib.hid (fun x hx => by rw [List.mem_singleton] at hx; rw [hx]; exact h1u)
  have H1X := Lib.hid h1
  clear hROW hold hcs hown hrz hu hG h1 h1u hj hz0 hz1 hz2
  have hsz : (Try.prog.info? 47).map (·.size) = some 1 := by
    have h := HJ.out.1
    rw [h, Option.map_some, HJ.out.2.2.1]
  have hvw : vb < w.heap.size := World.block_lt_of_cell? w _ HUU.out
  have hgw := HGW.out
  have al := (Below.refl w.heap.size w).drew.alloc (Nat.le_refl _) (.cells ROW.toArray 47)
  have HU4 : Hid (∀ j x, [u][j]? = some x → (w.drew.alloc (.cells ROW.toArray 47)).cell? ((⟨vb, 0, none⟩ : Addr).add j) = some x) := Lib.hid (fun j x hx => by
    cases j with
    | zero => simp at hx; subst hx; exact keep_in HUU.out al
    | succ j => simp at hx)
  have HX4 : Hid (∀ w', Below w.heap.size w w' → ∀ j v, xs[j]? = some v → w'.cell? ((⟨g, 0, none⟩ : Addr).add j) = some v) := Lib.hid (fun w' hb j v h => keep_in (HX.out j v h) hb)
  have HAL := Lib.hid al
  have HSP : Hid (splice (splice ROW 0 [u]) 1 xs = u :: (xs ++ ROW.drop (n + 1))) := Lib.hid (by
    obtain ⟨r, R, rfl⟩ : ∃ r R, ROW = r :: R := by
      cases ROW with
      | nil => simp at hRl; omega
      | cons r R => exact ⟨r, R, rfl⟩
    unfold splice
    simp [hxl, Nat.add_comm])
  have HM1 : Hid ([u].length = Nat.min 1 (n + 1)) := Lib.hid (Nat.min_eq_left (Nat.le_add_left 1 n)).symm
  have HF1 : Hid (0 + [u].length ≤ ROW.length) := Lib.hid (by rw [hRl]; show 0 + 1 ≤ G; omega)
  have HM2 : Hid (xs.length = Nat.min n n) := Lib.hid (by rw [hxl]; exact (Nat.min_self n).symm)
  have HF2 : Hid (1 + xs.length ≤ (splice ROW 0 [u]).length) := Lib.hid (by rw [length_splice _ _ _ HF1.out, hRl, hxl]; omega)
  have hg1 : ¬ (G = 1) := by omega
  have hw1 : IntKind.i64.wrap 1 = 1 := by decide
  have hb1 : (1 : Int) ≤ (n : Int) + 1 := by omega
  have hn1 : n + 1 - 1 = n := by omega
  have hg0 : ¬ (n = 0) := by omega
  clear al
  have hi1 : (0 : Int) < (n : Int) := by omega
  have hi2 : ¬ ((n : Int) = 0) := by omega
  have hi3 : (n : Int) < (n : Int) + 1 := by omega
  go_enter Try.func70, Try.ntmps70
  go_wp2_with (first
    | (at_builtin; refine Lib.wpList_append_run _ rfl _ _ _ _ rfl _ _ rfl rfl _ _ (HRZ.out _) ?_)
    | (refine wpList_copy_splice rfl (.tmp 43) (.tmp 44) 24 24 rfl 47 Try.underlying24 hsz _ _ _ _ _ _ rfl rfl w.heap.size 0 ROW 47 (heap_alloc_new w.drew _) [u] HM1.out (fun _ => ⟨rfl, ⟨vb, 0, none⟩, rfl, HU4.out⟩) HF1.out H1U.out w.heap.size w HAL.out (Nat.le_refl _) ?_; intro w4 HG4 hB4))
  go_region_law (refine step_copy_splice rfl (.tmp 50) (.tmp 53) 24 24 rfl 47 Try.underlying24 hsz (some ⟨w.heap.size, 1, none⟩) (some ⟨g, 0, none⟩) n (G - 1) n n (by simp [Act.eval, Act.put]) (by simp [Act.eval, Act.put]) w.heap.size 1 (splice ROW 0 [u]) 47 HG4.out xs HM2.out (fun _ => ⟨rfl, ⟨g, 0, none⟩, rfl, HX4.out _ hB4.drew⟩) HF2.out H1X.out w.heap.size w hB4.drew (Nat.le_refl _) ?_; intro w5 HG5 hB5)
  all_goals
    have HR5 : Hid (w5.ownsRow B 47 1 (.slice (some ⟨w.heap.size, 0, none⟩) (n + 1) G) (n + 1) (u :: xs)) := Lib.hid ⟨by rw [List.length_cons, hxl, Nat.mul_one], .inr ⟨w.heap.size, G, _, rfl, hB, HG5.out, hGn, hGm, by rw [List.size_toArray, length_splice _ _ _ HF2.out, length_splice _ _ _ HF1.out, hRl, Nat.mul_one], by
      rw [HSP.out, Nat.mul_one, ← hxl]
      show u :: (xs ++ ROW.drop (xs.length + 1)).take xs.length = u :: xs
      rw [List.take_left]⟩⟩
    go_wp2_with fail
    go_ret
    exact ⟨_, rfl, HR5.out, ⟨hB5.os, hB5.tape, hB5.output, hB5.size, fun k hk _ => hB5.block k hk⟩⟩
/-- The rows with one more ahead of them. -/
theorem OwnSS.consV {w w' : World} {B C C' : Nat} {v v' u : Value} {ll : List (List Int)} {l : List Int} {V : Nat → Value} (o1 : w.ownsRow B 47 1 v ll.length ((List.range ll.length).map V))
    (o3 : ∀ i, i < ll.length → OwnI w B (V i) (ll.getD i []) ∧ ∀ g, (V i).ownBlock = some g → g < C) (o4 : ∀ i j, i < j → j < ll.length → ∀ g, (V i).ownBlock = some g → (V j).ownBlock ≠ some g)
    (hu : OwnI w B u l) (huC : ∀ g, u.ownBlock = some g → g < C') (hud : ∀ i, i < ll.length → ∀ g, u.ownBlock = some g → (V i).ownBlock ≠ some g)
    (h1 : w'.ownsRow B 47 1 v' (ll.length + 1) (u :: (List.range ll.length).map V)) (hg : w.grownBy w' v.ownBlock) (hC : C ≤ C') (hv' : ∀ g, v'.ownBlock = some g → g < C') : OwnSS w' B C' v' (l :: ll) := by
  have hap : ∀ i, i < ll.length → ∀ g, v.ownBlock = some g → (V i).ownBlock ≠ some g := fun i hi => row_apart o1 (o3 i hi).1
  have hapu : ∀ g, v.ownBlock = some g → u.ownBlock ≠ some g := row_apart o1 hu
  refine ⟨fun i => match i with | 0 => u | i + 1 => V i, ?_, hv', fun i hi => ?_, fun i j hij hj g => ?_⟩
  · have e : (List.range (l :: ll).length).map (fun i => match i with | 0 => u | i + 1 => V i) = u :: (List.range ll.length).map V := by
      rw [List.length_cons, List.range_succ_eq_map, List.map_cons, List.map_map]
      rfl
    rw [e, List.length_cons]; exact h1
  · cases i with
    | zero => exact ⟨hu.keptBy hg hapu, fun g hgg => huC g hgg⟩
    | succ i =>
      have hlt : i < ll.length := by rw [List.length_cons] at hi; omega
      exact ⟨(o3 i hlt).1.keptBy hg (fun g hg => hap i hlt g hg), fun g hgg => Nat.lt_of_lt_of_le ((o3 i hlt).2 g hgg) hC⟩
  · cases j with
    | zero => exact absurd hij (Nat.not_lt_zero _)
    | succ j =>
      have hjl : j < ll.length := by rw [List.length_cons] at hj; omega
      cases i with
      | zero => exact hud j hjl g
      | succ i => exact o4 i j (by omega) hjl g
theorem insert0_any (B g n : Nat) (xs : List Value) (u : Value) (vb : Nat) (w : World) (hB : B ≤ w.heap.size) (hn : n ≤ 40) (h1 : ∀ v ∈ xs, v.oneCell' = true) (h1u : u.oneCell' = true) (hown : w.ownsRow B 47 1 (.slice (some ⟨g, 0, none⟩) n n) n xs) (hu : w.cell? ⟨vb, 0, none⟩ = some u) :
    Calls Try.prog 70 #[.slice (some ⟨g, 0, none⟩) n n, .int .i64 0, .slice (some ⟨vb, 0, none⟩) 1 1] w fun e w' => ∃ v', e = .returned v' ∧ w'.ownsRow B 47 1 v' (n + 1) (u :: xs) ∧ w.grownBy w' (some g) := by
  by_cases h0 : n = 0
  · subst h0
    obtain rfl : xs = [] := List.eq_nil_of_length_eq_zero (by have := hown.1; omega)
    exact insert0_none B g u vb w hB h1u hown hu
  · exact insert0_some B g n xs u vb w hB (by omega) hn h1 h1u hown hu
end
end Go.Proofs.Ytpnapdhcdhcacaa
